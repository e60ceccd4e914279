/-
  DERIVED. Merge: its lists are looked at.
-/
import Derived.Test.YtchikfabfhjkgaaMNew
set_option linter.unusedVariables false
set_option linter.unusedSimpArgs false
namespace Go.Proofs.Ytchikfabfhjkgaa
open Go.RowKit
/-- Lists of entries, as a slice of slices that may lie anywhere. -/
structure LL (w : World) (la : Option Addr) (R : List (List En)) : Prop where
  at' : ∀ (i : Nat) (r : List En), R[i]? = some r → ∃ lb lo a c, la = some ⟨lb, lo, none⟩ ∧ w.cell? ⟨lb, lo + i, none⟩ = some (.slice a r.length c) ∧ r.length ≤ c ∧ LAt w a r ∧ r.length < 4611686018427387904
theorem LL.below {w w' : World} {la : Option Addr} {R : List (List En)} (h : LL w la R) (b : Below w.heap.size w w') : LL w' la R := ⟨fun i r hr => by
  obtain ⟨lb, lo, a, c, h1, h2, h3, h4, h5⟩ := h.at' i r hr
  exact ⟨lb, lo, a, c, h1, cell_lat b h2, h3, h4.below b, h5⟩⟩
def RA (R : List (List En)) (w : World) (iv : Value) (wr : World) : Prop := ∃ i : Nat, iv = .int .i64 i ∧ i ≤ R.length ∧ (∀ (j : Nat) (r : List En), j < i → R[j]? = some r → rises r = true) ∧ Below w.heap.size w wr
/-- So far i sources are made. -/
def RB (R : List (List En)) (w : World) (sv iv : Value) (wr : World) : Prop := ∃ (i : Nat) (bxs : List Nat), iv = .int .i64 i ∧ i ≤ R.length ∧ bxs.length = i ∧ wr.ownsRow 0 46 1 sv i (bxs.map fun b => srcV b) ∧ (∀ k, sv.ownBlock = some k → w.heap.size ≤ k) ∧
  (∀ (j b : Nat) (r : List En), bxs[j]? = some b → R[j]? = some r → SrcAt w w.heap.size wr b r) ∧ bxs.Nodup ∧ Below w.heap.size w wr
theorem made_step {R : List (List En)} {w wr : World} {sv : Value} {p : Nat} {bxs : List Nat} {r : List En} {a : Option Addr} {c : Nat} (hlt : p < R.length) (ho : wr.ownsRow 0 46 1 sv p (bxs.map fun b => srcV b)) (hlb : bxs.length = p) (hvB : ∀ k, sv.ownBlock = some k → w.heap.size ≤ k)
    (hsrc : ∀ (j b : Nat) (r : List En), bxs[j]? = some b → R[j]? = some r → SrcAt w w.heap.size wr b r) (hnd : bxs.Nodup) (hb : Below w.heap.size w wr) (hr : R[p]? = some r) (hL : LAt w a r) (hcap : r.length ≤ c) (hrl : r.length < 4611686018427387904) (hpk : p < 1024) :
    ∀ w2, w2.heap[wr.heap.size]? = some (.cells #[.slice a r.length c] 24 (0, 0)) → Below wr.heap.size wr w2 →
      ∃ a' n' c' w', (Builtin.append_ #[37, 37] 37 #[sv, .slice (some ⟨w2.heap.size, 0, none⟩) 1 1]).run Try.prog (w2.alloc (.cells #[srcV wr.heap.size] 46)) = .ok (.slice a' n' c') w' ∧ RB R w (.slice a' n' c') (.int .i64 ((p : Int) + 1)) w' := fun w2 hbx b2 => by
  obtain ⟨i0, hi0, hz0, hz1, hz2⟩ := info_parts infoSrc
  have bA : Below w2.heap.size w2 (w2.alloc (.cells #[srcV wr.heap.size] 46)) := (Below.refl _ w2).alloc (Nat.le_refl _) _
  have b3 : Below wr.heap.size wr (w2.alloc (.cells #[srcV wr.heap.size] 46)) := chain b2 bA (Nat.le_refl _)
  have ho3 := row_kept ho (F := fun _ => False) (.below b3) (fun _ _ h => h)
  obtain ⟨v', w', hap, ho', hg, -, hloc⟩ := run_append_own_at (P := Try.prog) (w2.alloc (.cells #[srcV wr.heap.size] 46)) 0 37 37 46 i0 _ 1 8 Try.underlying37 hi0 hz0 hz1 hz2 rfl (by decide) _ p _ ho3 ⟨w2.heap.size, 0, none⟩ 1 1 [srcV wr.heap.size] rfl (fun j u hu => new_cells w2 [srcV wr.heap.size] 46 j u hu) (fun u hu => by simp at hu; subst hu; rfl) (by unfold maxLen; omega) (by omega) (Nat.zero_le _)
  have st : Stay (fun k => sv.ownBlock = some k) (w2.alloc (.cells #[srcV wr.heap.size] 46)) w' := .grown hg (fun k hk => hk)
  have hmx : (bxs.map fun b => srcV b) ++ [srcV wr.heap.size] = (bxs ++ [wr.heap.size]).map fun b => srcV b := by simp
  rw [hmx] at ho'
  obtain ⟨a', c', rfl, -⟩ := slice_form ho'
  have hB0 : w.heap.size ≤ wr.heap.size := hb.size
  have hone : ∀ k, sv.ownBlock = some k → ∃ cur, (w2.alloc (.cells #[srcV wr.heap.size] 46)).heap[k]? = some (.cells cur 46 (0, 0)) := fun k hk => row_block ho3 hk
  have hkeep : ∀ (b : Nat) (r : List En), SrcAt w w.heap.size (w2.alloc (.cells #[srcV wr.heap.size] 46)) b r → SrcAt w w.heap.size w' b r := fun b r h => h.same (st.block b h.lt (fun e => by
    obtain ⟨cur, hcur⟩ := hone b e
    obtain ⟨la, cap, h1, -⟩ := h.ex
    rw [hcur] at h1
    simp at h1))
  have hnew : SrcAt w w.heap.size (w2.alloc (.cells #[srcV wr.heap.size] 46)) wr.heap.size r := ⟨⟨a, c, (bA.block _ (Array.getElem?_eq_some_iff.1 hbx).1).trans hbx, hcap, fun hn => by
    obtain ⟨g, off, e, hra⟩ := hL.at' hn
    exact ⟨g, off, e, hL.lt e hn, hra⟩, hrl⟩, hB0⟩
  refine ⟨a', p + 1, c', w', hap, p + 1, bxs ++ [wr.heap.size], ival (by omega), hlt, by simp [hlb], ho', fun k hk => ?_, fun j b r' hj hr' => ?_, ?_, ?_⟩
  · rcases hloc with e | e
    · exact hvB k (e.symm.trans hk)
    · rw [e] at hk; cases hk
      exact Nat.le_trans hB0 b3.size
  · rcases Nat.lt_or_ge j bxs.length with h1 | h1
    · rw [List.getElem?_append_left h1] at hj
      exact hkeep _ _ ((hsrc j b r' hj hr').below b3)
    · rw [List.getElem?_append_right h1] at hj
      obtain ⟨h2, h3⟩ := List.getElem?_eq_some_iff.1 hj
      simp at h2 h3
      have : j = p := by omega
      subst this
      rw [hr] at hr'; cases hr'; subst h3
      exact hkeep _ _ hnew
  · refine List.nodup_append.2 ⟨hnd, by simp, fun x hx y hy e => ?_⟩
    simp at hy; subst hy; subst e
    obtain ⟨j, hj, e2⟩ := List.getElem_of_mem hx
    have := (hsrc j _ _ (List.getElem?_eq_getElem hj) (List.getElem?_eq_getElem (by omega))).lt
    omega
  · exact (hb.trans (b3.mono hB0)).trans (st.toBelow (fun k hk e => by have := hvB k e; omega) (Nat.le_trans hB0 b3.size))
/-- How a merger over the lists R may have begun. -/
structure Bgn (R : List (List En)) (ys : List St) (rs : List (List En)) : Prop where
  rem : RemTo R.length ys rs R
  tot : totT ys rs = totT [] R
  csz : Csz ys rs
  nums : (ys.map St.num).Nodup
  lt : ∀ y ∈ ys, y.num < R.length
theorem nd_inj {α : Type} {l : List α} (h : l.Nodup) {i j : Nat} {x : α} (hi : l[i]? = some x) (hj : l[j]? = some x) : i = j := by
  obtain ⟨p1, q1⟩ := List.getElem?_eq_some_iff.1 hi
  obtain ⟨p2, q2⟩ := List.getElem?_eq_some_iff.1 hj
  have k := List.pairwise_iff_getElem.1 h
  rcases Nat.lt_trichotomy i j with c | c | c
  · exact absurd (q1.trans q2.symm) (k i j p1 p2 c)
  · exact c
  · exact absurd (q2.trans q1.symm) (k j i p2 p1 c)
theorem csz_of {R : List (List En)} {ys : List St} {rs : List (List En)} (h : RemTo R.length ys rs R) (hn : (ys.map St.num).Nodup) (hl : ∀ y ∈ ys, y.num < R.length) (hc : ∀ r ∈ R, ∀ e ∈ r, e.c.size ≤ 281474976710656) : Csz ys rs := by
  refine ⟨fun y hy => ?_, fun r hr e he => ?_⟩
  · have hj := hl y hy
    rcases h.lo y.num _ hj (List.getElem?_eq_getElem hj) with ⟨-, -, k⟩ | ⟨y', hy', e', r, -, k⟩
    · exact absurd rfl (k y hy)
    · have : y' = y := by
        obtain ⟨p, hp, rfl⟩ := List.getElem_of_mem hy
        obtain ⟨p', hp', rfl⟩ := List.getElem_of_mem hy'
        have hpp : p' = p := nd_inj hn (x := ys[p].num) (by rw [List.getElem?_map, List.getElem?_eq_getElem hp', ← e']; rfl) (by rw [List.getElem?_map, List.getElem?_eq_getElem hp]; rfl)
        subst hpp; rfl
      subst this
      exact hc _ (List.getElem_mem hj) _ (by rw [k]; simp)
  · obtain ⟨j, hj, e1⟩ := List.getElem_of_mem hr
    have hjR : j < R.length := by rw [← h.len]; exact hj
    have hrj : rs[j]? = some r := by rw [List.getElem?_eq_getElem hj, e1]
    rcases h.lo j _ hjR (List.getElem?_eq_getElem hjR) with ⟨-, k, -⟩ | ⟨y', hy', e', r', k1, k⟩
    · rw [hrj] at k; cases k; simp at he
    · rw [hrj] at k1; cases k1
      exact hc _ (List.getElem_mem hjR) _ (by rw [k]; exact List.mem_cons_of_mem _ he)
/-- What Merge tells of lists that rise. -/
def MOut (R : List (List En)) (bottom : Bool) (w : World) (r : Ending) (w' : World) : Prop := ∃ ys rs out, Bgn R ys rs ∧ ((RestR bottom ys rs out true ∧ ∃ v, r = .returned (.tuple #[v, .int .i64 0]) ∧ w'.ownsRow 0 23 5 v out.length (out.flatMap enC) ∧ (∀ k, v.ownBlock = some k → w.heap.size ≤ k)) ∨ (RestR bottom ys rs out false ∧ r = .returned (.tuple #[.slice none 0 0, .int .i64 51])))
theorem merge_rest {w w3 : World} {R : List (List En)} {bxs : List Nat} {m : Nat} {v' : Value} {bottom : Bool} (hMb : Mb w3 m v' (.slice none 0 0) (.bool bottom) (.int .i64 0)) (ho : w3.ownsRow 0 46 1 v' bxs.length (bxs.map fun b => srcV b)) (hm : w.heap.size ≤ m)
    (hsrc : ∀ (j b : Nat) (r : List En), bxs[j]? = some b → R[j]? = some r → SrcAt w w.heap.size w3 b r) (hnd : bxs.Nodup) (hlen : R.length = bxs.length) (hup : ∀ r ∈ R, rises r = true) (hs : bxs.length ≤ 1024) (hb : Below w.heap.size w w3)
    (hc : ∀ r ∈ R, ∀ e ∈ r, e.c.size ≤ 281474976710656) (hN : (totT [] R + 1) * 48 ≤ 140737488355328) (hne : R ≠ []) :
    Calls Try.prog 47 #[.pointer (some ⟨m, 0, none⟩)] w3 fun r w' => Below w.heap.size w w' ∧ MOut R bottom w r w' := by
  have hinj : ∀ (i j b : Nat), bxs[i]? = some b → bxs[j]? = some b → i = j := fun i j b h1 h2 => nd_inj hnd h1 h2
  have q3 : MQ w w.heap.size m bxs v' (.bool bottom) (.int .i64 0) (.slice none 0 0) [] [] [] R w3 := MQ.start hb hm hMb hlen hsrc hinj hup hs
  have hpos : 0 < bxs.length := by rw [← hlen]; exact List.length_pos_iff.2 hne
  have bA : Below w3.heap.size w3 (w3.alloc (.cells #[.int .i64 0, .string ⟨#[]⟩, .int .i64 0, .int .i64 0, .bool false] 23)) := (Below.refl _ w3).alloc (Nat.le_refl _) _
  obtain ⟨sb, sc, cur, hv, hsb, hcur⟩ : ∃ sb sc cur, v' = .slice (some ⟨sb, 0, none⟩) bxs.length sc ∧ w3.heap[sb]? = some (.cells cur 46 (0, 0)) ∧ ∀ (i b : Nat), bxs[i]? = some b → cur[i]? = some (srcV b) := by
    have hcl := fun g hg => World.ownsRow.cells ho (g := g) hg
    rcases ho.2 with ⟨-, k⟩ | ⟨g, cap, cur, rfl, -, hg, -⟩
    · omega
    · refine ⟨g, cap, cur, rfl, hg, fun i b hib => ?_⟩
      have k := hcl g rfl i (srcV b) (by rw [List.getElem?_map, hib]; rfl)
      have e1 : (⟨g, 0, none⟩ : Addr).add i = ⟨g, 0 + i, none⟩ := by unfold Addr.add; split <;> simp_all
      rw [e1, Nat.zero_add] at k
      rwa [cell_of_row _ _ i _ _ (0, 0) hg] at k
  subst hv
  have hf := next_gen (w0 := w) (B := w.heap.size) (m := m) (bxs := bxs) (bottom := bottom) (Q := Bgn R) (W := w3) hb.size ((begin_any sb sc cur (q3.later bA) ((bA.block sb (Array.getElem?_eq_some_iff.1 hsb).1).trans hsb) hcur).mono fun r W1 ⟨h1, ys, rs, h2, h3, h4, h5, h6⟩ => by
    have hnn : (ys.map St.num).Nodup := by have := h2.nums; rwa [List.append_nil] at this
    have hll : ∀ y ∈ ys, y.num < R.length := fun y hy => by
      obtain ⟨-, b, hb2, -⟩ := h2.st y (List.mem_append_left _ hy)
      rw [hlen]; exact (List.getElem?_eq_some_iff.1 hb2).1
    rw [← hlen] at h3
    exact ⟨h1, ys, rs, h2, h4, Nat.le_trans h5 hs, h3, h6, csz_of h3 hnn hll hc, hnn, hll⟩)
  exact (rest_gen hm hN hf (fun ys rs hq => ⟨hq.csz, Nat.le_of_eq hq.tot, by rw [q3.meas]; exact Nat.le_of_eq hq.tot⟩)).mono fun r W' ⟨h1, h2, ys, rs, out, h3, h4⟩ => ⟨h2, ys, rs, out, h3, by
    rcases h4 with ⟨k1, v, k2, k3, k4⟩ | k
    · exact .inl ⟨k1, v, k2, k3, fun k hk => (k4 k hk).1⟩
    · exact .inr k⟩
set_option maxHeartbeats 4000000 in
set_option maxRecDepth 100000 in
theorem merge_any (R : List (List En)) (la : Option Addr) (lc : Nat) (bottom : Bool) (w : World) (h : LL w la R) (hk : R.length ≤ 1024) (hc : ∀ r ∈ R, ∀ e ∈ r, e.c.size ≤ 281474976710656) (hN : (totT [] R + 1) * 48 ≤ 140737488355328) (hne : R ≠ []) :
    Calls Try.prog 24 #[.slice la R.length lc, .bool bottom] w fun r w' => Below w.heap.size w w' ∧ (((∃ l ∈ R, rises l = false) ∧ r = .returned (.tuple #[.slice none 0 0, .int .i64 50])) ∨ ((∀ l ∈ R, rises l = true) ∧ MOut R bottom w r w')) := by
  have hgt : ¬ (1024 : Int) < ((R.length : Nat) : Int) := by omega
  have HL := Hid.mk (And.intro h hk)
  have HC := Hid.mk (And.intro hc (And.intro hN hne))
  clear h hk hc hN hne
  go_enter Try.func24, Try.ntmps24
  go_wp2
  go_loopw [17] (fun iv wr => RA R w iv wr) (fun iv _ => R.length - (intOf iv).toNat)
  case atStart => exact ⟨0, rfl, Nat.zero_le _, fun j r hj => absurd hj (Nat.not_lt_zero _), Below.refl _ _⟩
  case round =>
    obtain ⟨i, rfl, hi, hup, hb⟩ := hrel
    have HA := Hid.mk (And.intro hup hi)
    clear hup hi
    by_cases hlt : i < R.length
    · obtain ⟨r, hr⟩ : ∃ r, R[i]? = some r := ⟨_, List.getElem?_eq_getElem hlt⟩
      obtain ⟨lb, lo, a, c, rfl, hc, hcap, hL, hrl⟩ := (HL.out.1.below hb).at' i r hr
      have hs := sorted_any r a c
      have i1 : (i : Int) < (R.length : Int) := by omega
      have i0 : 0 ≤ (i : Int) := by omega
      have hw3 : IntKind.i64.wrap ((i : Int) + 1) = (i : Int) + 1 := by have := HL.out.2; rw [IntKind.wrap_i64]; omega
      have HR := Hid.mk (And.intro hr (And.intro hL hrl))
      clear hr hL hrl hlt
      obtain ⟨q, hqq⟩ : ∃ q, q = rises r := ⟨_, rfl⟩
      rw [← hqq] at hs
      have HQ := Hid.mk hqq
      clear hqq
      cases q
      · go_wp2_with (go_at_call 12; refine (hs _ HR.out.2.1 HR.out.2.2).mono ?_; clear hs; rintro _ w2 ⟨rfl, b2⟩; simp only [sE])
        go_ret2
        exact ⟨chain hb b2 (Nat.le_refl _), .inl ⟨⟨r, List.mem_of_getElem? HR.out.1, HQ.out.symm⟩, rfl⟩⟩
      · go_wp2_with (go_at_call 12; refine (hs _ HR.out.2.1 HR.out.2.2).mono ?_; clear hs; rintro _ w2 ⟨rfl, b2⟩; simp only [sE])
        refine ⟨⟨i + 1, ival (by omega), by omega, fun j r' hj hr' => ?_, chain hb b2 (Nat.le_refl _)⟩, by simp only [intOf]; omega⟩
        rcases Nat.lt_succ_iff_lt_or_eq.1 hj with h1 | rfl
        · exact HA.out.1 j r' h1 hr'
        · rw [HR.out.1] at hr'; cases hr'; exact HQ.out.symm
    · have i1 : (R.length : Int) ≤ (i : Int) := by omega
      have hiR : i = R.length := by have := HA.out.2; omega
      have HU := Hid.mk (show ∀ r ∈ R, rises r = true from fun r hr => by
        obtain ⟨j, hj, e⟩ := List.getElem_of_mem hr
        exact HA.out.1 j r (by omega) (by rw [List.getElem?_eq_getElem hj, e]))
      clear HA hlt hiR
      go_wp2
      have hdd : decide (i < R.length) = false := decide_eq_false (by omega)
      rw [hdd]
      clear hdd
      go_loopw [9, 29] (fun sv iv wr => RB R w sv iv wr) (fun _ iv _ => R.length - (intOf iv).toNat)
      case atStart => exact ⟨0, [], rfl, Nat.zero_le _, rfl, ⟨rfl, .inl ⟨rfl, rfl⟩⟩, (fun k hk => by cases hk), (fun j b r h => by simp at h), List.nodup_nil, hb⟩
      case round =>
        obtain ⟨p, bxs, rfl, hp, hlb, ho, hvB, hsrc, hnd, hb2⟩ := hrel
        clear hb
        obtain ⟨va, vc, hv, -⟩ := slice_form ho
        subst hv
        by_cases hlt : p < R.length
        · obtain ⟨r, hr⟩ : ∃ r, R[p]? = some r := ⟨_, List.getElem?_eq_getElem hlt⟩
          obtain ⟨lb, lo, a, c, rfl, hc0, hcap, hL, hrl⟩ := HL.out.1.at' p r hr
          have hc := cell_lat hb2 hc0
          have hso := sourceOf_any (.slice a r.length c) ⟨_, _, _, rfl⟩ wr
          have hpk : p < 1024 := by have := HL.out.2; omega
          have j1 : (p : Int) < (R.length : Int) := by omega
          have j0 : 0 ≤ (p : Int) := by omega
          have hw3 : IntKind.i64.wrap ((p : Int) + 1) = (p : Int) + 1 := by rw [IntKind.wrap_i64]; omega
          have step := Hid.mk (made_step hlt ho hlb hvB hsrc hnd hb2 hr hL hcap hrl hpk)
          clear ho hlb hvB hsrc hnd hb2 hr hL hrl hc0 hp
          go_wp2_with fail
          refine hso.mono ?_
          clear hso
          rintro _ w2 ⟨rfl, k1, k2⟩
          obtain ⟨a', n', c', w', hap, hRB⟩ := step.out w2 k1 k2
          clear step k1 k2
          replace hRB := Hid.mk hRB
          go_wp2_with (at_builtin; refine wpList_append_eq rfl _ _ _ _ rfl _ _ _ _ rfl rfl hap ?_; clear hap)
          exact ⟨hRB.out, by simp only [intOf]; omega⟩
        · have hpR : p = R.length := by omega
          have j1 : (R.length : Int) ≤ (p : Int) := by omega
          have hpos : 0 < R.length := List.length_pos_iff.2 HC.out.2.2
          obtain ⟨sb, rfl⟩ : ∃ sb, va = some ⟨sb, 0, none⟩ := by
            rcases ho.2 with ⟨-, k⟩ | ⟨g, cap, cur, e, -⟩
            · omega
            · simp only [Value.slice.injEq] at e
              exact ⟨g, e.1⟩
          have hnw := new_any sb p vc bottom _ wr (by have := HL.out.2; omega) ho (fun u hu => by
            obtain ⟨b, -, rfl⟩ := List.mem_map.1 hu
            rfl)
          have fin := Hid.mk (And.intro hlb (And.intro hsrc (And.intro hnd (And.intro hb2 hpR))))
          clear hlb hsrc hnd hb2 hpR ho hvB hlt hp hpos
          go_wp2_with fail
          refine hnw.mono ?_
          clear hnw
          rintro _ w3 ⟨m, v', rfl, f1, f2, f3, f4, f5⟩
          obtain ⟨hlb, hsrc, hnd, hb2, hpR⟩ := fin.out
          have hre := merge_rest (w := w) (R := R) (bxs := bxs) f1 (by rw [hlb]; exact f2) (Nat.le_trans hb2.size f4) (fun j b r h1 h2 => (hsrc j b r h1 h2).below f5) hnd (by rw [hlb, hpR]) HU.out (by rw [hlb, hpR]; exact HL.out.2) (chain hb2 f5 (Nat.le_refl _)) HC.out.1 HC.out.2.1 HC.out.2.2
          clear hlb hsrc hnd hb2 hpR f1 f2 f3 f4 f5 fin
          go_wp2_with fail
          refine hre.mono ?_
          clear hre
          rintro r w4 ⟨b4, ys, rs, out, hB, ⟨k1, v, rfl, k2, k3⟩ | ⟨k1, rfl⟩⟩
          · obtain ⟨xa, xc, rfl, -⟩ := slice_form k2
            have fin := Hid.mk (And.intro b4 (And.intro hB (And.intro k1 (And.intro k2 k3))))
            clear b4 hB k1 k2 k3
            go_wp2
            go_ret2
            exact ⟨fin.out.1, .inr ⟨HU.out, ys, rs, out, fin.out.2.1, .inl ⟨fin.out.2.2.1, _, rfl, fin.out.2.2.2.1, fin.out.2.2.2.2⟩⟩⟩
          · have fin := Hid.mk (And.intro b4 (And.intro hB k1))
            clear b4 hB k1
            go_wp2
            go_ret2
            exact ⟨fin.out.1, .inr ⟨HU.out, ys, rs, out, fin.out.2.1, .inr ⟨fin.out.2.2, rfl⟩⟩⟩
end Go.Proofs.Ytchikfabfhjkgaa
