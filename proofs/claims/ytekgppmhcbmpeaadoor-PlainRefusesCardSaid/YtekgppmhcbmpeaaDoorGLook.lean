/-
  DERIVED. The one look at all pairs: what each pair's hit is handed to is a function value.
-/
import Derived.Test.YtekgppmhcbmpeaaDoorGIns
import Derived.Test.YtekgppmhcbmpeaaDoorDist
set_option linter.unusedVariables false
set_option linter.unusedSimpArgs false
namespace Go.Proofs.YtekgppmhcbmpeaaDoor
open Classical
open Go.RowKit Go.Maps Go.Proofs.BitMath
theorem hit_W {q : ByteArray} {wd : Int} {xs : List Pr} (hw : isW wd = true) (hq : (q.size : Int) = wd / 8) (hx : ∀ x ∈ xs, PrW wd x) : ∀ h ∈ hitsOf q xs, HtW h ∧ 0 ≤ h.d ∧ h.d ≤ wd ∧ 0 ≤ h.i ∧ h.i ≤ 281474976710656 := fun h hh => by
  obtain ⟨x, hxm, rfl⟩ := List.mem_map.1 hh
  obtain ⟨h1, h2, h3⟩ := hx x hxm
  have hb := isW_bd hw
  have hm := isW_mod hw
  have hd := dQ_le (q := q) (c := x.c) (by omega)
  have hc : (dQ q x.c : Int) ≤ wd := by omega
  exact ⟨⟨⟨by show _ ≤ (dQ q x.c : Int); omega, by show (dQ q x.c : Int) ≤ _; omega⟩, ⟨by show _ ≤ x.i; omega, by show x.i ≤ _; omega⟩, by show x.c.size ≤ _; omega⟩, by show 0 ≤ (dQ q x.c : Int); omega, hc, h1, h2⟩
theorem nodup_len {α : Type} [DecidableEq α] : ∀ {l m : List α}, l.Nodup → (∀ x ∈ l, x ∈ m) → l.length ≤ m.length
  | [], _, _, _ => Nat.zero_le _
  | x :: l, m, h, hs => by
    rw [List.nodup_cons] at h
    have hx : x ∈ m := hs x List.mem_cons_self
    have := nodup_len (m := m.erase x) h.2 (fun y hy => (List.mem_erase_of_ne (fun (e : y = x) => h.1 (e ▸ hy))).2 (hs y (List.mem_cons_of_mem _ hy)))
    have h2 := List.length_erase_of_mem hx
    have h3 := List.length_pos_of_mem hx
    simp; omega
theorem seen_lt {xs seen : List Pr} {p : Pr} (h1 : ∀ x ∈ seen ++ [p], x ∈ xs) (h2 : (seen ++ [p]).Nodup) : seen.length < xs.length := by
  have := nodup_len h2 h1
  simp at this; omega
theorem ranges_blocks {P : Program} {k : TypeId} {R : Value → Option (DataW Unit × List MemPlace)} {w w' : World} {b r n : Nat} {D : DataW Unit} {left : Lit → Bool} {cnt : Nat} (h : w.ranges P k R b r n D left cnt) (h1 : w'.heap[b]? = w.heap[b]?) (h2 : w'.heap[r]? = w.heap[r]?) : w'.ranges P k R b r n D left cnt := by
  obtain ⟨es, clock, since, seen, c0, hb, F, hs, hD, hr, rest⟩ := h
  exact ⟨es, clock, since, seen, c0, h1.trans hb, F, hs, hD, h2.trans hr, rest⟩
theorem hits_snoc (q : ByteArray) (l : List Pr) (x : Pr) : hitsOf q (l ++ [x]) = hitsOf q l ++ [htOf q x] := by simp [hitsOf]
/-- What holds while the look goes on. -/
structure LK (w : World) (mb B n : Nat) (xs : List Pr) (q : ByteArray) (D : DataW Unit) (I : Nat → List Ht → World → Prop) (wr : World) (left : Lit → Bool) (cnt : Nat) (sn : List Pr) : Prop where
  rg : wr.ranges Tryd.prog 3 prE mb w.heap.size n D left cnt
  sn' : Seen xs sn left
  inv : I w.heap.size (hitsOf q sn) wr
  st : Stay (fun j => B ≤ j) w wr
set_option maxHeartbeats 4000000 in
set_option maxRecDepth 100000 in
theorem look_any (p mb B : Nat) (wd n : Int) (xs : List Pr) (q : ByteArray) (F : Nat) (cv : Value) (I : Nat → List Ht → World → Prop) (w : World) (h : MP w p mb wd xs n) (hq : (q.size : Int) = wd / 8) (ht : Tab w) (h0B : 0 < B) (hpB : p < B) (hmB : mb < B) (hBw : B ≤ w.heap.size) (hl : xs.length ≤ 1048576)
    (ent : ∀ args W, (callFunc F args).run Tryd.prog W = .ok (.enter F args) W)
    (h0 : ∀ W', Below w.heap.size w W' → I w.heap.size [] W')
    (h1 : ∀ r hs W W', I r hs W → Stay (fun k => k = r) W W' → I r hs W')
    (h2 : ∀ r hs x W, r < W.heap.size → w.heap.size ≤ r → x ∈ hitsOf q xs → hs.length < xs.length → I r hs W → Calls Tryd.prog F #[.agg (hC x).toArray, cv] W fun e W' => e = .returned (.tuple #[]) ∧ I r (hs ++ [x]) W' ∧ Stay (fun j => B ≤ j ∧ j ≠ r) W W') :
    Calls Tryd.prog 30 #[Pt p, .string q, .func (.func F) #[] #[cv]] w fun e w' => e = .returned (.tuple #[]) ∧ ∃ r sn, sn.Perm xs ∧ I r (hitsOf q sn) w' ∧ Stay (fun j => B ≤ j) w w' := by
  obtain ⟨-, c1, -⟩ := h.at'.cells
  obtain ⟨D, hown, d2, d3, d4, hnd⟩ := h.pm
  have hfit := h.fit
  have hW := h.isW
  have HH := Hid.mk (And.intro h0 (And.intro h1 h2))
  have HX := Hid.mk (And.intro d2 (And.intro d3 (And.intro d4 (And.intro hnd (And.intro hfit (And.intro hW (And.intro hq (And.intro ht h))))))))
  clear h0 h1 h2 d2 d3 d4 hnd hfit hW hq ht h
  go_enter Tryd.func30, Tryd.ntmps30
  go_wp2_with (first
    | (at_range; refine wpList_range_own _ rfl _ 65 rfl 3 56 law3 Tryd.underlying65 _ mb xs.length _ rfl hown ?_; intro w0 hrg0 hg0 hs0)
    | go_in)
  go_frame
  have HS0 : Hid (LK w mb B xs.length xs q D I w0 (Maps.has D) (Maps.size D) []) := ⟨hrg0, Seen.start HX.out.1, HH.out.1 w0 ((Below.refl _ _).grown hg0 (Nat.le_refl _) (fun j hj => by cases hj)), .grown hg0 (fun j hj => by cases hj)⟩
  clear hrg0 hg0 hs0 c1 hown
  go_loopw [8, 9] (fun u v wr => ∃ left cnt sn, Hid (LK w mb B xs.length xs q D I wr left cnt sn)) (fun _ _ wr => wr.rangeLeft mb w.heap.size)
  case atStart => exact ⟨_, _, _, HS0⟩
  case round =>
    clear HS0
    obtain ⟨left, cnt, sn, HL⟩ := hrel
    have hrg := HL.out.rg
    go_wp2_with (first
      | (at_next; refine wpList_next_ranges _ rfl _ rfl 3 law3 prE (Value.int .i64) (fun x : Pr => Value.agg (pC x).toArray) (fun key kl hk => by obtain ⟨x, hx, _⟩ := Maps.keyOf_int_inv Tryd.underlying3 hk; exact ⟨x, hx⟩) (fun v y hv => prE_inv hv) mb w.heap.size xs.length _ _ _ rfl hrg ?_ ?_)
      | go_in)
    · intro hc0 hl0
      have HE : Hid (∃ r sn, sn.Perm xs ∧ I r (hitsOf q sn) wr ∧ Stay (fun j => B ≤ j) w wr) := ⟨_, sn, HL.out.sn'.perm HX.out.2.2.2.1 hl0, HL.out.inv, HL.out.st⟩
      clear HL hrg hl0
      go_wp2
      go_end0
      exact ⟨rfl, HE.out⟩
    · intro x pr kl yd yp w2 cnt2 hkey hlk hv hat hrg2 hlt hg2 hs2 hen
      obtain ⟨x', ex, rfl, _⟩ := Maps.keyOf_int_inv Tryd.underlying3 hkey
      obtain rfl : x = x' := by simpa using ex
      obtain ⟨p', hp', -, e1⟩ := (HL.out.sn'.lft _).1 hlk
      obtain rfl : x = p'.i := by simpa using e1
      have hpp : pr = p' := by
        have h3 := HX.out.2.1 p' hp' (enP zP)
        rw [hat] at h3
        rw [prE_mk] at hv
        have h4 : enP pr = yd := by simp at hv; exact hv.1
        exact enP_inj (h4.trans h3)
      subst hpp
      have hpx := HX.out.2.2.2.2.1 pr hp'
      have hwb := isW_bd HX.out.2.2.2.2.2.1
      have hq := HX.out.2.2.2.2.2.2.1
      have ht := HX.out.2.2.2.2.2.2.2.1
      have s2 : Stay (fun j => B ≤ j) w w2 := HL.out.st.andThen (.grown hg2 (F := fun j => j = w.heap.size) (fun k e => by cases e; rfl)) (fun i hi e => by omega)
      have hS2 : Seen xs (sn ++ [pr]) (fun z => left z && !z.sameKey (.int .i64 pr.i)) := HL.out.sn'.step HX.out.2.2.2.1 hp' hlk
      have hslt : sn.length < xs.length := seen_lt hS2.sub hS2.nd
      have sA := s2.alloc (.cells (pC pr).toArray 56)
      have tA : Tab (w2.alloc (.cells (pC pr).toArray 56)) := fun i hi => by
        have hc := ht i hi
        have hb : (w2.alloc (.cells (pC pr).toArray 56)).heap[0]? = w.heap[0]? := sA.block 0 (by omega) (by omega)
        simp only [World.cell?, hb] at hc ⊢
        exact hc
      have iA : I w.heap.size (hitsOf q sn) (w2.alloc (.cells (pC pr).toArray 56)) := HH.out.2.1 _ _ _ _ (HH.out.2.1 _ _ _ _ HL.out.inv (.grown hg2 (fun k e => by cases e; rfl))) ((Stay.refl _ w2).alloc _)
      have hd := distance_yes q pr.c (w2.alloc (.cells (pC pr).toArray 56)) (by omega) (by have := hpx.2.2; omega) tA
      have HN : Hid (∀ W3, Drew (w2.alloc (.cells (pC pr).toArray 56)) W3 → Calls Tryd.prog F #[.agg (hC (htOf q pr)).toArray, cv] W3 fun e W' => e = .returned (.tuple #[]) ∧ LK w mb B xs.length xs q D I W' (fun z => left z && !z.sameKey (.int .i64 pr.i)) cnt2 (sn ++ [pr])) := fun W3 hd3 => by
        have b3 : Below (w2.alloc (.cells (pC pr).toArray 56)).heap.size (w2.alloc (.cells (pC pr).toArray 56)) W3 := hd3.below _
        have s3 : Stay (fun j => B ≤ j) w W3 := sA.trans (.below b3)
        have r3 : W3.ranges Tryd.prog 3 prE mb w.heap.size xs.length D (fun z => left z && !z.sameKey (.int .i64 pr.i)) cnt2 := ranges_blocks (hrg2.alloc _) (b3.block mb (by have := hrg2.owns.lt; simp; omega)) (b3.block w.heap.size (by have := hrg2.lt; simp; omega))
        have hlen : (hitsOf q sn).length < xs.length := by simpa [hitsOf] using hslt
        refine (HH.out.2.2 w.heap.size (hitsOf q sn) (htOf q pr) W3 r3.lt (Nat.le_refl _) (List.mem_map_of_mem hp') hlen (HH.out.2.1 _ _ _ _ iA (.below b3))).mono ?_
        rintro e W' ⟨rfl, i4, s4⟩
        refine ⟨rfl, ranges_blocks r3 (s4.block mb r3.owns.lt (fun h => by omega)) (s4.block w.heap.size r3.lt (fun h => h.2 rfl)), hS2, by rw [hits_snoc]; exact i4, s3.trans (s4.mono (fun k _ h => h.1))⟩
      have HM : Hid (∀ W', LK w mb B xs.length xs q D I W' (fun z => left z && !z.sameKey (.int .i64 pr.i)) cnt2 (sn ++ [pr]) → W'.rangeLeft mb w.heap.size < wr.rangeLeft mb w.heap.size) := fun W' h => by rw [h.rg.left_eq, hrg.left_eq]; exact hlt
      have HB : Hid (∀ W3, Drew (w2.alloc (.cells (pC pr).toArray 56)) W3 → W3.cell? ⟨w2.heap.size, 0, none⟩ = some (.int .i64 pr.i) ∧ W3.cell? ⟨w2.heap.size, 1, none⟩ = some (.string pr.c)) := fun W3 d3 => by
        obtain ⟨k, rfl⟩ := d3
        have hb := heap_alloc_last w2 (.cells (pC pr).toArray 56)
        have e0 : (w2.alloc (.cells (pC pr).toArray 56)).cell? ⟨w2.heap.size, 0, none⟩ = some (.int .i64 pr.i) := by rw [cell_of_row _ _ 0 _ _ (0, 0) hb]; rfl
        have e1 : (w2.alloc (.cells (pC pr).toArray 56)).cell? ⟨w2.heap.size, 1, none⟩ = some (.string pr.c) := by rw [cell_of_row _ _ 1 _ _ (0, 0) hb]; rfl
        exact ⟨e0, e1⟩
      obtain ⟨dd, hdd⟩ : ∃ dd : Nat, dd = wt (xorL q.data.toList pr.c.data.toList) := ⟨_, rfl⟩
      rw [← hdd] at hd
      have hhc : hC (htOf q pr) = [.int .i64 dd, .int .i64 pr.i, .string pr.c] := by rw [hdd]; rfl
      rw [hhc] at HN
      simp only [pC] at hd hen HN HB
      clear hv hat hkey ex e1 hpx hwb hq ht s2 hS2 hslt sA tA iA hrg hlt hrg2 hg2 hs2 HL hlk hp' hdd hhc
      go_wp2_with (first
        | (go_at_call 11; refine hd.mono ?_; clear hd; rintro e w3 ⟨rfl, d3⟩; have hcall := HN.out w3 d3; obtain ⟨y0, y1⟩ := HB.out w3 d3; clear d3)
        | (go_at_fn F; refine hcall.mono ?_; clear hcall; rintro e w4 ⟨rfl, L4⟩))
      exact ⟨⟨_, _, _, L4⟩, HM.out _ L4⟩
end Go.Proofs.YtekgppmhcbmpeaaDoor
