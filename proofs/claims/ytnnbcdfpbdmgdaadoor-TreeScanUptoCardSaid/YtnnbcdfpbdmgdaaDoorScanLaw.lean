/-
  DERIVED. The law of scans: its walk.
-/
import Derived.Test.YtnnbcdfpbdmgdaaDoorScanHelp
import Derived.Test.YtnnbcdfpbdmgdaaDoorTWork
set_option linter.unusedVariables false
set_option linter.unusedSimpArgs false
namespace Go.Proofs.YtnnbcdfpbdmgdaaDoor
open Go.RowKit Go.Maps Go.Sort Go.Proofs.BitMath Go.Proofs.TreeMath
/-- While the script is played. -/
structure ZI {n : Nat} (W wr : World) (t wd i : Nat) (T : List (Nd (Cd n))) (bs : List Nat) (ms : List (Option Nat)) (x : Num) (u : Value) (A : List (Cd n)) : Prop where
  ot : OT W wr t wd T bs ms x
  le : T.length ≤ i
  row : wr.ownsRow W.heap.size 9 1 u A.length (A.map sV)
  nd : A.Nodup
  mem : ∀ c, c ∈ lives T ↔ c ∈ A
theorem ZI.len {n : Nat} {W wr : World} {t wd i : Nat} {T : List (Nd (Cd n))} {bs : List Nat} {ms : List (Option Nat)} {x : Num} {u : Value} {A : List (Cd n)} (h : ZI W wr t wd i T bs ms x u A) : A.length = (lives T).length ∧ A.length ≤ i := by
  have e := same_len h.nd h.ot.tr.wf.lives_nodup (fun c => (h.mem c).symm)
  refine ⟨e, ?_⟩
  have h1 : (lives T).length ≤ T.length := by
    unfold lives
    rw [List.length_map]
    exact List.length_filter_le _ _
  have := h.le
  omega
theorem sv_map {n : Nat} (A : List (Cd n)) : A.map sV = (A.map (·.1)).map .string := by rw [List.map_map]; rfl
/-- The list behind set. -/
theorem set_row {n : Nat} {B : Nat} {W w' : World} {a : Option Addr} {c : Nat} {A : List (Cd n)} {K : Int} {s : ByteArray} {e : Ending} (hB : B ≤ W.heap.size) (hr : W.ownsRow B 9 1 (.slice a A.length c) A.length (A.map sV)) (h : SetO W a c (A.map (·.1)) K s n e w') :
    ∃ a' c', e = .returned (.slice a' (nxtA K s A).length c') ∧ Below W.heap.size W w' ∧ w'.ownsRow B 9 1 (.slice a' (nxtA K s A).length c') (nxtA K s A).length ((nxtA K s A).map sV) := by
  obtain ⟨v, rfl, b, ⟨hK, rfl⟩ | ⟨hK, h2⟩⟩ := h
  · rw [nxt_other hK, List.length_map]
    exact ⟨a, c, rfl, b, row_kept (F := fun _ => False) hr (.below b) (fun _ _ h => h)⟩
  · have e1 : nxtA K s A = setA K s A := if_pos hK
    rw [← setA_map, List.length_map, ← sv_map, ← e1] at h2
    obtain ⟨a', c', e2, -⟩ := slice_form h2
    subst e2
    exact ⟨a', c', rfl, b, row_mono h2 hB⟩
theorem row_do {n : Nat} {wr W' : World} {t wd : Nat} {T : List (Nd (Cd n))} {bs : List Nat} {ms : List (Option Nat)} {x : Num} {K N : Int} {s : ByteArray} {r : Ending} {B m : Nat} {v : Value} {xs : List Value} (h : TR wr t wd T bs ms x) (hd : DoO wr t wd T bs ms x K s N r W') (hr : wr.ownsRow B 9 1 v m xs) : W'.ownsRow B 9 1 v m xs :=
  row_kept hr (do_frame hd) (fun k hk e => by
    rcases e with e | e
    · obtain ⟨cur, hc⟩ := row_block hr hk
      rcases h.kind e hc with h3 | h3
      · cases h3
      · cases h3
    · have := row_lt hr hk; omega)
theorem sta_row {n : Nat} {w : World} {B c : Nat} {a : Option Addr} {A : List (Cd n)} (h : w.ownsRow B 9 1 (.slice a A.length c) A.length (A.map sV)) : StA w a (A.map (·.1)) := by
  rw [sv_map] at h
  have h' : w.ownsRow B 9 1 (.slice a A.length c) (A.map (·.1)).length ((A.map (·.1)).map .string) := by rw [List.length_map]; exact h
  obtain ⟨a', c', e, -, hs⟩ := StA.row h'
  rw [List.length_map] at e
  cases e
  exact hs
theorem ZI.below {n : Nat} {W w w' : World} {t wd i : Nat} {T : List (Nd (Cd n))} {bs : List Nat} {ms : List (Option Nat)} {x : Num} {u : Value} {A : List (Cd n)} (h : ZI W w t wd i T bs ms x u A) (b : Below w.heap.size w w') : ZI W w' t wd i T bs ms x u A :=
  ⟨h.ot.below b, h.le, row_kept (F := fun _ => False) h.row (.below b) (fun _ _ h => h), h.nd, h.mem⟩
theorem bool_iff {a b : Bool} {p : Prop} (h : a = true ↔ p) (k : b = true ↔ p) : a = b := by
  cases a <;> cases b
  · rfl
  · exact absurd (h.2 (k.1 rfl)) (by decide)
  · exact absurd (k.2 (h.1 rfl)) (by decide)
  · rfl
theorem ZI.asks {n : Nat} {W w : World} {t wd i : Nat} {T : List (Nd (Cd n))} {bs : List Nat} {ms : List (Option Nat)} {x : Num} {a : Option Addr} {c : Nat} {A : List (Cd n)} (h : ZI W w t wd i T bs ms x (.slice a A.length c) A) (htW : ∀ (w : World), Below W.heap.size W w → Tab w) (hW0 : 0 < W.heap.size) (s : ByteArray) (hl : A.length ≤ 1099511627776) :
    (∀ w', Below w.heap.size w w' → Calls Tryd.prog 18 #[.pointer (some ⟨t, 0, none⟩)] w' (fun r w'' => r = .returned (.int .i64 (A.length : Nat)) ∧ w'' = w')) ∧
    (∀ w', Below w.heap.size w w' → Calls Tryd.prog 15 #[.pointer (some ⟨t, 0, none⟩), .string s] w' (fun r w'' => ∃ b : Bool, r = .returned (.bool b) ∧ Below w.heap.size w w'' ∧ (b = true ↔ s ∈ A.map (·.1)))) ∧
    (∀ w', Below w.heap.size w w' → Calls Tryd.prog 26 #[.slice a A.length c, .string s] w' (fun r w'' => ∃ b : Bool, r = .returned (.bool b) ∧ Below w.heap.size w w'' ∧ (b = true ↔ s ∈ A.map (·.1)))) := by
  refine ⟨fun w' b => ?_, fun w' b => ?_, fun w' b => ?_⟩
  · refine (len_any w' (h.below b).ot.tr).mono ?_
    rintro r w'' ⟨rfl, e⟩
    rw [h.ot.tr.live, ← h.len.1]
    exact ⟨rfl, e⟩
  · have h' := h.below b
    refine (has_any s w' h'.ot.tr (htW w' h'.ot.be) (Nat.lt_of_lt_of_le hW0 h'.ot.be.size)).mono ?_
    rintro r w'' ⟨b2, y, rfl, hy⟩
    refine ⟨y, rfl, chain b b2 (Nat.le_refl _), ?_⟩
    rw [hy, List.mem_map]
    constructor
    · rintro ⟨c, h1, h2⟩; exact ⟨c, (h.mem c).1 h1, h2⟩
    · rintro ⟨c, h1, h2⟩; exact ⟨c, (h.mem c).2 h1, h2⟩
  · have h' := h.below b
    have hh := holds_any (A.map (·.1)) s a c w' (sta_row h'.row) (by rw [List.length_map]; omega)
    rw [List.length_map] at hh
    refine hh.mono ?_
    rintro r w'' ⟨y, rfl, hy, d⟩
    exact ⟨y, rfl, b.trans (d.below _), hy⟩
theorem ZI.scans {n : Nat} {W w : World} {t wd i : Nat} {T : List (Nd (Cd n))} {bs : List Nat} {ms : List (Option Nat)} {x : Num} {a : Option Addr} {c : Nat} {A : List (Cd n)} {s : ByteArray} (h : ZI W w t wd i T bs ms x (.slice a A.length c) A) (htW : ∀ (w : World), Below W.heap.size W w → Tab w) (hW0 : 0 < W.heap.size) (q : Cd n) (hq : q.1 = s) (N : Nat) (n8 : n ≤ 128) (hl : A.length ≤ 1099511627776) :
    ∀ w', Below w.heap.size w w' → Calls Tryd.prog 24 #[.slice a A.length c, .string s, .int .i64 (N : Nat)] w' (ScanO w' q N A) := fun w' b => by
  have h' := h.below b
  subst hq
  exact scan_any A h.nd a c q N w' (sta_row h'.row) hl n8 (htW w' h'.ot.be)
/-- What scan tells is what Within answered. -/
theorem same4 {n : Nat} {W w w1 w6 : World} {t wd i : Nat} {T : List (Nd (Cd n))} {bs : List Nat} {ms : List (Option Nat)} {x : Num} {u : Value} {A : List (Cd n)} {q : Cd n} {N len vc : Nat} {va : Option Addr} {sv : Value} {L : List (Nat × Cd n)} (h : ZI W w t wd i T bs ms x u A) (hat : HAt w va (ansL 9223372036854775807 N q (lives T))) (hlen : len = (ansL 9223372036854775807 N q (lives T)).length) (hr : w6.ownsRow w1.heap.size 36 3 sv L.length (L.flatMap hV)) (hsc : ScL q N A L) (b : Below w.heap.size w w6) :
    ∃ av cv, sv = .slice av len cv ∧ Calls Tryd.prog 23 #[.slice va len vc, .slice av len cv] w6 fun e w' => e = .returned (.bool true) ∧ Drew w6 w' := by
  have hsm := h.ot.tr.small
  have hll : (lives T).length ≤ T.length := by
    unfold lives
    rw [List.length_map]
    exact List.length_filter_le _ _
  have e : ansL 9223372036854775807 N q (lives T) = L := (hsc.perm (fun c => (h.mem c).symm)).ans h.ot.tr.wf.lives_nodup (by omega)
  rw [e] at hat hlen
  obtain ⟨av, cv, rfl, -, ha⟩ := HAt.row hr
  have hLl := hsc.len
  have := h.len.1
  rw [hlen]
  exact ⟨av, cv, rfl, sameHits_any L va av vc cv w6 (hat.below b) ha (by omega)⟩
theorem beq_pair {e : Int} {a b : Nat} (h : e = 0 ↔ a = b) : (e == 0) = (((a : Nat) : Int) == (b : Int)) := by
  by_cases hab : a = b
  · rw [h.2 hab, hab]
    simp
  · have h1 : (e == 0) = false := beq_eq_false_iff_ne.2 (fun he => hab (h.1 he))
    have h2 : (((a : Nat) : Int) == (b : Int)) = false := beq_eq_false_iff_ne.2 (by omega)
    rw [h1, h2]
theorem first5 {n : Nat} {w6 : World} {B : Nat} {sv : Value} {L : List (Nat × Cd n)} (hr : w6.ownsRow B 36 3 sv L.length (L.flatMap hV)) (hl : L.length < 4611686018427387904) (N : Nat) : ∃ av lv cv, sv = .slice av lv cv ∧ Calls Tryd.prog 25 #[.slice av lv cv, .int .i64 (N : Nat)] w6 (FstO w6 L (N : Int)) := by
  obtain ⟨av, cv, rfl, hc, ha⟩ := HAt.row hr
  refine ⟨av, _, cv, rfl, first_all L av cv N w6 ha hl hc ?_⟩
  rcases hr.2 with ⟨h2, h3⟩ | ⟨g, cap, cur, h2, h3, h4, h5, h6, h7⟩
  · simp at h2; omega
  · simp at h2; obtain ⟨-, rfl⟩ := h2; exact h6
/-- The first of what scan tells are what Nearest answered. -/
theorem same5 {n : Nat} {W w w7 : World} {t wd i : Nat} {T : List (Nd (Cd n))} {bs : List Nat} {ms : List (Option Nat)} {x : Num} {u : Value} {A : List (Cd n)} {q : Cd n} {N len vc y c' : Nat} {va a' : Option Addr} {L : List (Nat × Cd n)} (h : ZI W w t wd i T bs ms x u A) (hcase : ((N : Int) = 0 ∧ len = 0) ∨ (1 ≤ (N : Int) ∧ len = (ansL N wd q (lives T)).length ∧ HAt w va (ansL N wd q (lives T)))) (hsc : ScL q wd A L) (b : Below w.heap.size w w7) (hx : FstM L (N : Int) y) (hat : HAt w7 a' (L.take y)) :
    y = len ∧ Calls Tryd.prog 23 #[.slice va len vc, .slice a' len c'] w7 fun e w' => e = .returned (.bool true) ∧ Drew w7 w' := by
  have hsm := h.ot.tr.small
  have hll : (lives T).length ≤ T.length := by
    unfold lives
    rw [List.length_map]
    exact List.length_filter_le _ _
  rcases hcase with ⟨hN, rfl⟩ | ⟨hN, hlen, hv⟩
  · have hy : y = 0 := by
      rcases hx.2 with h1 | h1
      · exact h1.2
      · omega
    subst hy
    exact ⟨rfl, sameHits_any ([] : List (Nat × Cd n)) va a' vc c' w7 (fun i hi => by simp at hi) (fun i hi => by simp at hi) (by simp)⟩
  · have e : ansL 9223372036854775807 wd q (lives T) = L := (hsc.perm (fun c => (h.mem c).symm)).ans h.ot.tr.wf.lives_nodup (by omega)
    have h2 := first_ans (wd := wd) h.ot.tr.wf.lives_nodup (q := q) (by omega) (by have := h.ot.tr.eight; omega) hN (x := y) (by rw [e]; exact hx)
    rw [e, Int.toNat_natCast] at h2
    have hyl : (L.take y).length = y := by rw [List.length_take]; exact Nat.min_eq_left hx.1
    have hLl := hsc.len
    have := h.len.1
    rw [← h2] at hlen hv
    have hyy : y = len := by rw [hlen, hyl]
    refine ⟨hyy, ?_⟩
    have hs := sameHits_any (L.take y) va a' vc c' w7 (hv.below b) hat (by rw [hyl]; have := hx.1; omega)
    rw [← hlen] at hs
    exact hs
set_option maxHeartbeats 40000000 in
set_option maxRecDepth 100000 in
theorem law_scan (wd : Int) (l : List Op3) (la : Option Addr) (lc : Nat) (W : World) (ht : Tab W) (hl : OAt W la l) (hll : l.length ≤ 1048576) : Calls Tryd.prog 5 #[.int .i64 wd, .slice la l.length lc] W fun r w' => r = .returned (.bool true) ∧ Below W.heap.size W w' := by
  have hW0 : 0 < W.heap.size := World.block_lt_of_cell? W ⟨0, 0, none⟩ (ht 0 (by omega))
  have htW : ∀ (w : World), Below W.heap.size W w → Tab w := fun w b => ht.below b hW0
  have HW := Hid.mk htW
  have HB := Hid.mk (begun_any W ht)
  obtain ⟨ln, hln⟩ : ∃ ln, ln = l.length := ⟨_, rfl⟩
  have HL := Hid.mk (And.intro hl hln)
  rw [← hln] at hll ⊢
  clear hl hln ht htW
  by_cases hw : isW wd = true
  · obtain ⟨w8, rfl⟩ : ∃ w8 : Nat, wd = w8 := ⟨wd.toNat, by have := isW_bd hw; omega⟩
    obtain ⟨n, hn⟩ : ∃ n, w8 = 8 * n := ⟨w8 / 8, by have h1 := isW_mod hw; omega⟩
    have hnew := fun W => new_yes w8 n W hw hn
    have HN := Hid.mk hnew
    have hw1024 : w8 ≤ 1024 := by have := isW_bd hw; omega
    have n8 : n ≤ 128 := by omega
    have h8 : ((w8 : Nat) : Int) / 8 = (n : Int) := by omega
    have hwn : wrap64 (n : Int) = (n : Int) := by unfold wrap64; omega
    have hwn2 : IntKind.i64.wrap (n : Int) = (n : Int) := by rw [IntKind.wrap_i64]; omega
    have HE := Hid.mk hn
    clear hnew hw hn
    go_enter Tryd.func5, Tryd.ntmps5
    go_wp2_with fail
    refine HB.out.mono ?_
    rintro e w1 ⟨rfl, b1⟩
    go_wp2_with fail
    refine (HN.out w1).mono ?_
    rintro e w2 ⟨rfl, htr, b2⟩
    obtain ⟨t, hte⟩ : ∃ t, t = w1.heap.size := ⟨_, rfl⟩
    have htp : 0 < t := by have := b1.size; omega
    have H0 := Hid.mk (show ZI (n := n) W w2 t w8 0 [] [] [] ⟨0, 0, 0, 0⟩ (.slice none 0 0) [] from ⟨⟨by rw [hte]; exact htr, (fun k hk => by
      rcases hk with rfl | hk | hk
      · rw [hte]; exact b1.size
      · cases hk
      · cases hk), chain b1 b2 (Nat.le_refl _)⟩, Nat.le_refl _, ⟨rfl, .inl ⟨rfl, rfl⟩⟩, List.nodup_nil, fun c => by simp [lives]⟩)
    rw [← hte]
    clear htr b1 b2 hte
    go_wp2_with fail
    go_loopw [7, 8, 10, 12] (fun u7 u8 u10 u12 wr => ∃ (i : Nat) (T : List (Nd (Cd n))) (bs : List Nat) (ms : List (Option Nat)) (x : Num) (A : List (Cd n)), u8 = .int .i64 i ∧ i ≤ ln ∧ Hid (ZI W wr t w8 i T bs ms x u7 A)) (fun _ u _ _ _ => ln - (intOf u).toNat)
    case atStart => exact ⟨0, [], [], [], ⟨0, 0, 0, 0⟩, [], rfl, Nat.zero_le _, H0⟩
    case round =>
      obtain ⟨i, T, bs, ms, x, A, rfl, hi, HJ⟩ := hrel
      by_cases hlt : i < ln
      · have i1 : (i : Int) < (ln : Int) := by omega
        have i2 : (0 : Int) ≤ (i : Int) := by omega
        have hwi : IntKind.i64.wrap ((i : Int) + 1) = ((i + 1 : Nat) : Int) := by rw [IntKind.wrap_i64]; omega
        obtain ⟨g, off, ela, o0, o1, o2⟩ := (HL.out.1.below (HJ.out.ot.be)).at' i (by rw [← HL.out.2]; exact hlt)
        subst ela
        obtain ⟨K, hK⟩ : ∃ K, K = (l[i]'(by rw [← HL.out.2]; exact hlt)).1 := ⟨_, rfl⟩
        obtain ⟨s, hs⟩ : ∃ s, s = (l[i]'(by rw [← HL.out.2]; exact hlt)).2.1 := ⟨_, rfl⟩
        obtain ⟨N, hN⟩ : ∃ N, N = (l[i]'(by rw [← HL.out.2]; exact hlt)).2.2 := ⟨_, rfl⟩
        rw [← hK] at o0
        rw [← hs] at o1
        rw [← hN] at o2
        clear hK hs hN
        obtain ⟨ua, uc, hu, -⟩ := slice_form HJ.out.row
        obtain ⟨m, hm⟩ : ∃ m, m = A.length := ⟨_, rfl⟩
        have hmi : m ≤ i := by have := HJ.out.len.2; omega
        have HM := Hid.mk hm
        rw [← hm] at hu
        subst hu
        clear hm
        go_wp2_with fail
        have bA : Below wr.heap.size wr (wr.alloc (.cells #[.int .i64 K, .string s, .int .i64 N] 40)) := (Below.refl _ wr).alloc (Nat.le_refl _) _
        obtain ⟨wA, hwA⟩ : ∃ wA, wA = wr.alloc (.cells #[.int .i64 K, .string s, .int .i64 N] 40) := ⟨_, rfl⟩
        rw [← hwA] at bA ⊢
        have a0 : wA.cell? ⟨wr.heap.size, 0, none⟩ = some (.int .i64 K) := by rw [hwA]; go_simp
        have a1 : wA.cell? ⟨wr.heap.size, 1, none⟩ = some (.string s) := by rw [hwA]; go_simp
        have a2 : wA.cell? ⟨wr.heap.size, 2, none⟩ = some (.int .i64 N) := by rw [hwA]; go_simp
        have hszA : wr.heap.size < wA.heap.size := by rw [hwA]; simp
        have oA := HJ.out.ot.below bA
        have rA : wA.ownsRow W.heap.size 9 1 (.slice ua A.length uc) A.length (A.map sV) := by
          have := row_kept (F := fun _ => False) HJ.out.row (.below bA) (fun _ _ h => h)
          rw [HM.out] at this
          exact this
        have hset := set_any (A.map (·.1)) ua uc K s N w8 n wA (sta_row rA) (by rw [List.length_map]; have := HM.out; omega) HE.out hw1024
        rw [List.length_map, ← HM.out] at hset
        clear hwA bA o0 o1 o2
        refine hset.mono ?_
        intro e w3 hS
        obtain ⟨a', c', rfl, b3, r3⟩ := set_row oA.be.size rA hS
        have o3 := oA.below b3
        have c0 := cell_lat b3 a0
        have c1 := cell_lat b3 a1
        have c2 := cell_lat b3 a2
        have hsz3 : wr.heap.size < w3.heap.size := Nat.lt_of_lt_of_le hszA b3.size
        have hft : ∀ k, TFoot t bs ms k → k < wr.heap.size := fun k hk => HJ.out.ot.tr.lt hk
        have hle := HJ.out.le
        have hdo := do_any K s N w3 o3.tr (HW.out w3 o3.be) htp (by omega)
        have hlen' := nxt_le K s A
        obtain ⟨m', hm'⟩ : ∃ m', m' = (nxtA K s A).length := ⟨_, rfl⟩
        have HA := Hid.mk (And.intro o3 (And.intro r3 (And.intro hft (And.intro hm' (And.intro HJ.out.nd HJ.out.mem)))))
        have HC := Hid.mk (And.intro c0 (And.intro c1 c2))
        have hmm : m' ≤ i + 1 := by have := HM.out; omega
        rw [← hm']
        clear o3 r3 hft hset hS b3 oA rA a0 a1 a2 hszA hm' hlen'
        go_wp2_with fail
        refine hdo.mono ?_
        rintro r w4 hd
        clear c0 c1 c2
        have hfr := do_frame hd
        have r4 := row_do HA.out.1.tr hd HA.out.2.1
        obtain ⟨T', bs', ms', x', len, y, e, q1, q2, q3, q4, va, vc, o4, hT', hmem', rfl, hk1, hk2, hk4, hk5⟩ := (do_scan HA.out.1 HA.out.2.2.2.2.1 HA.out.2.2.2.2.2 hd).ex
        have hbl : w4.heap[wr.heap.size]? = w3.heap[wr.heap.size]? := hfr.block wr.heap.size hsz3 (fun e => by
          rcases e with e | e
          · have := HA.out.2.2.1 _ e; omega
          · omega)
        have d0 : w4.cell? ⟨wr.heap.size, 0, none⟩ = some (.int .i64 K) := by have := HC.out.1; unfold World.cell? at this ⊢; rw [hbl]; exact this
        have d1 : w4.cell? ⟨wr.heap.size, 1, none⟩ = some (.string s) := by have := HC.out.2.1; unfold World.cell? at this ⊢; rw [hbl]; exact this
        have d2 : w4.cell? ⟨wr.heap.size, 2, none⟩ = some (.int .i64 N) := by have := HC.out.2.2; unfold World.cell? at this ⊢; rw [hbl]; exact this
        have zi : ZI W w4 t w8 (i + 1) T' bs' ms' x' (.slice a' (nxtA K s A).length c') (nxtA K s A) := ⟨o4, by omega, r4, nxt_nodup K s HJ.out.nd, hmem'⟩
        have HZ := Hid.mk zi
        have HK := Hid.mk (And.intro hk1 (And.intro hk2 (And.intro hk4 hk5)))
        have hsz4 : wr.heap.size < w4.heap.size := Nat.lt_of_lt_of_le hsz3 hfr.size
        obtain ⟨gb, hgb⟩ : ∃ gb, gb = wr.heap.size := ⟨_, rfl⟩
        rw [← hgb] at d0 d1 d2 hsz4 ⊢
        have bG : Below w4.heap.size w4 (w4.alloc (.cells #[.bool y, .int .i64 e, .slice va len vc, .int .i64 q1, .int .i64 q2, .int .i64 q3, .int .i64 q4] 42)) := (Below.refl _ w4).alloc (Nat.le_refl _) _
        have e0 := cell_lat bG d0
        have e1 := cell_lat bG d1
        have e2 := cell_lat bG d2
        have HGB := Hid.mk bG
        simp only [gotV]
        clear hfr hd r4 o4 hT' hmem' hk1 hk2 hk4 hk5 hbl zi hdo hgb bG
        by_cases hK1 : K = 1
        · as_aux_lemma =>
            subst hK1
            obtain ⟨h1, h2⟩ := HK.out.1 rfl
            have hmA : A.length < (nxtA 1 s A).length ↔ m < m' := by have := HA.out.2.2.2.1; have := HM.out; omega
            obtain rfl : y = decide (m < m') := by cases y with | false => exact (decide_eq_false (fun h => absurd (h1.2 (hmA.2 h)) (by decide))).symm | true => exact (decide_eq_true (hmA.1 (h1.1 rfl))).symm
            have hee : (e == 0) = (((s.size : Nat) : Int) == (n : Int)) := beq_pair h2
            have l3 : decide ((m : Int) < (m' : Int)) = decide (m < m') := by simp
            obtain ⟨B1, hB1⟩ : ∃ B1, B1 = decide (m < m') := ⟨_, rfl⟩
            rw [← hB1] at l3 HGB e0 e1 e2 ⊢
            have l4 := hB1.symm
            clear h1 h2 hmA hB1
            go_wp2_with fail
            obtain ⟨wz, hwz⟩ : ∃ wz, wz = w4.alloc (.cells #[.bool B1, .int .i64 e, .slice va len vc, .int .i64 q1, .int .i64 q2, .int .i64 q3, .int .i64 q4] 42) := ⟨_, rfl⟩
            rw [← hwz]
            rw [← hwz] at HGB e0 e1 e2
            have z3 : wz.cell? ⟨w4.heap.size, 1, none⟩ = some (.int .i64 e) := by rw [hwz]; go_simp
            have z4 : wz.cell? ⟨w4.heap.size, 2, none⟩ = some (.slice va len vc) := by rw [hwz]; go_simp
            obtain ⟨gw, hgw⟩ : ∃ gw, gw = w4.heap.size := ⟨_, rfl⟩
            rw [← hgw] at z3 z4 ⊢
            have z1 := e1
            have z2 := e2
            have HZZ := Hid.mk (HZ.out.below HGB.out)
            clear hwz hgw e0 e1 e2 d0 d1 d2
            have HMM := Hid.mk HA.out.2.2.2.1
            have HQ := Hid.mk (HZZ.out.asks (HW.out) hW0 s (by have := HMM.out; omega))
            rw [← HMM.out] at HQ
            have HSS := Hid.mk (show ∀ w', Below wz.heap.size wz w' → (Below wz.heap.size wz w' ∧ w'.cell? ⟨gb, 1, none⟩ = some (.string s) ∧ w'.cell? ⟨gb, 2, none⟩ = some (.int .i64 N) ∧ w'.cell? ⟨gw, 1, none⟩ = some (.int .i64 e) ∧ w'.cell? ⟨gw, 2, none⟩ = some (.slice va len vc)) from fun w' b => ⟨b, cell_lat b z1, cell_lat b z2, cell_lat b z3, cell_lat b z4⟩)
            refine wp_region_held_drew (S := fun w' => Below wz.heap.size wz w' ∧ w'.cell? ⟨gb, 1, none⟩ = some (.string s) ∧ w'.cell? ⟨gb, 2, none⟩ = some (.int .i64 N) ∧ w'.cell? ⟨gw, 1, none⟩ = some (.int .i64 e) ∧ w'.cell? ⟨gw, 2, none⟩ = some (.slice va len vc)) (by kernel_rfl) ?_ (fun hHeld => ?_)
            · exact ⟨(Below.refl _ wz).drew, z1, z2, z3, z4⟩
            refine wpAnyH_take (i := 0) (oi := { dst := some 139, op := Op.move (Operand.tmp 6), type := 24, pos := "plain.go:112", after := #[], guard := none }) (v := ?v1) rfl (by kernel_rfl) (by kernel_rfl) (by kernel_rfl) (fun _ _ _ h => h) (Or.inl ⟨by rfl, ?h1⟩) (by assumption) ?r1
            case h1 => (intro w0 hSw; (try dsimp only at hSw); go_simp; try (with_reducible rfl))
            simp only [Act.put, List.setIfInBounds_toArray, List.set_cons_zero, List.set_cons_succ]
            refine wpAnyH_take (i := 2) (oi := { dst := some 141, op := Op.move (Operand.tmp 7), type := 45, pos := "plain.go:112", after := #[], guard := none }) (v := ?v2) rfl (by kernel_rfl) (by kernel_rfl) (by kernel_rfl) (fun _ _ _ h => h) (Or.inl ⟨by rfl, ?h2⟩) (by assumption) ?r2
            case h2 => (intro w0 hSw; (try dsimp only at hSw); go_simp; try (with_reducible rfl))
            simp only [Act.put, List.setIfInBounds_toArray, List.set_cons_zero, List.set_cons_succ]
            refine wpAnyH_take (i := 3) (oi := { dst := some 142, op := Op.call { callee := Callee.builtin Builtin.len, args := #[Operand.tmp 141], argTypes := #[45] }, type := 3, pos := "plain.go:112", after := #[{ on := 2, ground := Ground.data }], guard := none }) (v := ?v3) rfl (by kernel_rfl) (by kernel_rfl) (by kernel_rfl) (fun _ _ _ h => h) (Or.inl ⟨by rfl, ?h3⟩) (by assumption) ?r3
            case h3 => (intro w0 hSw; (try dsimp only at hSw); go_simp; try (with_reducible rfl))
            simp only [Act.put, List.setIfInBounds_toArray, List.set_cons_zero, List.set_cons_succ]
            refine wpAnyH_ready (rs := [1]) (by kernel_rfl) (by simp) ?_
            refine AllReadyH.cons rfl (fun K hK => ?_) AllReadyH.nil
            go_simp
            go_wp2_with (go_at_call 18; refine (HQ.out.1 _ (Below.refl _ wz).drew).mono ?_; rintro e' w' ⟨rfl, he'⟩; subst he'; have bL := (Below.refl wz.heap.size wz).drew)
            refine hK.out _ _ ?_ (fun hHeld => ?_)
            · exact HSS.out _ (by assumption)
            clear hK K
            refine wpAnyH_take (i := 4) (oi := { dst := some 143, op := Op.binOp BinOp.neq 3 (Operand.tmp 140) (Operand.tmp 142) 3, type := 4, pos := "plain.go:112", after := #[{ on := 1, ground := Ground.data }, { on := 3, ground := Ground.data }], guard := none }) (v := ?v4) rfl (by kernel_rfl) (by kernel_rfl) (by kernel_rfl) (fun _ _ _ h => h) (Or.inl ⟨by rfl, ?h4⟩) (by assumption) ?r4
            case h4 => (intro w0 hSw; (try dsimp only at hSw); go_simp; try (with_reducible rfl))
            simp only [Act.put, List.setIfInBounds_toArray, List.set_cons_zero, List.set_cons_succ]
            refine wpAnyH_take (i := 5) (oi := { dst := some 144, op := Op.move (Operand.tmp 143), type := 4, pos := "plain.go:112", after := #[{ on := 4, ground := Ground.data }, { on := 1, ground := Ground.chain }], guard := none }) (v := ?v5) rfl (by kernel_rfl) (by kernel_rfl) (by kernel_rfl) (fun _ _ _ h => h) (Or.inl ⟨by rfl, ?h5⟩) (by assumption) ?r5
            case h5 => (intro w0 hSw; (try dsimp only at hSw); go_simp; try (with_reducible rfl))
            simp only [Act.put, List.setIfInBounds_toArray, List.set_cons_zero, List.set_cons_succ]
            refine wpAnyH_take (i := 6) (oi := { dst := some 145, op := Op.move (Operand.tmp 6), type := 24, pos := "plain.go:112", after := #[{ on := 5, ground := Ground.guard }], guard := some (5, false) }) (v := ?v6) rfl (by kernel_rfl) (by kernel_rfl) (by kernel_rfl) (fun _ _ _ h => h) (Or.inl ⟨by rfl, ?h6⟩) (by assumption) ?r6
            case h6 => (intro w0 hSw; (try dsimp only at hSw); go_simp; try (with_reducible rfl))
            simp only [Act.put, List.setIfInBounds_toArray, List.set_cons_zero, List.set_cons_succ]
            refine wpAnyH_take (i := 7) (oi := { dst := some 146, op := Op.fieldAddr 40 (Operand.tmp 9) 1, type := 0, pos := "plain.go:112", after := #[{ on := 5, ground := Ground.guard }], guard := some (5, false) }) (v := ?v7) rfl (by kernel_rfl) (by kernel_rfl) (by kernel_rfl) (fun _ _ _ h => h) (Or.inl ⟨by rfl, ?h7⟩) (by assumption) ?r7
            case h7 => (intro w0 hSw; (try dsimp only at hSw); go_simp; try (with_reducible rfl))
            simp only [Act.put, List.setIfInBounds_toArray, List.set_cons_zero, List.set_cons_succ]
            refine wpAnyH_take (i := 8) (oi := { dst := some 147, op := Op.load 9 (Operand.tmp 146), type := 9, pos := "plain.go:112", after := #[{ on := 7, ground := Ground.data }, { on := 5, ground := Ground.guard }], guard := some (5, false) }) (v := ?v8) rfl (by kernel_rfl) (by kernel_rfl) (by kernel_rfl) (fun _ _ _ h => h) (Or.inl ⟨by rfl, ?h8⟩) (by assumption) ?r8
            case h8 => (intro w0 hSw; (try dsimp only at hSw); go_simp; try (with_reducible rfl))
            simp only [Act.put, List.setIfInBounds_toArray, List.set_cons_zero, List.set_cons_succ]
            refine wpAnyH_take (i := 10) (oi := { dst := some 149, op := Op.move (Operand.tmp 7), type := 45, pos := "plain.go:112", after := #[{ on := 5, ground := Ground.guard }], guard := some (5, false) }) (v := ?v9) rfl (by kernel_rfl) (by kernel_rfl) (by kernel_rfl) (fun _ _ _ h => h) (Or.inl ⟨by rfl, ?h9⟩) (by assumption) ?r9
            case h9 => (intro w0 hSw; (try dsimp only at hSw); go_simp; try (with_reducible rfl))
            simp only [Act.put, List.setIfInBounds_toArray, List.set_cons_zero, List.set_cons_succ]
            refine wpAnyH_take (i := 11) (oi := { dst := some 150, op := Op.fieldAddr 40 (Operand.tmp 9) 1, type := 0, pos := "plain.go:112", after := #[{ on := 5, ground := Ground.guard }], guard := some (5, false) }) (v := ?v10) rfl (by kernel_rfl) (by kernel_rfl) (by kernel_rfl) (fun _ _ _ h => h) (Or.inl ⟨by rfl, ?h10⟩) (by assumption) ?r10
            case h10 => (intro w0 hSw; (try dsimp only at hSw); go_simp; try (with_reducible rfl))
            simp only [Act.put, List.setIfInBounds_toArray, List.set_cons_zero, List.set_cons_succ]
            refine wpAnyH_take (i := 12) (oi := { dst := some 151, op := Op.load 9 (Operand.tmp 150), type := 9, pos := "plain.go:112", after := #[{ on := 11, ground := Ground.data }, { on := 5, ground := Ground.guard }], guard := some (5, false) }) (v := ?v11) rfl (by kernel_rfl) (by kernel_rfl) (by kernel_rfl) (fun _ _ _ h => h) (Or.inl ⟨by rfl, ?h11⟩) (by assumption) ?r11
            case h11 => (intro w0 hSw; (try dsimp only at hSw); go_simp; try (with_reducible rfl))
            simp only [Act.put, List.setIfInBounds_toArray, List.set_cons_zero, List.set_cons_succ]
            refine wpAnyH_ready (rs := [9]) (by kernel_rfl) (by simp) ?_
            refine AllReadyH.cons rfl (fun K hK => ?_) AllReadyH.nil
            go_simp
            go_wp2_with (go_at_call 15; refine (HQ.out.2.1 _ (by assumption)).mono ?_; rintro e' wh ⟨bh, rfl, b5, hbh⟩)
            refine hK.out _ _ ?_ (fun hHeld => ?_)
            · exact HSS.out _ (by assumption)
            clear hK K
            clear bL
            refine wpAnyH_ready (rs := [13]) (by kernel_rfl) (by simp) ?_
            refine AllReadyH.cons rfl (fun K hK => ?_) AllReadyH.nil
            go_simp
            go_wp2_with (go_at_call 26; refine (HQ.out.2.2 _ (by assumption)).mono ?_; rintro e' wo ⟨bo, rfl, b6, hbo⟩; obtain rfl : bh = bo := bool_iff hbh hbo)
            refine hK.out _ _ ?_ (fun hHeld => ?_)
            · exact HSS.out _ (by assumption)
            clear hK K
            clear b5
            refine wpAnyH_take (i := 14) (oi := { dst := some 153, op := Op.binOp BinOp.neq 4 (Operand.tmp 148) (Operand.tmp 152) 4, type := 4, pos := "plain.go:112", after := #[{ on := 9, ground := Ground.data }, { on := 13, ground := Ground.data }, { on := 5, ground := Ground.guard }], guard := some (5, false) }) (v := ?v12) rfl (by kernel_rfl) (by kernel_rfl) (by kernel_rfl) (fun _ _ _ h => h) (Or.inl ⟨by rfl, ?h12⟩) (by assumption) ?r12
            case h12 => (intro w0 hSw; (try dsimp only at hSw); go_simp; try (with_reducible rfl))
            simp only [Act.put, List.setIfInBounds_toArray, List.set_cons_zero, List.set_cons_succ]
            refine wpAnyH_take (i := 15) (oi := { dst := some 154, op := Op.pick (Operand.tmp 144) (Operand.const (Value.bool true)) (Operand.tmp 153), type := 4, pos := "plain.go:112", after := #[{ on := 5, ground := Ground.data }, { on := 14, ground := Ground.data }], guard := none }) (v := ?v13) rfl (by kernel_rfl) (by kernel_rfl) (by kernel_rfl) (fun _ _ _ h => h) (Or.inl ⟨by rfl, ?h13⟩) (by assumption) ?r13
            case h13 => (intro w0 hSw; (try dsimp only at hSw); go_simp; try (with_reducible rfl))
            simp only [Act.put, List.setIfInBounds_toArray, List.set_cons_zero, List.set_cons_succ]
            refine wpAnyH_done (by kernel_rfl) ?_ _
            go_wp2_with fail
            exact ⟨⟨i + 1, T', bs', ms', x', nxtA 1 s A, by push_cast; rfl, hlt, Hid.mk (by have := HZZ.out.below (by assumption); rw [← HMM.out] at this; exact this)⟩, by simp only [intOf]; omega⟩
        by_cases hK2 : K = 2
        · as_aux_lemma =>
            subst hK2
            have h1 := HK.out.2.1 rfl
            have hmA : (nxtA 2 s A).length < A.length ↔ m' < m := by have := HA.out.2.2.2.1; have := HM.out; omega
            obtain rfl : y = decide (m' < m) := by cases y with | false => exact (decide_eq_false (fun h => absurd (h1.2 (hmA.2 h)) (by decide))).symm | true => exact (decide_eq_true (hmA.1 (h1.1 rfl))).symm
            have l3 : decide ((m' : Int) < (m : Int)) = decide (m' < m) := by simp
            obtain ⟨B1, hB1⟩ : ∃ B1, B1 = decide (m' < m) := ⟨_, rfl⟩
            rw [← hB1] at l3 HGB e0 e1 e2 ⊢
            have l4 := hB1.symm
            clear h1 hmA hB1
            go_wp2_with fail
            obtain ⟨wz, hwz⟩ : ∃ wz, wz = w4.alloc (.cells #[.bool B1, .int .i64 e, .slice va len vc, .int .i64 q1, .int .i64 q2, .int .i64 q3, .int .i64 q4] 42) := ⟨_, rfl⟩
            rw [← hwz]
            rw [← hwz] at HGB e0 e1 e2
            have z3 : wz.cell? ⟨w4.heap.size, 1, none⟩ = some (.int .i64 e) := by rw [hwz]; go_simp
            have z4 : wz.cell? ⟨w4.heap.size, 2, none⟩ = some (.slice va len vc) := by rw [hwz]; go_simp
            obtain ⟨gw, hgw⟩ : ∃ gw, gw = w4.heap.size := ⟨_, rfl⟩
            rw [← hgw] at z3 z4 ⊢
            have z1 := e1
            have z2 := e2
            have HZZ := Hid.mk (HZ.out.below HGB.out)
            clear hwz hgw e0 e1 e2 d0 d1 d2
            have HMM := Hid.mk HA.out.2.2.2.1
            have HQ := Hid.mk (HZZ.out.asks (HW.out) hW0 s (by have := HMM.out; omega))
            rw [← HMM.out] at HQ
            have HSS := Hid.mk (show ∀ w', Below wz.heap.size wz w' → (Below wz.heap.size wz w' ∧ w'.cell? ⟨gb, 1, none⟩ = some (.string s) ∧ w'.cell? ⟨gb, 2, none⟩ = some (.int .i64 N) ∧ w'.cell? ⟨gw, 1, none⟩ = some (.int .i64 e) ∧ w'.cell? ⟨gw, 2, none⟩ = some (.slice va len vc)) from fun w' b => ⟨b, cell_lat b z1, cell_lat b z2, cell_lat b z3, cell_lat b z4⟩)
            refine wp_region_held_drew (S := fun w' => Below wz.heap.size wz w' ∧ w'.cell? ⟨gb, 1, none⟩ = some (.string s) ∧ w'.cell? ⟨gb, 2, none⟩ = some (.int .i64 N) ∧ w'.cell? ⟨gw, 1, none⟩ = some (.int .i64 e) ∧ w'.cell? ⟨gw, 2, none⟩ = some (.slice va len vc)) (by kernel_rfl) ?_ (fun hHeld => ?_)
            · exact ⟨(Below.refl _ wz).drew, z1, z2, z3, z4⟩
            refine wpAnyH_take (i := 0) (oi := { dst := some 139, op := Op.move (Operand.tmp 6), type := 24, pos := "plain.go:112", after := #[], guard := none }) (v := ?v14) rfl (by kernel_rfl) (by kernel_rfl) (by kernel_rfl) (fun _ _ _ h => h) (Or.inl ⟨by rfl, ?h14⟩) (by assumption) ?r14
            case h14 => (intro w0 hSw; (try dsimp only at hSw); go_simp; try (with_reducible rfl))
            simp only [Act.put, List.setIfInBounds_toArray, List.set_cons_zero, List.set_cons_succ]
            refine wpAnyH_take (i := 2) (oi := { dst := some 141, op := Op.move (Operand.tmp 7), type := 45, pos := "plain.go:112", after := #[], guard := none }) (v := ?v15) rfl (by kernel_rfl) (by kernel_rfl) (by kernel_rfl) (fun _ _ _ h => h) (Or.inl ⟨by rfl, ?h15⟩) (by assumption) ?r15
            case h15 => (intro w0 hSw; (try dsimp only at hSw); go_simp; try (with_reducible rfl))
            simp only [Act.put, List.setIfInBounds_toArray, List.set_cons_zero, List.set_cons_succ]
            refine wpAnyH_take (i := 3) (oi := { dst := some 142, op := Op.call { callee := Callee.builtin Builtin.len, args := #[Operand.tmp 141], argTypes := #[45] }, type := 3, pos := "plain.go:112", after := #[{ on := 2, ground := Ground.data }], guard := none }) (v := ?v16) rfl (by kernel_rfl) (by kernel_rfl) (by kernel_rfl) (fun _ _ _ h => h) (Or.inl ⟨by rfl, ?h16⟩) (by assumption) ?r16
            case h16 => (intro w0 hSw; (try dsimp only at hSw); go_simp; try (with_reducible rfl))
            simp only [Act.put, List.setIfInBounds_toArray, List.set_cons_zero, List.set_cons_succ]
            refine wpAnyH_ready (rs := [1]) (by kernel_rfl) (by simp) ?_
            refine AllReadyH.cons rfl (fun K hK => ?_) AllReadyH.nil
            go_simp
            go_wp2_with (go_at_call 18; refine (HQ.out.1 _ (Below.refl _ wz).drew).mono ?_; rintro e' w' ⟨rfl, he'⟩; subst he'; have bL := (Below.refl wz.heap.size wz).drew)
            refine hK.out _ _ ?_ (fun hHeld => ?_)
            · exact HSS.out _ (by assumption)
            clear hK K
            refine wpAnyH_take (i := 4) (oi := { dst := some 143, op := Op.binOp BinOp.neq 3 (Operand.tmp 140) (Operand.tmp 142) 3, type := 4, pos := "plain.go:112", after := #[{ on := 1, ground := Ground.data }, { on := 3, ground := Ground.data }], guard := none }) (v := ?v17) rfl (by kernel_rfl) (by kernel_rfl) (by kernel_rfl) (fun _ _ _ h => h) (Or.inl ⟨by rfl, ?h17⟩) (by assumption) ?r17
            case h17 => (intro w0 hSw; (try dsimp only at hSw); go_simp; try (with_reducible rfl))
            simp only [Act.put, List.setIfInBounds_toArray, List.set_cons_zero, List.set_cons_succ]
            refine wpAnyH_take (i := 5) (oi := { dst := some 144, op := Op.move (Operand.tmp 143), type := 4, pos := "plain.go:112", after := #[{ on := 4, ground := Ground.data }, { on := 1, ground := Ground.chain }], guard := none }) (v := ?v18) rfl (by kernel_rfl) (by kernel_rfl) (by kernel_rfl) (fun _ _ _ h => h) (Or.inl ⟨by rfl, ?h18⟩) (by assumption) ?r18
            case h18 => (intro w0 hSw; (try dsimp only at hSw); go_simp; try (with_reducible rfl))
            simp only [Act.put, List.setIfInBounds_toArray, List.set_cons_zero, List.set_cons_succ]
            refine wpAnyH_take (i := 6) (oi := { dst := some 145, op := Op.move (Operand.tmp 6), type := 24, pos := "plain.go:112", after := #[{ on := 5, ground := Ground.guard }], guard := some (5, false) }) (v := ?v19) rfl (by kernel_rfl) (by kernel_rfl) (by kernel_rfl) (fun _ _ _ h => h) (Or.inl ⟨by rfl, ?h19⟩) (by assumption) ?r19
            case h19 => (intro w0 hSw; (try dsimp only at hSw); go_simp; try (with_reducible rfl))
            simp only [Act.put, List.setIfInBounds_toArray, List.set_cons_zero, List.set_cons_succ]
            refine wpAnyH_take (i := 7) (oi := { dst := some 146, op := Op.fieldAddr 40 (Operand.tmp 9) 1, type := 0, pos := "plain.go:112", after := #[{ on := 5, ground := Ground.guard }], guard := some (5, false) }) (v := ?v20) rfl (by kernel_rfl) (by kernel_rfl) (by kernel_rfl) (fun _ _ _ h => h) (Or.inl ⟨by rfl, ?h20⟩) (by assumption) ?r20
            case h20 => (intro w0 hSw; (try dsimp only at hSw); go_simp; try (with_reducible rfl))
            simp only [Act.put, List.setIfInBounds_toArray, List.set_cons_zero, List.set_cons_succ]
            refine wpAnyH_take (i := 8) (oi := { dst := some 147, op := Op.load 9 (Operand.tmp 146), type := 9, pos := "plain.go:112", after := #[{ on := 7, ground := Ground.data }, { on := 5, ground := Ground.guard }], guard := some (5, false) }) (v := ?v21) rfl (by kernel_rfl) (by kernel_rfl) (by kernel_rfl) (fun _ _ _ h => h) (Or.inl ⟨by rfl, ?h21⟩) (by assumption) ?r21
            case h21 => (intro w0 hSw; (try dsimp only at hSw); go_simp; try (with_reducible rfl))
            simp only [Act.put, List.setIfInBounds_toArray, List.set_cons_zero, List.set_cons_succ]
            refine wpAnyH_take (i := 10) (oi := { dst := some 149, op := Op.move (Operand.tmp 7), type := 45, pos := "plain.go:112", after := #[{ on := 5, ground := Ground.guard }], guard := some (5, false) }) (v := ?v22) rfl (by kernel_rfl) (by kernel_rfl) (by kernel_rfl) (fun _ _ _ h => h) (Or.inl ⟨by rfl, ?h22⟩) (by assumption) ?r22
            case h22 => (intro w0 hSw; (try dsimp only at hSw); go_simp; try (with_reducible rfl))
            simp only [Act.put, List.setIfInBounds_toArray, List.set_cons_zero, List.set_cons_succ]
            refine wpAnyH_take (i := 11) (oi := { dst := some 150, op := Op.fieldAddr 40 (Operand.tmp 9) 1, type := 0, pos := "plain.go:112", after := #[{ on := 5, ground := Ground.guard }], guard := some (5, false) }) (v := ?v23) rfl (by kernel_rfl) (by kernel_rfl) (by kernel_rfl) (fun _ _ _ h => h) (Or.inl ⟨by rfl, ?h23⟩) (by assumption) ?r23
            case h23 => (intro w0 hSw; (try dsimp only at hSw); go_simp; try (with_reducible rfl))
            simp only [Act.put, List.setIfInBounds_toArray, List.set_cons_zero, List.set_cons_succ]
            refine wpAnyH_take (i := 12) (oi := { dst := some 151, op := Op.load 9 (Operand.tmp 150), type := 9, pos := "plain.go:112", after := #[{ on := 11, ground := Ground.data }, { on := 5, ground := Ground.guard }], guard := some (5, false) }) (v := ?v24) rfl (by kernel_rfl) (by kernel_rfl) (by kernel_rfl) (fun _ _ _ h => h) (Or.inl ⟨by rfl, ?h24⟩) (by assumption) ?r24
            case h24 => (intro w0 hSw; (try dsimp only at hSw); go_simp; try (with_reducible rfl))
            simp only [Act.put, List.setIfInBounds_toArray, List.set_cons_zero, List.set_cons_succ]
            refine wpAnyH_ready (rs := [9]) (by kernel_rfl) (by simp) ?_
            refine AllReadyH.cons rfl (fun K hK => ?_) AllReadyH.nil
            go_simp
            go_wp2_with (go_at_call 15; refine (HQ.out.2.1 _ (by assumption)).mono ?_; rintro e' wh ⟨bh, rfl, b5, hbh⟩)
            refine hK.out _ _ ?_ (fun hHeld => ?_)
            · exact HSS.out _ (by assumption)
            clear hK K
            clear bL
            refine wpAnyH_ready (rs := [13]) (by kernel_rfl) (by simp) ?_
            refine AllReadyH.cons rfl (fun K hK => ?_) AllReadyH.nil
            go_simp
            go_wp2_with (go_at_call 26; refine (HQ.out.2.2 _ (by assumption)).mono ?_; rintro e' wo ⟨bo, rfl, b6, hbo⟩; obtain rfl : bh = bo := bool_iff hbh hbo)
            refine hK.out _ _ ?_ (fun hHeld => ?_)
            · exact HSS.out _ (by assumption)
            clear hK K
            clear b5
            refine wpAnyH_take (i := 14) (oi := { dst := some 153, op := Op.binOp BinOp.neq 4 (Operand.tmp 148) (Operand.tmp 152) 4, type := 4, pos := "plain.go:112", after := #[{ on := 9, ground := Ground.data }, { on := 13, ground := Ground.data }, { on := 5, ground := Ground.guard }], guard := some (5, false) }) (v := ?v25) rfl (by kernel_rfl) (by kernel_rfl) (by kernel_rfl) (fun _ _ _ h => h) (Or.inl ⟨by rfl, ?h25⟩) (by assumption) ?r25
            case h25 => (intro w0 hSw; (try dsimp only at hSw); go_simp; try (with_reducible rfl))
            simp only [Act.put, List.setIfInBounds_toArray, List.set_cons_zero, List.set_cons_succ]
            refine wpAnyH_take (i := 15) (oi := { dst := some 154, op := Op.pick (Operand.tmp 144) (Operand.const (Value.bool true)) (Operand.tmp 153), type := 4, pos := "plain.go:112", after := #[{ on := 5, ground := Ground.data }, { on := 14, ground := Ground.data }], guard := none }) (v := ?v26) rfl (by kernel_rfl) (by kernel_rfl) (by kernel_rfl) (fun _ _ _ h => h) (Or.inl ⟨by rfl, ?h26⟩) (by assumption) ?r26
            case h26 => (intro w0 hSw; (try dsimp only at hSw); go_simp; try (with_reducible rfl))
            simp only [Act.put, List.setIfInBounds_toArray, List.set_cons_zero, List.set_cons_succ]
            refine wpAnyH_done (by kernel_rfl) ?_ _
            go_wp2_with fail
            exact ⟨⟨i + 1, T', bs', ms', x', nxtA 2 s A, by push_cast; rfl, hlt, Hid.mk (by have := HZZ.out.below (by assumption); rw [← HMM.out] at this; exact this)⟩, by simp only [intOf]; omega⟩
        by_cases hK4 : K = 4
        · subst hK4
          by_cases hs : s.size = n
          · by_cases hN0 : 0 ≤ N
            · by_cases hN1 : N ≤ (w8 : Int)
              · as_aux_lemma =>
                  obtain ⟨rfl, hlen0, hat0⟩ := HK.out.2.2.1 rfl hs hN0 hN1
                  obtain ⟨N', rfl⟩ : ∃ N' : Nat, N = N' := ⟨N.toNat, by omega⟩
                  rw [Int.toNat_natCast] at hlen0 hat0
                  obtain ⟨q, hq, hlen, hat⟩ : ∃ q : Cd n, q.1 = s ∧ len = (ansL 9223372036854775807 N' q (lives T')).length ∧ HAt w4 va (ansL 9223372036854775807 N' q (lives T')) := ⟨⟨s, hs⟩, rfl, hlen0, hat0⟩
                  have HS1 := Hid.mk hq
                  have HSZ := Hid.mk (And.intro hlen hat)
                  have hf1 : (((s.size : Nat) : Int) == (n : Int)) = true := by simpa using (by omega : ((s.size : Nat) : Int) = (n : Int))
                  have n0 : (0 : Int) ≤ ((N' : Nat) : Int) := hN0
                  have n1 : ((N' : Nat) : Int) ≤ (w8 : Int) := hN1
                  have n2 : N' ≤ w8 := by omega
                  have n3 : decide (((N' : Nat) : Int) ≤ (w8 : Int)) = true := by simp; omega
                  have n4 : decide (N' ≤ w8) = true := by simp; omega
                  clear hlen0 hat0 hs hN0 hN1 hlen hat hq
                  go_wp2_with fail
                  obtain ⟨wz, hwz⟩ : ∃ wz, wz = w4.alloc (.cells #[.bool y, .int .i64 0, .slice va len vc, .int .i64 q1, .int .i64 q2, .int .i64 q3, .int .i64 q4] 42) := ⟨_, rfl⟩
                  rw [← hwz]
                  rw [← hwz] at HGB e0 e1 e2
                  have z3 : wz.cell? ⟨w4.heap.size, 1, none⟩ = some (.int .i64 0) := by rw [hwz]; go_simp
                  have z4 : wz.cell? ⟨w4.heap.size, 2, none⟩ = some (.slice va len vc) := by rw [hwz]; go_simp
                  obtain ⟨gw, hgw⟩ : ∃ gw, gw = w4.heap.size := ⟨_, rfl⟩
                  rw [← hgw] at z3 z4 ⊢
                  have z1 := e1
                  have z2 := e2
                  have HZZ := Hid.mk (HZ.out.below HGB.out)
                  clear hwz hgw e0 e1 e2 d0 d1 d2
                  have HMM := Hid.mk HA.out.2.2.2.1
                  have HQ := Hid.mk (HZZ.out.asks (HW.out) hW0 s (by have := HMM.out; omega))
                  rw [← HMM.out] at HQ
                  have HSS := Hid.mk (show ∀ w', Below wz.heap.size wz w' → (Below wz.heap.size wz w' ∧ w'.cell? ⟨gb, 1, none⟩ = some (.string s) ∧ w'.cell? ⟨gb, 2, none⟩ = some (.int .i64 (N' : Nat)) ∧ w'.cell? ⟨gw, 1, none⟩ = some (.int .i64 0) ∧ w'.cell? ⟨gw, 2, none⟩ = some (.slice va len vc)) from fun w' b => ⟨b, cell_lat b z1, cell_lat b z2, cell_lat b z3, cell_lat b z4⟩)
                  have HY := Hid.mk (HZZ.out.scans (HW.out) hW0 q HS1.out N' n8 (by have := HMM.out; omega))
                  rw [← HMM.out] at HY
                  refine wp_region_held_drew (S := fun w' => Below wz.heap.size wz w' ∧ w'.cell? ⟨gb, 1, none⟩ = some (.string s) ∧ w'.cell? ⟨gb, 2, none⟩ = some (.int .i64 (N' : Nat)) ∧ w'.cell? ⟨gw, 1, none⟩ = some (.int .i64 0) ∧ w'.cell? ⟨gw, 2, none⟩ = some (.slice va len vc)) (by kernel_rfl) ?_ (fun hHeld => ?_)
                  · exact ⟨(Below.refl _ wz).drew, z1, z2, z3, z4⟩
                  refine wpAnyH_take (i := 0) (oi := { dst := some 78, op := Op.move (Operand.tmp 12), type := 4, pos := "plain.go:104", after := #[], guard := none }) (v := ?v97) rfl (by kernel_rfl) (by kernel_rfl) (by kernel_rfl) (fun _ _ _ h => h) (Or.inl ⟨by rfl, ?h97⟩) (by assumption) ?r97
                  case h97 => (intro w0 hSw; (try dsimp only at hSw); go_simp; try (with_reducible rfl))
                  simp only [Act.put, List.setIfInBounds_toArray, List.set_cons_zero, List.set_cons_succ]
                  refine wpAnyH_take (i := 1) (oi := { dst := some 79, op := Op.move (Operand.tmp 78), type := 4, pos := "plain.go:104", after := #[{ on := 0, ground := Ground.data }], guard := none }) (v := ?v98) rfl (by kernel_rfl) (by kernel_rfl) (by kernel_rfl) (fun _ _ _ h => h) (Or.inl ⟨by rfl, ?h98⟩) (by assumption) ?r98
                  case h98 => (intro w0 hSw; (try dsimp only at hSw); go_simp; try (with_reducible rfl))
                  simp only [Act.put, List.setIfInBounds_toArray, List.set_cons_zero, List.set_cons_succ]
                  refine wpAnyH_take (i := 2) (oi := { dst := some 80, op := Op.fieldAddr 40 (Operand.tmp 9) 2, type := 0, pos := "plain.go:104", after := #[{ on := 1, ground := Ground.guard }], guard := some (1, true) }) (v := ?v99) rfl (by kernel_rfl) (by kernel_rfl) (by kernel_rfl) (fun _ _ _ h => h) (Or.inl ⟨by rfl, ?h99⟩) (by assumption) ?r99
                  case h99 => (intro w0 hSw; (try dsimp only at hSw); go_simp; try (with_reducible rfl))
                  simp only [Act.put, List.setIfInBounds_toArray, List.set_cons_zero, List.set_cons_succ]
                  refine wpAnyH_take (i := 3) (oi := { dst := some 81, op := Op.load 3 (Operand.tmp 80), type := 3, pos := "plain.go:104", after := #[{ on := 2, ground := Ground.data }, { on := 1, ground := Ground.guard }], guard := some (1, true) }) (v := ?v100) rfl (by kernel_rfl) (by kernel_rfl) (by kernel_rfl) (fun _ _ _ h => h) (Or.inl ⟨by rfl, ?h100⟩) (by assumption) ?r100
                  case h100 => (intro w0 hSw; (try dsimp only at hSw); go_simp; try (with_reducible rfl))
                  simp only [Act.put, List.setIfInBounds_toArray, List.set_cons_zero, List.set_cons_succ]
                  refine wpAnyH_take (i := 4) (oi := { dst := some 82, op := Op.binOp BinOp.geq 3 (Operand.tmp 81) (Operand.const (Value.int IntKind.i64 0)) 3, type := 4, pos := "plain.go:104", after := #[{ on := 3, ground := Ground.data }, { on := 1, ground := Ground.guard }], guard := some (1, true) }) (v := ?v101) rfl (by kernel_rfl) (by kernel_rfl) (by kernel_rfl) (fun _ _ _ h => h) (Or.inl ⟨by rfl, ?h101⟩) (by assumption) ?r101
                  case h101 => (intro w0 hSw; (try dsimp only at hSw); go_simp; try (with_reducible rfl))
                  simp only [Act.put, List.setIfInBounds_toArray, List.set_cons_zero, List.set_cons_succ]
                  refine wpAnyH_take (i := 5) (oi := { dst := some 83, op := Op.pick (Operand.tmp 79) (Operand.tmp 82) (Operand.const (Value.bool false)), type := 4, pos := "plain.go:104", after := #[{ on := 1, ground := Ground.data }, { on := 4, ground := Ground.data }], guard := none }) (v := ?v102) rfl (by kernel_rfl) (by kernel_rfl) (by kernel_rfl) (fun _ _ _ h => h) (Or.inl ⟨by rfl, ?h102⟩) (by assumption) ?r102
                  case h102 => (intro w0 hSw; (try dsimp only at hSw); go_simp; try (with_reducible rfl))
                  simp only [Act.put, List.setIfInBounds_toArray, List.set_cons_zero, List.set_cons_succ]
                  refine wpAnyH_take (i := 6) (oi := { dst := some 84, op := Op.move (Operand.tmp 83), type := 4, pos := "plain.go:104", after := #[{ on := 5, ground := Ground.data }, { on := 1, ground := Ground.chain }], guard := none }) (v := ?v103) rfl (by kernel_rfl) (by kernel_rfl) (by kernel_rfl) (fun _ _ _ h => h) (Or.inl ⟨by rfl, ?h103⟩) (by assumption) ?r103
                  case h103 => (intro w0 hSw; (try dsimp only at hSw); go_simp; try (with_reducible rfl))
                  simp only [Act.put, List.setIfInBounds_toArray, List.set_cons_zero, List.set_cons_succ]
                  refine wpAnyH_take (i := 7) (oi := { dst := some 85, op := Op.fieldAddr 40 (Operand.tmp 9) 2, type := 0, pos := "plain.go:104", after := #[{ on := 6, ground := Ground.guard }], guard := some (6, true) }) (v := ?v104) rfl (by kernel_rfl) (by kernel_rfl) (by kernel_rfl) (fun _ _ _ h => h) (Or.inl ⟨by rfl, ?h104⟩) (by assumption) ?r104
                  case h104 => (intro w0 hSw; (try dsimp only at hSw); go_simp; try (with_reducible rfl))
                  simp only [Act.put, List.setIfInBounds_toArray, List.set_cons_zero, List.set_cons_succ]
                  refine wpAnyH_take (i := 8) (oi := { dst := some 86, op := Op.load 3 (Operand.tmp 85), type := 3, pos := "plain.go:104", after := #[{ on := 7, ground := Ground.data }, { on := 6, ground := Ground.guard }], guard := some (6, true) }) (v := ?v105) rfl (by kernel_rfl) (by kernel_rfl) (by kernel_rfl) (fun _ _ _ h => h) (Or.inl ⟨by rfl, ?h105⟩) (by assumption) ?r105
                  case h105 => (intro w0 hSw; (try dsimp only at hSw); go_simp; try (with_reducible rfl))
                  simp only [Act.put, List.setIfInBounds_toArray, List.set_cons_zero, List.set_cons_succ]
                  refine wpAnyH_take (i := 9) (oi := { dst := some 87, op := Op.move (Operand.tmp 0), type := 3, pos := "plain.go:104", after := #[{ on := 6, ground := Ground.guard }], guard := some (6, true) }) (v := ?v106) rfl (by kernel_rfl) (by kernel_rfl) (by kernel_rfl) (fun _ _ _ h => h) (Or.inl ⟨by rfl, ?h106⟩) (by assumption) ?r106
                  case h106 => (intro w0 hSw; (try dsimp only at hSw); go_simp; try (with_reducible rfl))
                  simp only [Act.put, List.setIfInBounds_toArray, List.set_cons_zero, List.set_cons_succ]
                  refine wpAnyH_take (i := 10) (oi := { dst := some 88, op := Op.binOp BinOp.leq 3 (Operand.tmp 86) (Operand.tmp 87) 3, type := 4, pos := "plain.go:104", after := #[{ on := 8, ground := Ground.data }, { on := 9, ground := Ground.data }, { on := 6, ground := Ground.guard }], guard := some (6, true) }) (v := ?v107) rfl (by kernel_rfl) (by kernel_rfl) (by kernel_rfl) (fun _ _ _ h => h) (Or.inl ⟨by rfl, ?h107⟩) (by assumption) ?r107
                  case h107 => (intro w0 hSw; (try dsimp only at hSw); go_simp; try (with_reducible rfl))
                  simp only [Act.put, List.setIfInBounds_toArray, List.set_cons_zero, List.set_cons_succ]
                  refine wpAnyH_take (i := 11) (oi := { dst := some 89, op := Op.pick (Operand.tmp 84) (Operand.tmp 88) (Operand.const (Value.bool false)), type := 4, pos := "plain.go:104", after := #[{ on := 6, ground := Ground.data }, { on := 10, ground := Ground.data }], guard := none }) (v := ?v108) rfl (by kernel_rfl) (by kernel_rfl) (by kernel_rfl) (fun _ _ _ h => h) (Or.inl ⟨by rfl, ?h108⟩) (by assumption) ?r108
                  case h108 => (intro w0 hSw; (try dsimp only at hSw); go_simp; try (with_reducible rfl))
                  simp only [Act.put, List.setIfInBounds_toArray, List.set_cons_zero, List.set_cons_succ]
                  refine wpAnyH_take (i := 12) (oi := { dst := some 90, op := Op.move (Operand.tmp 89), type := 4, pos := "plain.go:104", after := #[{ on := 11, ground := Ground.data }, { on := 6, ground := Ground.chain }], guard := none }) (v := ?v109) rfl (by kernel_rfl) (by kernel_rfl) (by kernel_rfl) (fun _ _ _ h => h) (Or.inl ⟨by rfl, ?h109⟩) (by assumption) ?r109
                  case h109 => (intro w0 hSw; (try dsimp only at hSw); go_simp; try (with_reducible rfl))
                  simp only [Act.put, List.setIfInBounds_toArray, List.set_cons_zero, List.set_cons_succ]
                  refine wpAnyH_take (i := 13) (oi := { dst := some 91, op := Op.fieldAddr 42 (Operand.tmp 11) 1, type := 0, pos := "plain.go:104", after := #[{ on := 12, ground := Ground.guard }], guard := some (12, true) }) (v := ?v110) rfl (by kernel_rfl) (by kernel_rfl) (by kernel_rfl) (fun _ _ _ h => h) (Or.inl ⟨by rfl, ?h110⟩) (by assumption) ?r110
                  case h110 => (intro w0 hSw; (try dsimp only at hSw); go_simp; try (with_reducible rfl))
                  simp only [Act.put, List.setIfInBounds_toArray, List.set_cons_zero, List.set_cons_succ]
                  refine wpAnyH_take (i := 14) (oi := { dst := some 92, op := Op.load 3 (Operand.tmp 91), type := 3, pos := "plain.go:104", after := #[{ on := 13, ground := Ground.data }, { on := 12, ground := Ground.guard }], guard := some (12, true) }) (v := ?v111) rfl (by kernel_rfl) (by kernel_rfl) (by kernel_rfl) (fun _ _ _ h => h) (Or.inl ⟨by rfl, ?h111⟩) (by assumption) ?r111
                  case h111 => (intro w0 hSw; (try dsimp only at hSw); go_simp; try (with_reducible rfl))
                  simp only [Act.put, List.setIfInBounds_toArray, List.set_cons_zero, List.set_cons_succ]
                  refine wpAnyH_take (i := 15) (oi := { dst := some 93, op := Op.binOp BinOp.neq 3 (Operand.tmp 92) (Operand.const (Value.int IntKind.i64 0)) 3, type := 4, pos := "plain.go:104", after := #[{ on := 14, ground := Ground.data }, { on := 12, ground := Ground.guard }], guard := some (12, true) }) (v := ?v112) rfl (by kernel_rfl) (by kernel_rfl) (by kernel_rfl) (fun _ _ _ h => h) (Or.inl ⟨by rfl, ?h112⟩) (by assumption) ?r112
                  case h112 => (intro w0 hSw; (try dsimp only at hSw); go_simp; try (with_reducible rfl))
                  simp only [Act.put, List.setIfInBounds_toArray, List.set_cons_zero, List.set_cons_succ]
                  refine wpAnyH_take (i := 16) (oi := { dst := some 94, op := Op.move (Operand.tmp 93), type := 4, pos := "plain.go:104", after := #[{ on := 15, ground := Ground.data }, { on := 12, ground := Ground.chain }, { on := 12, ground := Ground.guard }], guard := some (12, true) }) (v := ?v113) rfl (by kernel_rfl) (by kernel_rfl) (by kernel_rfl) (fun _ _ _ h => h) (Or.inl ⟨by rfl, ?h113⟩) (by assumption) ?r113
                  case h113 => (intro w0 hSw; (try dsimp only at hSw); go_simp; try (with_reducible rfl))
                  simp only [Act.put, List.setIfInBounds_toArray, List.set_cons_zero, List.set_cons_succ]
                  refine wpAnyH_take (i := 17) (oi := { dst := some 95, op := Op.fieldAddr 42 (Operand.tmp 11) 2, type := 0, pos := "plain.go:104", after := #[{ on := 16, ground := Ground.guard }], guard := some (16, false) }) (v := ?v114) rfl (by kernel_rfl) (by kernel_rfl) (by kernel_rfl) (fun _ _ _ h => h) (Or.inl ⟨by rfl, ?h114⟩) (by assumption) ?r114
                  case h114 => (intro w0 hSw; (try dsimp only at hSw); go_simp; try (with_reducible rfl))
                  simp only [Act.put, List.setIfInBounds_toArray, List.set_cons_zero, List.set_cons_succ]
                  refine wpAnyH_take (i := 18) (oi := { dst := some 96, op := Op.load 32 (Operand.tmp 95), type := 32, pos := "plain.go:104", after := #[{ on := 17, ground := Ground.data }, { on := 16, ground := Ground.guard }], guard := some (16, false) }) (v := ?v115) rfl (by kernel_rfl) (by kernel_rfl) (by kernel_rfl) (fun _ _ _ h => h) (Or.inl ⟨by rfl, ?h115⟩) (by assumption) ?r115
                  case h115 => (intro w0 hSw; (try dsimp only at hSw); go_simp; try (with_reducible rfl))
                  simp only [Act.put, List.setIfInBounds_toArray, List.set_cons_zero, List.set_cons_succ]
                  refine wpAnyH_take (i := 19) (oi := { dst := some 97, op := Op.move (Operand.tmp 7), type := 45, pos := "plain.go:104", after := #[{ on := 16, ground := Ground.guard }], guard := some (16, false) }) (v := ?v116) rfl (by kernel_rfl) (by kernel_rfl) (by kernel_rfl) (fun _ _ _ h => h) (Or.inl ⟨by rfl, ?h116⟩) (by assumption) ?r116
                  case h116 => (intro w0 hSw; (try dsimp only at hSw); go_simp; try (with_reducible rfl))
                  simp only [Act.put, List.setIfInBounds_toArray, List.set_cons_zero, List.set_cons_succ]
                  refine wpAnyH_take (i := 20) (oi := { dst := some 98, op := Op.fieldAddr 40 (Operand.tmp 9) 1, type := 0, pos := "plain.go:104", after := #[{ on := 16, ground := Ground.guard }], guard := some (16, false) }) (v := ?v117) rfl (by kernel_rfl) (by kernel_rfl) (by kernel_rfl) (fun _ _ _ h => h) (Or.inl ⟨by rfl, ?h117⟩) (by assumption) ?r117
                  case h117 => (intro w0 hSw; (try dsimp only at hSw); go_simp; try (with_reducible rfl))
                  simp only [Act.put, List.setIfInBounds_toArray, List.set_cons_zero, List.set_cons_succ]
                  refine wpAnyH_take (i := 21) (oi := { dst := some 99, op := Op.load 9 (Operand.tmp 98), type := 9, pos := "plain.go:104", after := #[{ on := 20, ground := Ground.data }, { on := 16, ground := Ground.guard }], guard := some (16, false) }) (v := ?v118) rfl (by kernel_rfl) (by kernel_rfl) (by kernel_rfl) (fun _ _ _ h => h) (Or.inl ⟨by rfl, ?h118⟩) (by assumption) ?r118
                  case h118 => (intro w0 hSw; (try dsimp only at hSw); go_simp; try (with_reducible rfl))
                  simp only [Act.put, List.setIfInBounds_toArray, List.set_cons_zero, List.set_cons_succ]
                  refine wpAnyH_take (i := 22) (oi := { dst := some 100, op := Op.fieldAddr 40 (Operand.tmp 9) 2, type := 0, pos := "plain.go:104", after := #[{ on := 16, ground := Ground.guard }], guard := some (16, false) }) (v := ?v119) rfl (by kernel_rfl) (by kernel_rfl) (by kernel_rfl) (fun _ _ _ h => h) (Or.inl ⟨by rfl, ?h119⟩) (by assumption) ?r119
                  case h119 => (intro w0 hSw; (try dsimp only at hSw); go_simp; try (with_reducible rfl))
                  simp only [Act.put, List.setIfInBounds_toArray, List.set_cons_zero, List.set_cons_succ]
                  refine wpAnyH_take (i := 23) (oi := { dst := some 101, op := Op.load 3 (Operand.tmp 100), type := 3, pos := "plain.go:104", after := #[{ on := 22, ground := Ground.data }, { on := 16, ground := Ground.guard }], guard := some (16, false) }) (v := ?v120) rfl (by kernel_rfl) (by kernel_rfl) (by kernel_rfl) (fun _ _ _ h => h) (Or.inl ⟨by rfl, ?h120⟩) (by assumption) ?r120
                  case h120 => (intro w0 hSw; (try dsimp only at hSw); go_simp; try (with_reducible rfl))
                  simp only [Act.put, List.setIfInBounds_toArray, List.set_cons_zero, List.set_cons_succ]
                  refine wpAnyH_ready (rs := [24]) (by kernel_rfl) (by simp) ?_
                  refine AllReadyH.cons rfl (fun K hK => ?_) AllReadyH.nil
                  go_simp
                  go_wp2_with (go_at_call 24; refine (HY.out _ (Below.refl _ wz).drew).mono ?_; rintro e' w6 ⟨sv, L, rfl, b6, r6, hsc⟩; have b60 : Below wz.heap.size wz w6 := (Below.refl _ wz).drew.trans (b6.mono (Nat.le_refl _)); obtain ⟨av, cv, rfl, hsame⟩ := same4 (vc := vc) HZZ.out (HSZ.out.2.below HGB.out) HSZ.out.1 r6 hsc b60; clear r6 hsc b6)
                  refine hK.out _ _ ?_ (fun hHeld => ?_)
                  · exact HSS.out _ (by assumption)
                  clear hK K
                  refine wpAnyH_ready (rs := [25]) (by kernel_rfl) (by simp) ?_
                  refine AllReadyH.cons rfl (fun K hK => ?_) AllReadyH.nil
                  go_simp
                  go_wp2_with (go_at_call 23; refine hsame.mono ?_; rintro e' w7 ⟨rfl, b7⟩; have b70 : Below wz.heap.size wz w7 := b60.trans (b7.below _))
                  refine hK.out _ _ ?_ (fun hHeld => ?_)
                  · exact HSS.out _ (by assumption)
                  clear hK K
                  refine wpAnyH_take (i := 26) (oi := { dst := some 104, op := Op.unOp UnOp.not 4 (Operand.tmp 103), type := 4, pos := "plain.go:104", after := #[{ on := 25, ground := Ground.data }, { on := 16, ground := Ground.guard }], guard := some (16, false) }) (v := ?v121) rfl (by kernel_rfl) (by kernel_rfl) (by kernel_rfl) (fun _ _ _ h => h) (Or.inl ⟨by rfl, ?h121⟩) (by assumption) ?r121
                  case h121 => (intro w0 hSw; (try dsimp only at hSw); go_simp; try (with_reducible rfl))
                  simp only [Act.put, List.setIfInBounds_toArray, List.set_cons_zero, List.set_cons_succ]
                  refine wpAnyH_take (i := 27) (oi := { dst := some 105, op := Op.pick (Operand.tmp 94) (Operand.const (Value.bool true)) (Operand.tmp 104), type := 4, pos := "plain.go:104", after := #[{ on := 16, ground := Ground.data }, { on := 26, ground := Ground.data }, { on := 12, ground := Ground.guard }], guard := some (12, true) }) (v := ?v122) rfl (by kernel_rfl) (by kernel_rfl) (by kernel_rfl) (fun _ _ _ h => h) (Or.inl ⟨by rfl, ?h122⟩) (by assumption) ?r122
                  case h122 => (intro w0 hSw; (try dsimp only at hSw); go_simp; try (with_reducible rfl))
                  simp only [Act.put, List.setIfInBounds_toArray, List.set_cons_zero, List.set_cons_succ]
                  refine wpAnyH_take (i := 28) (oi := { dst := some 106, op := Op.pick (Operand.tmp 90) (Operand.tmp 105) (Operand.const (Value.bool false)), type := 4, pos := "plain.go:104", after := #[{ on := 12, ground := Ground.data }, { on := 27, ground := Ground.data }], guard := none }) (v := ?v123) rfl (by kernel_rfl) (by kernel_rfl) (by kernel_rfl) (fun _ _ _ h => h) (Or.inl ⟨by rfl, ?h123⟩) (by assumption) ?r123
                  case h123 => (intro w0 hSw; (try dsimp only at hSw); go_simp; try (with_reducible rfl))
                  simp only [Act.put, List.setIfInBounds_toArray, List.set_cons_zero, List.set_cons_succ]
                  refine wpAnyH_done (by kernel_rfl) ?_ _
                  clear hsame b60 b7
                  obtain ⟨wy, hwy⟩ : ∃ wy, wy = w7 := ⟨_, rfl⟩
                  rw [← hwy]
                  have bY : Below wz.heap.size wz wy := by rw [hwy]; exact b70
                  have HZ2 := Hid.mk (HZZ.out.below bY)
                  obtain ⟨-, y1, y2, y3, y4⟩ := HSS.out _ bY
                  clear z1 z2 z3 z4 HZZ HQ HSS HMM bY hwy b70
                  have z1 := y1
                  have z2 := y2
                  have z3 := y3
                  have z4 := y4
                  clear y1 y2 y3 y4
                  have HZZ := HZ2
                  clear HZ2
                  go_wp2_with fail
                  have HMM := Hid.mk HA.out.2.2.2.1
                  have HQ := Hid.mk (HZZ.out.asks (HW.out) hW0 s (by have := HMM.out; omega))
                  rw [← HMM.out] at HQ
                  have HSS := Hid.mk (show ∀ w', Below wy.heap.size wy w' → (Below wy.heap.size wy w' ∧ w'.cell? ⟨gb, 1, none⟩ = some (.string s) ∧ w'.cell? ⟨gb, 2, none⟩ = some (.int .i64 (N' : Nat)) ∧ w'.cell? ⟨gw, 1, none⟩ = some (.int .i64 0) ∧ w'.cell? ⟨gw, 2, none⟩ = some (.slice va len vc)) from fun w' b => ⟨b, cell_lat b z1, cell_lat b z2, cell_lat b z3, cell_lat b z4⟩)
                  refine wp_region_held_drew (S := fun w' => Below wy.heap.size wy w' ∧ w'.cell? ⟨gb, 1, none⟩ = some (.string s) ∧ w'.cell? ⟨gb, 2, none⟩ = some (.int .i64 (N' : Nat)) ∧ w'.cell? ⟨gw, 1, none⟩ = some (.int .i64 0) ∧ w'.cell? ⟨gw, 2, none⟩ = some (.slice va len vc)) (by kernel_rfl) ?_ (fun hHeld => ?_)
                  · exact ⟨(Below.refl _ wy).drew, z1, z2, z3, z4⟩
                  refine wpAnyH_take (i := 0) (oi := { dst := some 139, op := Op.move (Operand.tmp 6), type := 24, pos := "plain.go:112", after := #[], guard := none }) (v := ?v124) rfl (by kernel_rfl) (by kernel_rfl) (by kernel_rfl) (fun _ _ _ h => h) (Or.inl ⟨by rfl, ?h124⟩) (by assumption) ?r124
                  case h124 => (intro w0 hSw; (try dsimp only at hSw); go_simp; try (with_reducible rfl))
                  simp only [Act.put, List.setIfInBounds_toArray, List.set_cons_zero, List.set_cons_succ]
                  refine wpAnyH_take (i := 2) (oi := { dst := some 141, op := Op.move (Operand.tmp 7), type := 45, pos := "plain.go:112", after := #[], guard := none }) (v := ?v125) rfl (by kernel_rfl) (by kernel_rfl) (by kernel_rfl) (fun _ _ _ h => h) (Or.inl ⟨by rfl, ?h125⟩) (by assumption) ?r125
                  case h125 => (intro w0 hSw; (try dsimp only at hSw); go_simp; try (with_reducible rfl))
                  simp only [Act.put, List.setIfInBounds_toArray, List.set_cons_zero, List.set_cons_succ]
                  refine wpAnyH_take (i := 3) (oi := { dst := some 142, op := Op.call { callee := Callee.builtin Builtin.len, args := #[Operand.tmp 141], argTypes := #[45] }, type := 3, pos := "plain.go:112", after := #[{ on := 2, ground := Ground.data }], guard := none }) (v := ?v126) rfl (by kernel_rfl) (by kernel_rfl) (by kernel_rfl) (fun _ _ _ h => h) (Or.inl ⟨by rfl, ?h126⟩) (by assumption) ?r126
                  case h126 => (intro w0 hSw; (try dsimp only at hSw); go_simp; try (with_reducible rfl))
                  simp only [Act.put, List.setIfInBounds_toArray, List.set_cons_zero, List.set_cons_succ]
                  refine wpAnyH_ready (rs := [1]) (by kernel_rfl) (by simp) ?_
                  refine AllReadyH.cons rfl (fun K hK => ?_) AllReadyH.nil
                  go_simp
                  go_wp2_with (go_at_call 18; refine (HQ.out.1 _ (Below.refl _ wy).drew).mono ?_; rintro e' w' ⟨rfl, he'⟩; subst he'; have bL := (Below.refl wy.heap.size wy).drew)
                  refine hK.out _ _ ?_ (fun hHeld => ?_)
                  · exact HSS.out _ (by assumption)
                  clear hK K
                  refine wpAnyH_take (i := 4) (oi := { dst := some 143, op := Op.binOp BinOp.neq 3 (Operand.tmp 140) (Operand.tmp 142) 3, type := 4, pos := "plain.go:112", after := #[{ on := 1, ground := Ground.data }, { on := 3, ground := Ground.data }], guard := none }) (v := ?v127) rfl (by kernel_rfl) (by kernel_rfl) (by kernel_rfl) (fun _ _ _ h => h) (Or.inl ⟨by rfl, ?h127⟩) (by assumption) ?r127
                  case h127 => (intro w0 hSw; (try dsimp only at hSw); go_simp; try (with_reducible rfl))
                  simp only [Act.put, List.setIfInBounds_toArray, List.set_cons_zero, List.set_cons_succ]
                  refine wpAnyH_take (i := 5) (oi := { dst := some 144, op := Op.move (Operand.tmp 143), type := 4, pos := "plain.go:112", after := #[{ on := 4, ground := Ground.data }, { on := 1, ground := Ground.chain }], guard := none }) (v := ?v128) rfl (by kernel_rfl) (by kernel_rfl) (by kernel_rfl) (fun _ _ _ h => h) (Or.inl ⟨by rfl, ?h128⟩) (by assumption) ?r128
                  case h128 => (intro w0 hSw; (try dsimp only at hSw); go_simp; try (with_reducible rfl))
                  simp only [Act.put, List.setIfInBounds_toArray, List.set_cons_zero, List.set_cons_succ]
                  refine wpAnyH_take (i := 6) (oi := { dst := some 145, op := Op.move (Operand.tmp 6), type := 24, pos := "plain.go:112", after := #[{ on := 5, ground := Ground.guard }], guard := some (5, false) }) (v := ?v129) rfl (by kernel_rfl) (by kernel_rfl) (by kernel_rfl) (fun _ _ _ h => h) (Or.inl ⟨by rfl, ?h129⟩) (by assumption) ?r129
                  case h129 => (intro w0 hSw; (try dsimp only at hSw); go_simp; try (with_reducible rfl))
                  simp only [Act.put, List.setIfInBounds_toArray, List.set_cons_zero, List.set_cons_succ]
                  refine wpAnyH_take (i := 7) (oi := { dst := some 146, op := Op.fieldAddr 40 (Operand.tmp 9) 1, type := 0, pos := "plain.go:112", after := #[{ on := 5, ground := Ground.guard }], guard := some (5, false) }) (v := ?v130) rfl (by kernel_rfl) (by kernel_rfl) (by kernel_rfl) (fun _ _ _ h => h) (Or.inl ⟨by rfl, ?h130⟩) (by assumption) ?r130
                  case h130 => (intro w0 hSw; (try dsimp only at hSw); go_simp; try (with_reducible rfl))
                  simp only [Act.put, List.setIfInBounds_toArray, List.set_cons_zero, List.set_cons_succ]
                  refine wpAnyH_take (i := 8) (oi := { dst := some 147, op := Op.load 9 (Operand.tmp 146), type := 9, pos := "plain.go:112", after := #[{ on := 7, ground := Ground.data }, { on := 5, ground := Ground.guard }], guard := some (5, false) }) (v := ?v131) rfl (by kernel_rfl) (by kernel_rfl) (by kernel_rfl) (fun _ _ _ h => h) (Or.inl ⟨by rfl, ?h131⟩) (by assumption) ?r131
                  case h131 => (intro w0 hSw; (try dsimp only at hSw); go_simp; try (with_reducible rfl))
                  simp only [Act.put, List.setIfInBounds_toArray, List.set_cons_zero, List.set_cons_succ]
                  refine wpAnyH_take (i := 10) (oi := { dst := some 149, op := Op.move (Operand.tmp 7), type := 45, pos := "plain.go:112", after := #[{ on := 5, ground := Ground.guard }], guard := some (5, false) }) (v := ?v132) rfl (by kernel_rfl) (by kernel_rfl) (by kernel_rfl) (fun _ _ _ h => h) (Or.inl ⟨by rfl, ?h132⟩) (by assumption) ?r132
                  case h132 => (intro w0 hSw; (try dsimp only at hSw); go_simp; try (with_reducible rfl))
                  simp only [Act.put, List.setIfInBounds_toArray, List.set_cons_zero, List.set_cons_succ]
                  refine wpAnyH_take (i := 11) (oi := { dst := some 150, op := Op.fieldAddr 40 (Operand.tmp 9) 1, type := 0, pos := "plain.go:112", after := #[{ on := 5, ground := Ground.guard }], guard := some (5, false) }) (v := ?v133) rfl (by kernel_rfl) (by kernel_rfl) (by kernel_rfl) (fun _ _ _ h => h) (Or.inl ⟨by rfl, ?h133⟩) (by assumption) ?r133
                  case h133 => (intro w0 hSw; (try dsimp only at hSw); go_simp; try (with_reducible rfl))
                  simp only [Act.put, List.setIfInBounds_toArray, List.set_cons_zero, List.set_cons_succ]
                  refine wpAnyH_take (i := 12) (oi := { dst := some 151, op := Op.load 9 (Operand.tmp 150), type := 9, pos := "plain.go:112", after := #[{ on := 11, ground := Ground.data }, { on := 5, ground := Ground.guard }], guard := some (5, false) }) (v := ?v134) rfl (by kernel_rfl) (by kernel_rfl) (by kernel_rfl) (fun _ _ _ h => h) (Or.inl ⟨by rfl, ?h134⟩) (by assumption) ?r134
                  case h134 => (intro w0 hSw; (try dsimp only at hSw); go_simp; try (with_reducible rfl))
                  simp only [Act.put, List.setIfInBounds_toArray, List.set_cons_zero, List.set_cons_succ]
                  refine wpAnyH_ready (rs := [9]) (by kernel_rfl) (by simp) ?_
                  refine AllReadyH.cons rfl (fun K hK => ?_) AllReadyH.nil
                  go_simp
                  go_wp2_with (go_at_call 15; refine (HQ.out.2.1 _ (by assumption)).mono ?_; rintro e' wh ⟨bh, rfl, b5, hbh⟩)
                  refine hK.out _ _ ?_ (fun hHeld => ?_)
                  · exact HSS.out _ (by assumption)
                  clear hK K
                  clear bL
                  refine wpAnyH_ready (rs := [13]) (by kernel_rfl) (by simp) ?_
                  refine AllReadyH.cons rfl (fun K hK => ?_) AllReadyH.nil
                  go_simp
                  go_wp2_with (go_at_call 26; refine (HQ.out.2.2 _ (by assumption)).mono ?_; rintro e' wo ⟨bo, rfl, b6, hbo⟩; obtain rfl : bh = bo := bool_iff hbh hbo)
                  refine hK.out _ _ ?_ (fun hHeld => ?_)
                  · exact HSS.out _ (by assumption)
                  clear hK K
                  clear b5
                  refine wpAnyH_take (i := 14) (oi := { dst := some 153, op := Op.binOp BinOp.neq 4 (Operand.tmp 148) (Operand.tmp 152) 4, type := 4, pos := "plain.go:112", after := #[{ on := 9, ground := Ground.data }, { on := 13, ground := Ground.data }, { on := 5, ground := Ground.guard }], guard := some (5, false) }) (v := ?v135) rfl (by kernel_rfl) (by kernel_rfl) (by kernel_rfl) (fun _ _ _ h => h) (Or.inl ⟨by rfl, ?h135⟩) (by assumption) ?r135
                  case h135 => (intro w0 hSw; (try dsimp only at hSw); go_simp; try (with_reducible rfl))
                  simp only [Act.put, List.setIfInBounds_toArray, List.set_cons_zero, List.set_cons_succ]
                  refine wpAnyH_take (i := 15) (oi := { dst := some 154, op := Op.pick (Operand.tmp 144) (Operand.const (Value.bool true)) (Operand.tmp 153), type := 4, pos := "plain.go:112", after := #[{ on := 5, ground := Ground.data }, { on := 14, ground := Ground.data }], guard := none }) (v := ?v136) rfl (by kernel_rfl) (by kernel_rfl) (by kernel_rfl) (fun _ _ _ h => h) (Or.inl ⟨by rfl, ?h136⟩) (by assumption) ?r136
                  case h136 => (intro w0 hSw; (try dsimp only at hSw); go_simp; try (with_reducible rfl))
                  simp only [Act.put, List.setIfInBounds_toArray, List.set_cons_zero, List.set_cons_succ]
                  refine wpAnyH_done (by kernel_rfl) ?_ _
                  go_wp2_with fail
                  exact ⟨⟨i + 1, T', bs', ms', x', nxtA 4 s A, by push_cast; rfl, hlt, Hid.mk (by have := HZZ.out.below (by assumption); rw [← HMM.out] at this; exact this)⟩, by simp only [intOf]; omega⟩
              · as_aux_lemma =>
                  have hf1 : (((s.size : Nat) : Int) == (n : Int)) = true := by simpa using (by omega : ((s.size : Nat) : Int) = (n : Int))
                  have n0 : (0 : Int) ≤ N := hN0
                  have n1 : ¬ N ≤ (w8 : Int) := hN1
                  have n2 : (w8 : Int) < N := by omega
                  have n3 : decide (N ≤ (w8 : Int)) = false := by simp; omega
                  have n4 : decide ((w8 : Int) < N) = true := by simp; omega
                  have n5 : decide ((0 : Int) ≤ N) = true := by simp; omega
                  clear hs hN0 hN1
                  go_wp2_with fail
                  obtain ⟨wz, hwz⟩ : ∃ wz, wz = w4.alloc (.cells #[.bool y, .int .i64 e, .slice va len vc, .int .i64 q1, .int .i64 q2, .int .i64 q3, .int .i64 q4] 42) := ⟨_, rfl⟩
                  rw [← hwz]
                  rw [← hwz] at HGB e0 e1 e2
                  have z3 : wz.cell? ⟨w4.heap.size, 1, none⟩ = some (.int .i64 e) := by rw [hwz]; go_simp
                  have z4 : wz.cell? ⟨w4.heap.size, 2, none⟩ = some (.slice va len vc) := by rw [hwz]; go_simp
                  obtain ⟨gw, hgw⟩ : ∃ gw, gw = w4.heap.size := ⟨_, rfl⟩
                  rw [← hgw] at z3 z4 ⊢
                  have z1 := e1
                  have z2 := e2
                  have HZZ := Hid.mk (HZ.out.below HGB.out)
                  clear hwz hgw e0 e1 e2 d0 d1 d2
                  have HMM := Hid.mk HA.out.2.2.2.1
                  have HQ := Hid.mk (HZZ.out.asks (HW.out) hW0 s (by have := HMM.out; omega))
                  rw [← HMM.out] at HQ
                  have HSS := Hid.mk (show ∀ w', Below wz.heap.size wz w' → (Below wz.heap.size wz w' ∧ w'.cell? ⟨gb, 1, none⟩ = some (.string s) ∧ w'.cell? ⟨gb, 2, none⟩ = some (.int .i64 N) ∧ w'.cell? ⟨gw, 1, none⟩ = some (.int .i64 e) ∧ w'.cell? ⟨gw, 2, none⟩ = some (.slice va len vc)) from fun w' b => ⟨b, cell_lat b z1, cell_lat b z2, cell_lat b z3, cell_lat b z4⟩)
                  refine wp_region_held_drew (S := fun w' => Below wz.heap.size wz w' ∧ w'.cell? ⟨gb, 1, none⟩ = some (.string s) ∧ w'.cell? ⟨gb, 2, none⟩ = some (.int .i64 N) ∧ w'.cell? ⟨gw, 1, none⟩ = some (.int .i64 e) ∧ w'.cell? ⟨gw, 2, none⟩ = some (.slice va len vc)) (by kernel_rfl) ?_ (fun hHeld => ?_)
                  · exact ⟨(Below.refl _ wz).drew, z1, z2, z3, z4⟩
                  refine wpAnyH_take (i := 0) (oi := { dst := some 78, op := Op.move (Operand.tmp 12), type := 4, pos := "plain.go:104", after := #[], guard := none }) (v := ?v70) rfl (by kernel_rfl) (by kernel_rfl) (by kernel_rfl) (fun _ _ _ h => h) (Or.inl ⟨by rfl, ?h70⟩) (by assumption) ?r70
                  case h70 => (intro w0 hSw; (try dsimp only at hSw); go_simp; try (with_reducible rfl))
                  simp only [Act.put, List.setIfInBounds_toArray, List.set_cons_zero, List.set_cons_succ]
                  refine wpAnyH_take (i := 1) (oi := { dst := some 79, op := Op.move (Operand.tmp 78), type := 4, pos := "plain.go:104", after := #[{ on := 0, ground := Ground.data }], guard := none }) (v := ?v71) rfl (by kernel_rfl) (by kernel_rfl) (by kernel_rfl) (fun _ _ _ h => h) (Or.inl ⟨by rfl, ?h71⟩) (by assumption) ?r71
                  case h71 => (intro w0 hSw; (try dsimp only at hSw); go_simp; try (with_reducible rfl))
                  simp only [Act.put, List.setIfInBounds_toArray, List.set_cons_zero, List.set_cons_succ]
                  refine wpAnyH_take (i := 2) (oi := { dst := some 80, op := Op.fieldAddr 40 (Operand.tmp 9) 2, type := 0, pos := "plain.go:104", after := #[{ on := 1, ground := Ground.guard }], guard := some (1, true) }) (v := ?v72) rfl (by kernel_rfl) (by kernel_rfl) (by kernel_rfl) (fun _ _ _ h => h) (Or.inl ⟨by rfl, ?h72⟩) (by assumption) ?r72
                  case h72 => (intro w0 hSw; (try dsimp only at hSw); go_simp; try (with_reducible rfl))
                  simp only [Act.put, List.setIfInBounds_toArray, List.set_cons_zero, List.set_cons_succ]
                  refine wpAnyH_take (i := 3) (oi := { dst := some 81, op := Op.load 3 (Operand.tmp 80), type := 3, pos := "plain.go:104", after := #[{ on := 2, ground := Ground.data }, { on := 1, ground := Ground.guard }], guard := some (1, true) }) (v := ?v73) rfl (by kernel_rfl) (by kernel_rfl) (by kernel_rfl) (fun _ _ _ h => h) (Or.inl ⟨by rfl, ?h73⟩) (by assumption) ?r73
                  case h73 => (intro w0 hSw; (try dsimp only at hSw); go_simp; try (with_reducible rfl))
                  simp only [Act.put, List.setIfInBounds_toArray, List.set_cons_zero, List.set_cons_succ]
                  refine wpAnyH_take (i := 4) (oi := { dst := some 82, op := Op.binOp BinOp.geq 3 (Operand.tmp 81) (Operand.const (Value.int IntKind.i64 0)) 3, type := 4, pos := "plain.go:104", after := #[{ on := 3, ground := Ground.data }, { on := 1, ground := Ground.guard }], guard := some (1, true) }) (v := ?v74) rfl (by kernel_rfl) (by kernel_rfl) (by kernel_rfl) (fun _ _ _ h => h) (Or.inl ⟨by rfl, ?h74⟩) (by assumption) ?r74
                  case h74 => (intro w0 hSw; (try dsimp only at hSw); go_simp; try (with_reducible rfl))
                  simp only [Act.put, List.setIfInBounds_toArray, List.set_cons_zero, List.set_cons_succ]
                  refine wpAnyH_take (i := 5) (oi := { dst := some 83, op := Op.pick (Operand.tmp 79) (Operand.tmp 82) (Operand.const (Value.bool false)), type := 4, pos := "plain.go:104", after := #[{ on := 1, ground := Ground.data }, { on := 4, ground := Ground.data }], guard := none }) (v := ?v75) rfl (by kernel_rfl) (by kernel_rfl) (by kernel_rfl) (fun _ _ _ h => h) (Or.inl ⟨by rfl, ?h75⟩) (by assumption) ?r75
                  case h75 => (intro w0 hSw; (try dsimp only at hSw); go_simp; try (with_reducible rfl))
                  simp only [Act.put, List.setIfInBounds_toArray, List.set_cons_zero, List.set_cons_succ]
                  refine wpAnyH_take (i := 6) (oi := { dst := some 84, op := Op.move (Operand.tmp 83), type := 4, pos := "plain.go:104", after := #[{ on := 5, ground := Ground.data }, { on := 1, ground := Ground.chain }], guard := none }) (v := ?v76) rfl (by kernel_rfl) (by kernel_rfl) (by kernel_rfl) (fun _ _ _ h => h) (Or.inl ⟨by rfl, ?h76⟩) (by assumption) ?r76
                  case h76 => (intro w0 hSw; (try dsimp only at hSw); go_simp; try (with_reducible rfl))
                  simp only [Act.put, List.setIfInBounds_toArray, List.set_cons_zero, List.set_cons_succ]
                  refine wpAnyH_take (i := 7) (oi := { dst := some 85, op := Op.fieldAddr 40 (Operand.tmp 9) 2, type := 0, pos := "plain.go:104", after := #[{ on := 6, ground := Ground.guard }], guard := some (6, true) }) (v := ?v77) rfl (by kernel_rfl) (by kernel_rfl) (by kernel_rfl) (fun _ _ _ h => h) (Or.inl ⟨by rfl, ?h77⟩) (by assumption) ?r77
                  case h77 => (intro w0 hSw; (try dsimp only at hSw); go_simp; try (with_reducible rfl))
                  simp only [Act.put, List.setIfInBounds_toArray, List.set_cons_zero, List.set_cons_succ]
                  refine wpAnyH_take (i := 8) (oi := { dst := some 86, op := Op.load 3 (Operand.tmp 85), type := 3, pos := "plain.go:104", after := #[{ on := 7, ground := Ground.data }, { on := 6, ground := Ground.guard }], guard := some (6, true) }) (v := ?v78) rfl (by kernel_rfl) (by kernel_rfl) (by kernel_rfl) (fun _ _ _ h => h) (Or.inl ⟨by rfl, ?h78⟩) (by assumption) ?r78
                  case h78 => (intro w0 hSw; (try dsimp only at hSw); go_simp; try (with_reducible rfl))
                  simp only [Act.put, List.setIfInBounds_toArray, List.set_cons_zero, List.set_cons_succ]
                  refine wpAnyH_take (i := 9) (oi := { dst := some 87, op := Op.move (Operand.tmp 0), type := 3, pos := "plain.go:104", after := #[{ on := 6, ground := Ground.guard }], guard := some (6, true) }) (v := ?v79) rfl (by kernel_rfl) (by kernel_rfl) (by kernel_rfl) (fun _ _ _ h => h) (Or.inl ⟨by rfl, ?h79⟩) (by assumption) ?r79
                  case h79 => (intro w0 hSw; (try dsimp only at hSw); go_simp; try (with_reducible rfl))
                  simp only [Act.put, List.setIfInBounds_toArray, List.set_cons_zero, List.set_cons_succ]
                  refine wpAnyH_take (i := 10) (oi := { dst := some 88, op := Op.binOp BinOp.leq 3 (Operand.tmp 86) (Operand.tmp 87) 3, type := 4, pos := "plain.go:104", after := #[{ on := 8, ground := Ground.data }, { on := 9, ground := Ground.data }, { on := 6, ground := Ground.guard }], guard := some (6, true) }) (v := ?v80) rfl (by kernel_rfl) (by kernel_rfl) (by kernel_rfl) (fun _ _ _ h => h) (Or.inl ⟨by rfl, ?h80⟩) (by assumption) ?r80
                  case h80 => (intro w0 hSw; (try dsimp only at hSw); go_simp; try (with_reducible rfl))
                  simp only [Act.put, List.setIfInBounds_toArray, List.set_cons_zero, List.set_cons_succ]
                  refine wpAnyH_take (i := 11) (oi := { dst := some 89, op := Op.pick (Operand.tmp 84) (Operand.tmp 88) (Operand.const (Value.bool false)), type := 4, pos := "plain.go:104", after := #[{ on := 6, ground := Ground.data }, { on := 10, ground := Ground.data }], guard := none }) (v := ?v81) rfl (by kernel_rfl) (by kernel_rfl) (by kernel_rfl) (fun _ _ _ h => h) (Or.inl ⟨by rfl, ?h81⟩) (by assumption) ?r81
                  case h81 => (intro w0 hSw; (try dsimp only at hSw); go_simp; try (with_reducible rfl))
                  simp only [Act.put, List.setIfInBounds_toArray, List.set_cons_zero, List.set_cons_succ]
                  refine wpAnyH_take (i := 12) (oi := { dst := some 90, op := Op.move (Operand.tmp 89), type := 4, pos := "plain.go:104", after := #[{ on := 11, ground := Ground.data }, { on := 6, ground := Ground.chain }], guard := none }) (v := ?v82) rfl (by kernel_rfl) (by kernel_rfl) (by kernel_rfl) (fun _ _ _ h => h) (Or.inl ⟨by rfl, ?h82⟩) (by assumption) ?r82
                  case h82 => (intro w0 hSw; (try dsimp only at hSw); go_simp; try (with_reducible rfl))
                  simp only [Act.put, List.setIfInBounds_toArray, List.set_cons_zero, List.set_cons_succ]
                  refine wpAnyH_take (i := 13) (oi := { dst := some 91, op := Op.fieldAddr 42 (Operand.tmp 11) 1, type := 0, pos := "plain.go:104", after := #[{ on := 12, ground := Ground.guard }], guard := some (12, true) }) rfl (by kernel_rfl) (by kernel_rfl) (by kernel_rfl) (fun _ _ _ h => h) (Or.inr ⟨by rfl, rfl⟩) (by assumption) ?_
                  simp only [Act.put, List.setIfInBounds_toArray, List.set_cons_zero, List.set_cons_succ]
                  refine wpAnyH_take (i := 14) (oi := { dst := some 92, op := Op.load 3 (Operand.tmp 91), type := 3, pos := "plain.go:104", after := #[{ on := 13, ground := Ground.data }, { on := 12, ground := Ground.guard }], guard := some (12, true) }) rfl (by kernel_rfl) (by kernel_rfl) (by kernel_rfl) (fun _ _ _ h => h) (Or.inr ⟨by rfl, rfl⟩) (by assumption) ?_
                  simp only [Act.put, List.setIfInBounds_toArray, List.set_cons_zero, List.set_cons_succ]
                  refine wpAnyH_take (i := 15) (oi := { dst := some 93, op := Op.binOp BinOp.neq 3 (Operand.tmp 92) (Operand.const (Value.int IntKind.i64 0)) 3, type := 4, pos := "plain.go:104", after := #[{ on := 14, ground := Ground.data }, { on := 12, ground := Ground.guard }], guard := some (12, true) }) rfl (by kernel_rfl) (by kernel_rfl) (by kernel_rfl) (fun _ _ _ h => h) (Or.inr ⟨by rfl, rfl⟩) (by assumption) ?_
                  simp only [Act.put, List.setIfInBounds_toArray, List.set_cons_zero, List.set_cons_succ]
                  refine wpAnyH_take (i := 16) (oi := { dst := some 94, op := Op.move (Operand.tmp 93), type := 4, pos := "plain.go:104", after := #[{ on := 15, ground := Ground.data }, { on := 12, ground := Ground.chain }, { on := 12, ground := Ground.guard }], guard := some (12, true) }) rfl (by kernel_rfl) (by kernel_rfl) (by kernel_rfl) (fun _ _ _ h => h) (Or.inr ⟨by rfl, rfl⟩) (by assumption) ?_
                  simp only [Act.put, List.setIfInBounds_toArray, List.set_cons_zero, List.set_cons_succ]
                  refine wpAnyH_take (i := 17) (oi := { dst := some 95, op := Op.fieldAddr 42 (Operand.tmp 11) 2, type := 0, pos := "plain.go:104", after := #[{ on := 16, ground := Ground.guard }], guard := some (16, false) }) rfl (by kernel_rfl) (by kernel_rfl) (by kernel_rfl) (fun _ _ _ h => h) (Or.inr ⟨by rfl, rfl⟩) (by assumption) ?_
                  simp only [Act.put, List.setIfInBounds_toArray, List.set_cons_zero, List.set_cons_succ]
                  refine wpAnyH_take (i := 18) (oi := { dst := some 96, op := Op.load 32 (Operand.tmp 95), type := 32, pos := "plain.go:104", after := #[{ on := 17, ground := Ground.data }, { on := 16, ground := Ground.guard }], guard := some (16, false) }) rfl (by kernel_rfl) (by kernel_rfl) (by kernel_rfl) (fun _ _ _ h => h) (Or.inr ⟨by rfl, rfl⟩) (by assumption) ?_
                  simp only [Act.put, List.setIfInBounds_toArray, List.set_cons_zero, List.set_cons_succ]
                  refine wpAnyH_take (i := 19) (oi := { dst := some 97, op := Op.move (Operand.tmp 7), type := 45, pos := "plain.go:104", after := #[{ on := 16, ground := Ground.guard }], guard := some (16, false) }) rfl (by kernel_rfl) (by kernel_rfl) (by kernel_rfl) (fun _ _ _ h => h) (Or.inr ⟨by rfl, rfl⟩) (by assumption) ?_
                  simp only [Act.put, List.setIfInBounds_toArray, List.set_cons_zero, List.set_cons_succ]
                  refine wpAnyH_take (i := 20) (oi := { dst := some 98, op := Op.fieldAddr 40 (Operand.tmp 9) 1, type := 0, pos := "plain.go:104", after := #[{ on := 16, ground := Ground.guard }], guard := some (16, false) }) rfl (by kernel_rfl) (by kernel_rfl) (by kernel_rfl) (fun _ _ _ h => h) (Or.inr ⟨by rfl, rfl⟩) (by assumption) ?_
                  simp only [Act.put, List.setIfInBounds_toArray, List.set_cons_zero, List.set_cons_succ]
                  refine wpAnyH_take (i := 21) (oi := { dst := some 99, op := Op.load 9 (Operand.tmp 98), type := 9, pos := "plain.go:104", after := #[{ on := 20, ground := Ground.data }, { on := 16, ground := Ground.guard }], guard := some (16, false) }) rfl (by kernel_rfl) (by kernel_rfl) (by kernel_rfl) (fun _ _ _ h => h) (Or.inr ⟨by rfl, rfl⟩) (by assumption) ?_
                  simp only [Act.put, List.setIfInBounds_toArray, List.set_cons_zero, List.set_cons_succ]
                  refine wpAnyH_take (i := 22) (oi := { dst := some 100, op := Op.fieldAddr 40 (Operand.tmp 9) 2, type := 0, pos := "plain.go:104", after := #[{ on := 16, ground := Ground.guard }], guard := some (16, false) }) rfl (by kernel_rfl) (by kernel_rfl) (by kernel_rfl) (fun _ _ _ h => h) (Or.inr ⟨by rfl, rfl⟩) (by assumption) ?_
                  simp only [Act.put, List.setIfInBounds_toArray, List.set_cons_zero, List.set_cons_succ]
                  refine wpAnyH_take (i := 23) (oi := { dst := some 101, op := Op.load 3 (Operand.tmp 100), type := 3, pos := "plain.go:104", after := #[{ on := 22, ground := Ground.data }, { on := 16, ground := Ground.guard }], guard := some (16, false) }) rfl (by kernel_rfl) (by kernel_rfl) (by kernel_rfl) (fun _ _ _ h => h) (Or.inr ⟨by rfl, rfl⟩) (by assumption) ?_
                  simp only [Act.put, List.setIfInBounds_toArray, List.set_cons_zero, List.set_cons_succ]
                  refine wpAnyH_take (i := 24) (oi := { dst := some 102, op := Op.call { callee := Callee.value (Operand.func 24), args := #[Operand.tmp 97, Operand.tmp 99, Operand.tmp 101], argTypes := #[45, 9, 3] }, type := 32, pos := "plain.go:104", after := #[{ on := 19, ground := Ground.data }, { on := 21, ground := Ground.data }, { on := 23, ground := Ground.data }, { on := 16, ground := Ground.chain }, { on := 16, ground := Ground.guard }], guard := some (16, false) }) rfl (by kernel_rfl) (by kernel_rfl) (by kernel_rfl) (fun _ _ _ h => h) (Or.inr ⟨by rfl, rfl⟩) (by assumption) ?_
                  simp only [Act.put, List.setIfInBounds_toArray, List.set_cons_zero, List.set_cons_succ]
                  refine wpAnyH_take (i := 25) (oi := { dst := some 103, op := Op.call { callee := Callee.value (Operand.func 23), args := #[Operand.tmp 96, Operand.tmp 102], argTypes := #[32, 32] }, type := 4, pos := "plain.go:104", after := #[{ on := 18, ground := Ground.data }, { on := 24, ground := Ground.data }, { on := 24, ground := Ground.chain }, { on := 16, ground := Ground.guard }], guard := some (16, false) }) rfl (by kernel_rfl) (by kernel_rfl) (by kernel_rfl) (fun _ _ _ h => h) (Or.inr ⟨by rfl, rfl⟩) (by assumption) ?_
                  simp only [Act.put, List.setIfInBounds_toArray, List.set_cons_zero, List.set_cons_succ]
                  refine wpAnyH_take (i := 26) (oi := { dst := some 104, op := Op.unOp UnOp.not 4 (Operand.tmp 103), type := 4, pos := "plain.go:104", after := #[{ on := 25, ground := Ground.data }, { on := 16, ground := Ground.guard }], guard := some (16, false) }) rfl (by kernel_rfl) (by kernel_rfl) (by kernel_rfl) (fun _ _ _ h => h) (Or.inr ⟨by rfl, rfl⟩) (by assumption) ?_
                  simp only [Act.put, List.setIfInBounds_toArray, List.set_cons_zero, List.set_cons_succ]
                  refine wpAnyH_take (i := 27) (oi := { dst := some 105, op := Op.pick (Operand.tmp 94) (Operand.const (Value.bool true)) (Operand.tmp 104), type := 4, pos := "plain.go:104", after := #[{ on := 16, ground := Ground.data }, { on := 26, ground := Ground.data }, { on := 12, ground := Ground.guard }], guard := some (12, true) }) rfl (by kernel_rfl) (by kernel_rfl) (by kernel_rfl) (fun _ _ _ h => h) (Or.inr ⟨by rfl, rfl⟩) (by assumption) ?_
                  simp only [Act.put, List.setIfInBounds_toArray, List.set_cons_zero, List.set_cons_succ]
                  refine wpAnyH_take (i := 28) (oi := { dst := some 106, op := Op.pick (Operand.tmp 90) (Operand.tmp 105) (Operand.const (Value.bool false)), type := 4, pos := "plain.go:104", after := #[{ on := 12, ground := Ground.data }, { on := 27, ground := Ground.data }], guard := none }) (v := ?v83) rfl (by kernel_rfl) (by kernel_rfl) (by kernel_rfl) (fun _ _ _ h => h) (Or.inl ⟨by rfl, ?h83⟩) (by assumption) ?r83
                  case h83 => (intro w0 hSw; (try dsimp only at hSw); go_simp; try (with_reducible rfl))
                  simp only [Act.put, List.setIfInBounds_toArray, List.set_cons_zero, List.set_cons_succ]
                  refine wpAnyH_done (by kernel_rfl) ?_ _
                  obtain ⟨wy, hwy⟩ : ∃ wy, wy = wz.drew := ⟨_, rfl⟩
                  rw [← hwy]
                  have bY : Below wz.heap.size wz wy := by rw [hwy]; exact (Below.refl _ wz).drew
                  have HZ2 := Hid.mk (HZZ.out.below bY)
                  obtain ⟨-, y1, y2, y3, y4⟩ := HSS.out _ bY
                  clear z1 z2 z3 z4 HZZ HQ HSS HMM bY hwy 
                  have z1 := y1
                  have z2 := y2
                  have z3 := y3
                  have z4 := y4
                  clear y1 y2 y3 y4
                  have HZZ := HZ2
                  clear HZ2
                  go_wp2_with fail
                  have HMM := Hid.mk HA.out.2.2.2.1
                  have HQ := Hid.mk (HZZ.out.asks (HW.out) hW0 s (by have := HMM.out; omega))
                  rw [← HMM.out] at HQ
                  have HSS := Hid.mk (show ∀ w', Below wy.heap.size wy w' → (Below wy.heap.size wy w' ∧ w'.cell? ⟨gb, 1, none⟩ = some (.string s) ∧ w'.cell? ⟨gb, 2, none⟩ = some (.int .i64 N) ∧ w'.cell? ⟨gw, 1, none⟩ = some (.int .i64 e) ∧ w'.cell? ⟨gw, 2, none⟩ = some (.slice va len vc)) from fun w' b => ⟨b, cell_lat b z1, cell_lat b z2, cell_lat b z3, cell_lat b z4⟩)
                  refine wp_region_held_drew (S := fun w' => Below wy.heap.size wy w' ∧ w'.cell? ⟨gb, 1, none⟩ = some (.string s) ∧ w'.cell? ⟨gb, 2, none⟩ = some (.int .i64 N) ∧ w'.cell? ⟨gw, 1, none⟩ = some (.int .i64 e) ∧ w'.cell? ⟨gw, 2, none⟩ = some (.slice va len vc)) (by kernel_rfl) ?_ (fun hHeld => ?_)
                  · exact ⟨(Below.refl _ wy).drew, z1, z2, z3, z4⟩
                  refine wpAnyH_take (i := 0) (oi := { dst := some 139, op := Op.move (Operand.tmp 6), type := 24, pos := "plain.go:112", after := #[], guard := none }) (v := ?v84) rfl (by kernel_rfl) (by kernel_rfl) (by kernel_rfl) (fun _ _ _ h => h) (Or.inl ⟨by rfl, ?h84⟩) (by assumption) ?r84
                  case h84 => (intro w0 hSw; (try dsimp only at hSw); go_simp; try (with_reducible rfl))
                  simp only [Act.put, List.setIfInBounds_toArray, List.set_cons_zero, List.set_cons_succ]
                  refine wpAnyH_take (i := 2) (oi := { dst := some 141, op := Op.move (Operand.tmp 7), type := 45, pos := "plain.go:112", after := #[], guard := none }) (v := ?v85) rfl (by kernel_rfl) (by kernel_rfl) (by kernel_rfl) (fun _ _ _ h => h) (Or.inl ⟨by rfl, ?h85⟩) (by assumption) ?r85
                  case h85 => (intro w0 hSw; (try dsimp only at hSw); go_simp; try (with_reducible rfl))
                  simp only [Act.put, List.setIfInBounds_toArray, List.set_cons_zero, List.set_cons_succ]
                  refine wpAnyH_take (i := 3) (oi := { dst := some 142, op := Op.call { callee := Callee.builtin Builtin.len, args := #[Operand.tmp 141], argTypes := #[45] }, type := 3, pos := "plain.go:112", after := #[{ on := 2, ground := Ground.data }], guard := none }) (v := ?v86) rfl (by kernel_rfl) (by kernel_rfl) (by kernel_rfl) (fun _ _ _ h => h) (Or.inl ⟨by rfl, ?h86⟩) (by assumption) ?r86
                  case h86 => (intro w0 hSw; (try dsimp only at hSw); go_simp; try (with_reducible rfl))
                  simp only [Act.put, List.setIfInBounds_toArray, List.set_cons_zero, List.set_cons_succ]
                  refine wpAnyH_ready (rs := [1]) (by kernel_rfl) (by simp) ?_
                  refine AllReadyH.cons rfl (fun K hK => ?_) AllReadyH.nil
                  go_simp
                  go_wp2_with (go_at_call 18; refine (HQ.out.1 _ (Below.refl _ wy).drew).mono ?_; rintro e' w' ⟨rfl, he'⟩; subst he'; have bL := (Below.refl wy.heap.size wy).drew)
                  refine hK.out _ _ ?_ (fun hHeld => ?_)
                  · exact HSS.out _ (by assumption)
                  clear hK K
                  refine wpAnyH_take (i := 4) (oi := { dst := some 143, op := Op.binOp BinOp.neq 3 (Operand.tmp 140) (Operand.tmp 142) 3, type := 4, pos := "plain.go:112", after := #[{ on := 1, ground := Ground.data }, { on := 3, ground := Ground.data }], guard := none }) (v := ?v87) rfl (by kernel_rfl) (by kernel_rfl) (by kernel_rfl) (fun _ _ _ h => h) (Or.inl ⟨by rfl, ?h87⟩) (by assumption) ?r87
                  case h87 => (intro w0 hSw; (try dsimp only at hSw); go_simp; try (with_reducible rfl))
                  simp only [Act.put, List.setIfInBounds_toArray, List.set_cons_zero, List.set_cons_succ]
                  refine wpAnyH_take (i := 5) (oi := { dst := some 144, op := Op.move (Operand.tmp 143), type := 4, pos := "plain.go:112", after := #[{ on := 4, ground := Ground.data }, { on := 1, ground := Ground.chain }], guard := none }) (v := ?v88) rfl (by kernel_rfl) (by kernel_rfl) (by kernel_rfl) (fun _ _ _ h => h) (Or.inl ⟨by rfl, ?h88⟩) (by assumption) ?r88
                  case h88 => (intro w0 hSw; (try dsimp only at hSw); go_simp; try (with_reducible rfl))
                  simp only [Act.put, List.setIfInBounds_toArray, List.set_cons_zero, List.set_cons_succ]
                  refine wpAnyH_take (i := 6) (oi := { dst := some 145, op := Op.move (Operand.tmp 6), type := 24, pos := "plain.go:112", after := #[{ on := 5, ground := Ground.guard }], guard := some (5, false) }) (v := ?v89) rfl (by kernel_rfl) (by kernel_rfl) (by kernel_rfl) (fun _ _ _ h => h) (Or.inl ⟨by rfl, ?h89⟩) (by assumption) ?r89
                  case h89 => (intro w0 hSw; (try dsimp only at hSw); go_simp; try (with_reducible rfl))
                  simp only [Act.put, List.setIfInBounds_toArray, List.set_cons_zero, List.set_cons_succ]
                  refine wpAnyH_take (i := 7) (oi := { dst := some 146, op := Op.fieldAddr 40 (Operand.tmp 9) 1, type := 0, pos := "plain.go:112", after := #[{ on := 5, ground := Ground.guard }], guard := some (5, false) }) (v := ?v90) rfl (by kernel_rfl) (by kernel_rfl) (by kernel_rfl) (fun _ _ _ h => h) (Or.inl ⟨by rfl, ?h90⟩) (by assumption) ?r90
                  case h90 => (intro w0 hSw; (try dsimp only at hSw); go_simp; try (with_reducible rfl))
                  simp only [Act.put, List.setIfInBounds_toArray, List.set_cons_zero, List.set_cons_succ]
                  refine wpAnyH_take (i := 8) (oi := { dst := some 147, op := Op.load 9 (Operand.tmp 146), type := 9, pos := "plain.go:112", after := #[{ on := 7, ground := Ground.data }, { on := 5, ground := Ground.guard }], guard := some (5, false) }) (v := ?v91) rfl (by kernel_rfl) (by kernel_rfl) (by kernel_rfl) (fun _ _ _ h => h) (Or.inl ⟨by rfl, ?h91⟩) (by assumption) ?r91
                  case h91 => (intro w0 hSw; (try dsimp only at hSw); go_simp; try (with_reducible rfl))
                  simp only [Act.put, List.setIfInBounds_toArray, List.set_cons_zero, List.set_cons_succ]
                  refine wpAnyH_take (i := 10) (oi := { dst := some 149, op := Op.move (Operand.tmp 7), type := 45, pos := "plain.go:112", after := #[{ on := 5, ground := Ground.guard }], guard := some (5, false) }) (v := ?v92) rfl (by kernel_rfl) (by kernel_rfl) (by kernel_rfl) (fun _ _ _ h => h) (Or.inl ⟨by rfl, ?h92⟩) (by assumption) ?r92
                  case h92 => (intro w0 hSw; (try dsimp only at hSw); go_simp; try (with_reducible rfl))
                  simp only [Act.put, List.setIfInBounds_toArray, List.set_cons_zero, List.set_cons_succ]
                  refine wpAnyH_take (i := 11) (oi := { dst := some 150, op := Op.fieldAddr 40 (Operand.tmp 9) 1, type := 0, pos := "plain.go:112", after := #[{ on := 5, ground := Ground.guard }], guard := some (5, false) }) (v := ?v93) rfl (by kernel_rfl) (by kernel_rfl) (by kernel_rfl) (fun _ _ _ h => h) (Or.inl ⟨by rfl, ?h93⟩) (by assumption) ?r93
                  case h93 => (intro w0 hSw; (try dsimp only at hSw); go_simp; try (with_reducible rfl))
                  simp only [Act.put, List.setIfInBounds_toArray, List.set_cons_zero, List.set_cons_succ]
                  refine wpAnyH_take (i := 12) (oi := { dst := some 151, op := Op.load 9 (Operand.tmp 150), type := 9, pos := "plain.go:112", after := #[{ on := 11, ground := Ground.data }, { on := 5, ground := Ground.guard }], guard := some (5, false) }) (v := ?v94) rfl (by kernel_rfl) (by kernel_rfl) (by kernel_rfl) (fun _ _ _ h => h) (Or.inl ⟨by rfl, ?h94⟩) (by assumption) ?r94
                  case h94 => (intro w0 hSw; (try dsimp only at hSw); go_simp; try (with_reducible rfl))
                  simp only [Act.put, List.setIfInBounds_toArray, List.set_cons_zero, List.set_cons_succ]
                  refine wpAnyH_ready (rs := [9]) (by kernel_rfl) (by simp) ?_
                  refine AllReadyH.cons rfl (fun K hK => ?_) AllReadyH.nil
                  go_simp
                  go_wp2_with (go_at_call 15; refine (HQ.out.2.1 _ (by assumption)).mono ?_; rintro e' wh ⟨bh, rfl, b5, hbh⟩)
                  refine hK.out _ _ ?_ (fun hHeld => ?_)
                  · exact HSS.out _ (by assumption)
                  clear hK K
                  clear bL
                  refine wpAnyH_ready (rs := [13]) (by kernel_rfl) (by simp) ?_
                  refine AllReadyH.cons rfl (fun K hK => ?_) AllReadyH.nil
                  go_simp
                  go_wp2_with (go_at_call 26; refine (HQ.out.2.2 _ (by assumption)).mono ?_; rintro e' wo ⟨bo, rfl, b6, hbo⟩; obtain rfl : bh = bo := bool_iff hbh hbo)
                  refine hK.out _ _ ?_ (fun hHeld => ?_)
                  · exact HSS.out _ (by assumption)
                  clear hK K
                  clear b5
                  refine wpAnyH_take (i := 14) (oi := { dst := some 153, op := Op.binOp BinOp.neq 4 (Operand.tmp 148) (Operand.tmp 152) 4, type := 4, pos := "plain.go:112", after := #[{ on := 9, ground := Ground.data }, { on := 13, ground := Ground.data }, { on := 5, ground := Ground.guard }], guard := some (5, false) }) (v := ?v95) rfl (by kernel_rfl) (by kernel_rfl) (by kernel_rfl) (fun _ _ _ h => h) (Or.inl ⟨by rfl, ?h95⟩) (by assumption) ?r95
                  case h95 => (intro w0 hSw; (try dsimp only at hSw); go_simp; try (with_reducible rfl))
                  simp only [Act.put, List.setIfInBounds_toArray, List.set_cons_zero, List.set_cons_succ]
                  refine wpAnyH_take (i := 15) (oi := { dst := some 154, op := Op.pick (Operand.tmp 144) (Operand.const (Value.bool true)) (Operand.tmp 153), type := 4, pos := "plain.go:112", after := #[{ on := 5, ground := Ground.data }, { on := 14, ground := Ground.data }], guard := none }) (v := ?v96) rfl (by kernel_rfl) (by kernel_rfl) (by kernel_rfl) (fun _ _ _ h => h) (Or.inl ⟨by rfl, ?h96⟩) (by assumption) ?r96
                  case h96 => (intro w0 hSw; (try dsimp only at hSw); go_simp; try (with_reducible rfl))
                  simp only [Act.put, List.setIfInBounds_toArray, List.set_cons_zero, List.set_cons_succ]
                  refine wpAnyH_done (by kernel_rfl) ?_ _
                  go_wp2_with fail
                  exact ⟨⟨i + 1, T', bs', ms', x', nxtA 4 s A, by push_cast; rfl, hlt, Hid.mk (by have := HZZ.out.below (by assumption); rw [← HMM.out] at this; exact this)⟩, by simp only [intOf]; omega⟩
            · as_aux_lemma =>
                have hf1 : (((s.size : Nat) : Int) == (n : Int)) = true := by simpa using (by omega : ((s.size : Nat) : Int) = (n : Int))
                have n0 : ¬ (0 : Int) ≤ N := hN0
                have n1 : N < 0 := by omega
                have n3 : decide ((0 : Int) ≤ N) = false := by simp; omega
                have n4 : decide (N < 0) = true := by simp; omega
                clear hs hN0
                go_wp2_with fail
                obtain ⟨wz, hwz⟩ : ∃ wz, wz = w4.alloc (.cells #[.bool y, .int .i64 e, .slice va len vc, .int .i64 q1, .int .i64 q2, .int .i64 q3, .int .i64 q4] 42) := ⟨_, rfl⟩
                rw [← hwz]
                rw [← hwz] at HGB e0 e1 e2
                have z3 : wz.cell? ⟨w4.heap.size, 1, none⟩ = some (.int .i64 e) := by rw [hwz]; go_simp
                have z4 : wz.cell? ⟨w4.heap.size, 2, none⟩ = some (.slice va len vc) := by rw [hwz]; go_simp
                obtain ⟨gw, hgw⟩ : ∃ gw, gw = w4.heap.size := ⟨_, rfl⟩
                rw [← hgw] at z3 z4 ⊢
                have z1 := e1
                have z2 := e2
                have HZZ := Hid.mk (HZ.out.below HGB.out)
                clear hwz hgw e0 e1 e2 d0 d1 d2
                have HMM := Hid.mk HA.out.2.2.2.1
                have HQ := Hid.mk (HZZ.out.asks (HW.out) hW0 s (by have := HMM.out; omega))
                rw [← HMM.out] at HQ
                have HSS := Hid.mk (show ∀ w', Below wz.heap.size wz w' → (Below wz.heap.size wz w' ∧ w'.cell? ⟨gb, 1, none⟩ = some (.string s) ∧ w'.cell? ⟨gb, 2, none⟩ = some (.int .i64 N) ∧ w'.cell? ⟨gw, 1, none⟩ = some (.int .i64 e) ∧ w'.cell? ⟨gw, 2, none⟩ = some (.slice va len vc)) from fun w' b => ⟨b, cell_lat b z1, cell_lat b z2, cell_lat b z3, cell_lat b z4⟩)
                refine wp_region_held_drew (S := fun w' => Below wz.heap.size wz w' ∧ w'.cell? ⟨gb, 1, none⟩ = some (.string s) ∧ w'.cell? ⟨gb, 2, none⟩ = some (.int .i64 N) ∧ w'.cell? ⟨gw, 1, none⟩ = some (.int .i64 e) ∧ w'.cell? ⟨gw, 2, none⟩ = some (.slice va len vc)) (by kernel_rfl) ?_ (fun hHeld => ?_)
                · exact ⟨(Below.refl _ wz).drew, z1, z2, z3, z4⟩
                refine wpAnyH_take (i := 0) (oi := { dst := some 78, op := Op.move (Operand.tmp 12), type := 4, pos := "plain.go:104", after := #[], guard := none }) (v := ?v47) rfl (by kernel_rfl) (by kernel_rfl) (by kernel_rfl) (fun _ _ _ h => h) (Or.inl ⟨by rfl, ?h47⟩) (by assumption) ?r47
                case h47 => (intro w0 hSw; (try dsimp only at hSw); go_simp; try (with_reducible rfl))
                simp only [Act.put, List.setIfInBounds_toArray, List.set_cons_zero, List.set_cons_succ]
                refine wpAnyH_take (i := 1) (oi := { dst := some 79, op := Op.move (Operand.tmp 78), type := 4, pos := "plain.go:104", after := #[{ on := 0, ground := Ground.data }], guard := none }) (v := ?v48) rfl (by kernel_rfl) (by kernel_rfl) (by kernel_rfl) (fun _ _ _ h => h) (Or.inl ⟨by rfl, ?h48⟩) (by assumption) ?r48
                case h48 => (intro w0 hSw; (try dsimp only at hSw); go_simp; try (with_reducible rfl))
                simp only [Act.put, List.setIfInBounds_toArray, List.set_cons_zero, List.set_cons_succ]
                refine wpAnyH_take (i := 2) (oi := { dst := some 80, op := Op.fieldAddr 40 (Operand.tmp 9) 2, type := 0, pos := "plain.go:104", after := #[{ on := 1, ground := Ground.guard }], guard := some (1, true) }) (v := ?v49) rfl (by kernel_rfl) (by kernel_rfl) (by kernel_rfl) (fun _ _ _ h => h) (Or.inl ⟨by rfl, ?h49⟩) (by assumption) ?r49
                case h49 => (intro w0 hSw; (try dsimp only at hSw); go_simp; try (with_reducible rfl))
                simp only [Act.put, List.setIfInBounds_toArray, List.set_cons_zero, List.set_cons_succ]
                refine wpAnyH_take (i := 3) (oi := { dst := some 81, op := Op.load 3 (Operand.tmp 80), type := 3, pos := "plain.go:104", after := #[{ on := 2, ground := Ground.data }, { on := 1, ground := Ground.guard }], guard := some (1, true) }) (v := ?v50) rfl (by kernel_rfl) (by kernel_rfl) (by kernel_rfl) (fun _ _ _ h => h) (Or.inl ⟨by rfl, ?h50⟩) (by assumption) ?r50
                case h50 => (intro w0 hSw; (try dsimp only at hSw); go_simp; try (with_reducible rfl))
                simp only [Act.put, List.setIfInBounds_toArray, List.set_cons_zero, List.set_cons_succ]
                refine wpAnyH_take (i := 4) (oi := { dst := some 82, op := Op.binOp BinOp.geq 3 (Operand.tmp 81) (Operand.const (Value.int IntKind.i64 0)) 3, type := 4, pos := "plain.go:104", after := #[{ on := 3, ground := Ground.data }, { on := 1, ground := Ground.guard }], guard := some (1, true) }) (v := ?v51) rfl (by kernel_rfl) (by kernel_rfl) (by kernel_rfl) (fun _ _ _ h => h) (Or.inl ⟨by rfl, ?h51⟩) (by assumption) ?r51
                case h51 => (intro w0 hSw; (try dsimp only at hSw); go_simp; try (with_reducible rfl))
                simp only [Act.put, List.setIfInBounds_toArray, List.set_cons_zero, List.set_cons_succ]
                refine wpAnyH_take (i := 5) (oi := { dst := some 83, op := Op.pick (Operand.tmp 79) (Operand.tmp 82) (Operand.const (Value.bool false)), type := 4, pos := "plain.go:104", after := #[{ on := 1, ground := Ground.data }, { on := 4, ground := Ground.data }], guard := none }) (v := ?v52) rfl (by kernel_rfl) (by kernel_rfl) (by kernel_rfl) (fun _ _ _ h => h) (Or.inl ⟨by rfl, ?h52⟩) (by assumption) ?r52
                case h52 => (intro w0 hSw; (try dsimp only at hSw); go_simp; try (with_reducible rfl))
                simp only [Act.put, List.setIfInBounds_toArray, List.set_cons_zero, List.set_cons_succ]
                refine wpAnyH_take (i := 6) (oi := { dst := some 84, op := Op.move (Operand.tmp 83), type := 4, pos := "plain.go:104", after := #[{ on := 5, ground := Ground.data }, { on := 1, ground := Ground.chain }], guard := none }) (v := ?v53) rfl (by kernel_rfl) (by kernel_rfl) (by kernel_rfl) (fun _ _ _ h => h) (Or.inl ⟨by rfl, ?h53⟩) (by assumption) ?r53
                case h53 => (intro w0 hSw; (try dsimp only at hSw); go_simp; try (with_reducible rfl))
                simp only [Act.put, List.setIfInBounds_toArray, List.set_cons_zero, List.set_cons_succ]
                refine wpAnyH_take (i := 7) (oi := { dst := some 85, op := Op.fieldAddr 40 (Operand.tmp 9) 2, type := 0, pos := "plain.go:104", after := #[{ on := 6, ground := Ground.guard }], guard := some (6, true) }) rfl (by kernel_rfl) (by kernel_rfl) (by kernel_rfl) (fun _ _ _ h => h) (Or.inr ⟨by rfl, rfl⟩) (by assumption) ?_
                simp only [Act.put, List.setIfInBounds_toArray, List.set_cons_zero, List.set_cons_succ]
                refine wpAnyH_take (i := 8) (oi := { dst := some 86, op := Op.load 3 (Operand.tmp 85), type := 3, pos := "plain.go:104", after := #[{ on := 7, ground := Ground.data }, { on := 6, ground := Ground.guard }], guard := some (6, true) }) rfl (by kernel_rfl) (by kernel_rfl) (by kernel_rfl) (fun _ _ _ h => h) (Or.inr ⟨by rfl, rfl⟩) (by assumption) ?_
                simp only [Act.put, List.setIfInBounds_toArray, List.set_cons_zero, List.set_cons_succ]
                refine wpAnyH_take (i := 9) (oi := { dst := some 87, op := Op.move (Operand.tmp 0), type := 3, pos := "plain.go:104", after := #[{ on := 6, ground := Ground.guard }], guard := some (6, true) }) rfl (by kernel_rfl) (by kernel_rfl) (by kernel_rfl) (fun _ _ _ h => h) (Or.inr ⟨by rfl, rfl⟩) (by assumption) ?_
                simp only [Act.put, List.setIfInBounds_toArray, List.set_cons_zero, List.set_cons_succ]
                refine wpAnyH_take (i := 10) (oi := { dst := some 88, op := Op.binOp BinOp.leq 3 (Operand.tmp 86) (Operand.tmp 87) 3, type := 4, pos := "plain.go:104", after := #[{ on := 8, ground := Ground.data }, { on := 9, ground := Ground.data }, { on := 6, ground := Ground.guard }], guard := some (6, true) }) rfl (by kernel_rfl) (by kernel_rfl) (by kernel_rfl) (fun _ _ _ h => h) (Or.inr ⟨by rfl, rfl⟩) (by assumption) ?_
                simp only [Act.put, List.setIfInBounds_toArray, List.set_cons_zero, List.set_cons_succ]
                refine wpAnyH_take (i := 11) (oi := { dst := some 89, op := Op.pick (Operand.tmp 84) (Operand.tmp 88) (Operand.const (Value.bool false)), type := 4, pos := "plain.go:104", after := #[{ on := 6, ground := Ground.data }, { on := 10, ground := Ground.data }], guard := none }) (v := ?v54) rfl (by kernel_rfl) (by kernel_rfl) (by kernel_rfl) (fun _ _ _ h => h) (Or.inl ⟨by rfl, ?h54⟩) (by assumption) ?r54
                case h54 => (intro w0 hSw; (try dsimp only at hSw); go_simp; try (with_reducible rfl))
                simp only [Act.put, List.setIfInBounds_toArray, List.set_cons_zero, List.set_cons_succ]
                refine wpAnyH_take (i := 12) (oi := { dst := some 90, op := Op.move (Operand.tmp 89), type := 4, pos := "plain.go:104", after := #[{ on := 11, ground := Ground.data }, { on := 6, ground := Ground.chain }], guard := none }) (v := ?v55) rfl (by kernel_rfl) (by kernel_rfl) (by kernel_rfl) (fun _ _ _ h => h) (Or.inl ⟨by rfl, ?h55⟩) (by assumption) ?r55
                case h55 => (intro w0 hSw; (try dsimp only at hSw); go_simp; try (with_reducible rfl))
                simp only [Act.put, List.setIfInBounds_toArray, List.set_cons_zero, List.set_cons_succ]
                refine wpAnyH_take (i := 13) (oi := { dst := some 91, op := Op.fieldAddr 42 (Operand.tmp 11) 1, type := 0, pos := "plain.go:104", after := #[{ on := 12, ground := Ground.guard }], guard := some (12, true) }) rfl (by kernel_rfl) (by kernel_rfl) (by kernel_rfl) (fun _ _ _ h => h) (Or.inr ⟨by rfl, rfl⟩) (by assumption) ?_
                simp only [Act.put, List.setIfInBounds_toArray, List.set_cons_zero, List.set_cons_succ]
                refine wpAnyH_take (i := 14) (oi := { dst := some 92, op := Op.load 3 (Operand.tmp 91), type := 3, pos := "plain.go:104", after := #[{ on := 13, ground := Ground.data }, { on := 12, ground := Ground.guard }], guard := some (12, true) }) rfl (by kernel_rfl) (by kernel_rfl) (by kernel_rfl) (fun _ _ _ h => h) (Or.inr ⟨by rfl, rfl⟩) (by assumption) ?_
                simp only [Act.put, List.setIfInBounds_toArray, List.set_cons_zero, List.set_cons_succ]
                refine wpAnyH_take (i := 15) (oi := { dst := some 93, op := Op.binOp BinOp.neq 3 (Operand.tmp 92) (Operand.const (Value.int IntKind.i64 0)) 3, type := 4, pos := "plain.go:104", after := #[{ on := 14, ground := Ground.data }, { on := 12, ground := Ground.guard }], guard := some (12, true) }) rfl (by kernel_rfl) (by kernel_rfl) (by kernel_rfl) (fun _ _ _ h => h) (Or.inr ⟨by rfl, rfl⟩) (by assumption) ?_
                simp only [Act.put, List.setIfInBounds_toArray, List.set_cons_zero, List.set_cons_succ]
                refine wpAnyH_take (i := 16) (oi := { dst := some 94, op := Op.move (Operand.tmp 93), type := 4, pos := "plain.go:104", after := #[{ on := 15, ground := Ground.data }, { on := 12, ground := Ground.chain }, { on := 12, ground := Ground.guard }], guard := some (12, true) }) rfl (by kernel_rfl) (by kernel_rfl) (by kernel_rfl) (fun _ _ _ h => h) (Or.inr ⟨by rfl, rfl⟩) (by assumption) ?_
                simp only [Act.put, List.setIfInBounds_toArray, List.set_cons_zero, List.set_cons_succ]
                refine wpAnyH_take (i := 17) (oi := { dst := some 95, op := Op.fieldAddr 42 (Operand.tmp 11) 2, type := 0, pos := "plain.go:104", after := #[{ on := 16, ground := Ground.guard }], guard := some (16, false) }) rfl (by kernel_rfl) (by kernel_rfl) (by kernel_rfl) (fun _ _ _ h => h) (Or.inr ⟨by rfl, rfl⟩) (by assumption) ?_
                simp only [Act.put, List.setIfInBounds_toArray, List.set_cons_zero, List.set_cons_succ]
                refine wpAnyH_take (i := 18) (oi := { dst := some 96, op := Op.load 32 (Operand.tmp 95), type := 32, pos := "plain.go:104", after := #[{ on := 17, ground := Ground.data }, { on := 16, ground := Ground.guard }], guard := some (16, false) }) rfl (by kernel_rfl) (by kernel_rfl) (by kernel_rfl) (fun _ _ _ h => h) (Or.inr ⟨by rfl, rfl⟩) (by assumption) ?_
                simp only [Act.put, List.setIfInBounds_toArray, List.set_cons_zero, List.set_cons_succ]
                refine wpAnyH_take (i := 19) (oi := { dst := some 97, op := Op.move (Operand.tmp 7), type := 45, pos := "plain.go:104", after := #[{ on := 16, ground := Ground.guard }], guard := some (16, false) }) rfl (by kernel_rfl) (by kernel_rfl) (by kernel_rfl) (fun _ _ _ h => h) (Or.inr ⟨by rfl, rfl⟩) (by assumption) ?_
                simp only [Act.put, List.setIfInBounds_toArray, List.set_cons_zero, List.set_cons_succ]
                refine wpAnyH_take (i := 20) (oi := { dst := some 98, op := Op.fieldAddr 40 (Operand.tmp 9) 1, type := 0, pos := "plain.go:104", after := #[{ on := 16, ground := Ground.guard }], guard := some (16, false) }) rfl (by kernel_rfl) (by kernel_rfl) (by kernel_rfl) (fun _ _ _ h => h) (Or.inr ⟨by rfl, rfl⟩) (by assumption) ?_
                simp only [Act.put, List.setIfInBounds_toArray, List.set_cons_zero, List.set_cons_succ]
                refine wpAnyH_take (i := 21) (oi := { dst := some 99, op := Op.load 9 (Operand.tmp 98), type := 9, pos := "plain.go:104", after := #[{ on := 20, ground := Ground.data }, { on := 16, ground := Ground.guard }], guard := some (16, false) }) rfl (by kernel_rfl) (by kernel_rfl) (by kernel_rfl) (fun _ _ _ h => h) (Or.inr ⟨by rfl, rfl⟩) (by assumption) ?_
                simp only [Act.put, List.setIfInBounds_toArray, List.set_cons_zero, List.set_cons_succ]
                refine wpAnyH_take (i := 22) (oi := { dst := some 100, op := Op.fieldAddr 40 (Operand.tmp 9) 2, type := 0, pos := "plain.go:104", after := #[{ on := 16, ground := Ground.guard }], guard := some (16, false) }) rfl (by kernel_rfl) (by kernel_rfl) (by kernel_rfl) (fun _ _ _ h => h) (Or.inr ⟨by rfl, rfl⟩) (by assumption) ?_
                simp only [Act.put, List.setIfInBounds_toArray, List.set_cons_zero, List.set_cons_succ]
                refine wpAnyH_take (i := 23) (oi := { dst := some 101, op := Op.load 3 (Operand.tmp 100), type := 3, pos := "plain.go:104", after := #[{ on := 22, ground := Ground.data }, { on := 16, ground := Ground.guard }], guard := some (16, false) }) rfl (by kernel_rfl) (by kernel_rfl) (by kernel_rfl) (fun _ _ _ h => h) (Or.inr ⟨by rfl, rfl⟩) (by assumption) ?_
                simp only [Act.put, List.setIfInBounds_toArray, List.set_cons_zero, List.set_cons_succ]
                refine wpAnyH_take (i := 24) (oi := { dst := some 102, op := Op.call { callee := Callee.value (Operand.func 24), args := #[Operand.tmp 97, Operand.tmp 99, Operand.tmp 101], argTypes := #[45, 9, 3] }, type := 32, pos := "plain.go:104", after := #[{ on := 19, ground := Ground.data }, { on := 21, ground := Ground.data }, { on := 23, ground := Ground.data }, { on := 16, ground := Ground.chain }, { on := 16, ground := Ground.guard }], guard := some (16, false) }) rfl (by kernel_rfl) (by kernel_rfl) (by kernel_rfl) (fun _ _ _ h => h) (Or.inr ⟨by rfl, rfl⟩) (by assumption) ?_
                simp only [Act.put, List.setIfInBounds_toArray, List.set_cons_zero, List.set_cons_succ]
                refine wpAnyH_take (i := 25) (oi := { dst := some 103, op := Op.call { callee := Callee.value (Operand.func 23), args := #[Operand.tmp 96, Operand.tmp 102], argTypes := #[32, 32] }, type := 4, pos := "plain.go:104", after := #[{ on := 18, ground := Ground.data }, { on := 24, ground := Ground.data }, { on := 24, ground := Ground.chain }, { on := 16, ground := Ground.guard }], guard := some (16, false) }) rfl (by kernel_rfl) (by kernel_rfl) (by kernel_rfl) (fun _ _ _ h => h) (Or.inr ⟨by rfl, rfl⟩) (by assumption) ?_
                simp only [Act.put, List.setIfInBounds_toArray, List.set_cons_zero, List.set_cons_succ]
                refine wpAnyH_take (i := 26) (oi := { dst := some 104, op := Op.unOp UnOp.not 4 (Operand.tmp 103), type := 4, pos := "plain.go:104", after := #[{ on := 25, ground := Ground.data }, { on := 16, ground := Ground.guard }], guard := some (16, false) }) rfl (by kernel_rfl) (by kernel_rfl) (by kernel_rfl) (fun _ _ _ h => h) (Or.inr ⟨by rfl, rfl⟩) (by assumption) ?_
                simp only [Act.put, List.setIfInBounds_toArray, List.set_cons_zero, List.set_cons_succ]
                refine wpAnyH_take (i := 27) (oi := { dst := some 105, op := Op.pick (Operand.tmp 94) (Operand.const (Value.bool true)) (Operand.tmp 104), type := 4, pos := "plain.go:104", after := #[{ on := 16, ground := Ground.data }, { on := 26, ground := Ground.data }, { on := 12, ground := Ground.guard }], guard := some (12, true) }) rfl (by kernel_rfl) (by kernel_rfl) (by kernel_rfl) (fun _ _ _ h => h) (Or.inr ⟨by rfl, rfl⟩) (by assumption) ?_
                simp only [Act.put, List.setIfInBounds_toArray, List.set_cons_zero, List.set_cons_succ]
                refine wpAnyH_take (i := 28) (oi := { dst := some 106, op := Op.pick (Operand.tmp 90) (Operand.tmp 105) (Operand.const (Value.bool false)), type := 4, pos := "plain.go:104", after := #[{ on := 12, ground := Ground.data }, { on := 27, ground := Ground.data }], guard := none }) (v := ?v56) rfl (by kernel_rfl) (by kernel_rfl) (by kernel_rfl) (fun _ _ _ h => h) (Or.inl ⟨by rfl, ?h56⟩) (by assumption) ?r56
                case h56 => (intro w0 hSw; (try dsimp only at hSw); go_simp; try (with_reducible rfl))
                simp only [Act.put, List.setIfInBounds_toArray, List.set_cons_zero, List.set_cons_succ]
                refine wpAnyH_done (by kernel_rfl) ?_ _
                obtain ⟨wy, hwy⟩ : ∃ wy, wy = wz.drew := ⟨_, rfl⟩
                rw [← hwy]
                have bY : Below wz.heap.size wz wy := by rw [hwy]; exact (Below.refl _ wz).drew
                have HZ2 := Hid.mk (HZZ.out.below bY)
                obtain ⟨-, y1, y2, y3, y4⟩ := HSS.out _ bY
                clear z1 z2 z3 z4 HZZ HQ HSS HMM bY hwy 
                have z1 := y1
                have z2 := y2
                have z3 := y3
                have z4 := y4
                clear y1 y2 y3 y4
                have HZZ := HZ2
                clear HZ2
                go_wp2_with fail
                have HMM := Hid.mk HA.out.2.2.2.1
                have HQ := Hid.mk (HZZ.out.asks (HW.out) hW0 s (by have := HMM.out; omega))
                rw [← HMM.out] at HQ
                have HSS := Hid.mk (show ∀ w', Below wy.heap.size wy w' → (Below wy.heap.size wy w' ∧ w'.cell? ⟨gb, 1, none⟩ = some (.string s) ∧ w'.cell? ⟨gb, 2, none⟩ = some (.int .i64 N) ∧ w'.cell? ⟨gw, 1, none⟩ = some (.int .i64 e) ∧ w'.cell? ⟨gw, 2, none⟩ = some (.slice va len vc)) from fun w' b => ⟨b, cell_lat b z1, cell_lat b z2, cell_lat b z3, cell_lat b z4⟩)
                refine wp_region_held_drew (S := fun w' => Below wy.heap.size wy w' ∧ w'.cell? ⟨gb, 1, none⟩ = some (.string s) ∧ w'.cell? ⟨gb, 2, none⟩ = some (.int .i64 N) ∧ w'.cell? ⟨gw, 1, none⟩ = some (.int .i64 e) ∧ w'.cell? ⟨gw, 2, none⟩ = some (.slice va len vc)) (by kernel_rfl) ?_ (fun hHeld => ?_)
                · exact ⟨(Below.refl _ wy).drew, z1, z2, z3, z4⟩
                refine wpAnyH_take (i := 0) (oi := { dst := some 139, op := Op.move (Operand.tmp 6), type := 24, pos := "plain.go:112", after := #[], guard := none }) (v := ?v57) rfl (by kernel_rfl) (by kernel_rfl) (by kernel_rfl) (fun _ _ _ h => h) (Or.inl ⟨by rfl, ?h57⟩) (by assumption) ?r57
                case h57 => (intro w0 hSw; (try dsimp only at hSw); go_simp; try (with_reducible rfl))
                simp only [Act.put, List.setIfInBounds_toArray, List.set_cons_zero, List.set_cons_succ]
                refine wpAnyH_take (i := 2) (oi := { dst := some 141, op := Op.move (Operand.tmp 7), type := 45, pos := "plain.go:112", after := #[], guard := none }) (v := ?v58) rfl (by kernel_rfl) (by kernel_rfl) (by kernel_rfl) (fun _ _ _ h => h) (Or.inl ⟨by rfl, ?h58⟩) (by assumption) ?r58
                case h58 => (intro w0 hSw; (try dsimp only at hSw); go_simp; try (with_reducible rfl))
                simp only [Act.put, List.setIfInBounds_toArray, List.set_cons_zero, List.set_cons_succ]
                refine wpAnyH_take (i := 3) (oi := { dst := some 142, op := Op.call { callee := Callee.builtin Builtin.len, args := #[Operand.tmp 141], argTypes := #[45] }, type := 3, pos := "plain.go:112", after := #[{ on := 2, ground := Ground.data }], guard := none }) (v := ?v59) rfl (by kernel_rfl) (by kernel_rfl) (by kernel_rfl) (fun _ _ _ h => h) (Or.inl ⟨by rfl, ?h59⟩) (by assumption) ?r59
                case h59 => (intro w0 hSw; (try dsimp only at hSw); go_simp; try (with_reducible rfl))
                simp only [Act.put, List.setIfInBounds_toArray, List.set_cons_zero, List.set_cons_succ]
                refine wpAnyH_ready (rs := [1]) (by kernel_rfl) (by simp) ?_
                refine AllReadyH.cons rfl (fun K hK => ?_) AllReadyH.nil
                go_simp
                go_wp2_with (go_at_call 18; refine (HQ.out.1 _ (Below.refl _ wy).drew).mono ?_; rintro e' w' ⟨rfl, he'⟩; subst he'; have bL := (Below.refl wy.heap.size wy).drew)
                refine hK.out _ _ ?_ (fun hHeld => ?_)
                · exact HSS.out _ (by assumption)
                clear hK K
                refine wpAnyH_take (i := 4) (oi := { dst := some 143, op := Op.binOp BinOp.neq 3 (Operand.tmp 140) (Operand.tmp 142) 3, type := 4, pos := "plain.go:112", after := #[{ on := 1, ground := Ground.data }, { on := 3, ground := Ground.data }], guard := none }) (v := ?v60) rfl (by kernel_rfl) (by kernel_rfl) (by kernel_rfl) (fun _ _ _ h => h) (Or.inl ⟨by rfl, ?h60⟩) (by assumption) ?r60
                case h60 => (intro w0 hSw; (try dsimp only at hSw); go_simp; try (with_reducible rfl))
                simp only [Act.put, List.setIfInBounds_toArray, List.set_cons_zero, List.set_cons_succ]
                refine wpAnyH_take (i := 5) (oi := { dst := some 144, op := Op.move (Operand.tmp 143), type := 4, pos := "plain.go:112", after := #[{ on := 4, ground := Ground.data }, { on := 1, ground := Ground.chain }], guard := none }) (v := ?v61) rfl (by kernel_rfl) (by kernel_rfl) (by kernel_rfl) (fun _ _ _ h => h) (Or.inl ⟨by rfl, ?h61⟩) (by assumption) ?r61
                case h61 => (intro w0 hSw; (try dsimp only at hSw); go_simp; try (with_reducible rfl))
                simp only [Act.put, List.setIfInBounds_toArray, List.set_cons_zero, List.set_cons_succ]
                refine wpAnyH_take (i := 6) (oi := { dst := some 145, op := Op.move (Operand.tmp 6), type := 24, pos := "plain.go:112", after := #[{ on := 5, ground := Ground.guard }], guard := some (5, false) }) (v := ?v62) rfl (by kernel_rfl) (by kernel_rfl) (by kernel_rfl) (fun _ _ _ h => h) (Or.inl ⟨by rfl, ?h62⟩) (by assumption) ?r62
                case h62 => (intro w0 hSw; (try dsimp only at hSw); go_simp; try (with_reducible rfl))
                simp only [Act.put, List.setIfInBounds_toArray, List.set_cons_zero, List.set_cons_succ]
                refine wpAnyH_take (i := 7) (oi := { dst := some 146, op := Op.fieldAddr 40 (Operand.tmp 9) 1, type := 0, pos := "plain.go:112", after := #[{ on := 5, ground := Ground.guard }], guard := some (5, false) }) (v := ?v63) rfl (by kernel_rfl) (by kernel_rfl) (by kernel_rfl) (fun _ _ _ h => h) (Or.inl ⟨by rfl, ?h63⟩) (by assumption) ?r63
                case h63 => (intro w0 hSw; (try dsimp only at hSw); go_simp; try (with_reducible rfl))
                simp only [Act.put, List.setIfInBounds_toArray, List.set_cons_zero, List.set_cons_succ]
                refine wpAnyH_take (i := 8) (oi := { dst := some 147, op := Op.load 9 (Operand.tmp 146), type := 9, pos := "plain.go:112", after := #[{ on := 7, ground := Ground.data }, { on := 5, ground := Ground.guard }], guard := some (5, false) }) (v := ?v64) rfl (by kernel_rfl) (by kernel_rfl) (by kernel_rfl) (fun _ _ _ h => h) (Or.inl ⟨by rfl, ?h64⟩) (by assumption) ?r64
                case h64 => (intro w0 hSw; (try dsimp only at hSw); go_simp; try (with_reducible rfl))
                simp only [Act.put, List.setIfInBounds_toArray, List.set_cons_zero, List.set_cons_succ]
                refine wpAnyH_take (i := 10) (oi := { dst := some 149, op := Op.move (Operand.tmp 7), type := 45, pos := "plain.go:112", after := #[{ on := 5, ground := Ground.guard }], guard := some (5, false) }) (v := ?v65) rfl (by kernel_rfl) (by kernel_rfl) (by kernel_rfl) (fun _ _ _ h => h) (Or.inl ⟨by rfl, ?h65⟩) (by assumption) ?r65
                case h65 => (intro w0 hSw; (try dsimp only at hSw); go_simp; try (with_reducible rfl))
                simp only [Act.put, List.setIfInBounds_toArray, List.set_cons_zero, List.set_cons_succ]
                refine wpAnyH_take (i := 11) (oi := { dst := some 150, op := Op.fieldAddr 40 (Operand.tmp 9) 1, type := 0, pos := "plain.go:112", after := #[{ on := 5, ground := Ground.guard }], guard := some (5, false) }) (v := ?v66) rfl (by kernel_rfl) (by kernel_rfl) (by kernel_rfl) (fun _ _ _ h => h) (Or.inl ⟨by rfl, ?h66⟩) (by assumption) ?r66
                case h66 => (intro w0 hSw; (try dsimp only at hSw); go_simp; try (with_reducible rfl))
                simp only [Act.put, List.setIfInBounds_toArray, List.set_cons_zero, List.set_cons_succ]
                refine wpAnyH_take (i := 12) (oi := { dst := some 151, op := Op.load 9 (Operand.tmp 150), type := 9, pos := "plain.go:112", after := #[{ on := 11, ground := Ground.data }, { on := 5, ground := Ground.guard }], guard := some (5, false) }) (v := ?v67) rfl (by kernel_rfl) (by kernel_rfl) (by kernel_rfl) (fun _ _ _ h => h) (Or.inl ⟨by rfl, ?h67⟩) (by assumption) ?r67
                case h67 => (intro w0 hSw; (try dsimp only at hSw); go_simp; try (with_reducible rfl))
                simp only [Act.put, List.setIfInBounds_toArray, List.set_cons_zero, List.set_cons_succ]
                refine wpAnyH_ready (rs := [9]) (by kernel_rfl) (by simp) ?_
                refine AllReadyH.cons rfl (fun K hK => ?_) AllReadyH.nil
                go_simp
                go_wp2_with (go_at_call 15; refine (HQ.out.2.1 _ (by assumption)).mono ?_; rintro e' wh ⟨bh, rfl, b5, hbh⟩)
                refine hK.out _ _ ?_ (fun hHeld => ?_)
                · exact HSS.out _ (by assumption)
                clear hK K
                clear bL
                refine wpAnyH_ready (rs := [13]) (by kernel_rfl) (by simp) ?_
                refine AllReadyH.cons rfl (fun K hK => ?_) AllReadyH.nil
                go_simp
                go_wp2_with (go_at_call 26; refine (HQ.out.2.2 _ (by assumption)).mono ?_; rintro e' wo ⟨bo, rfl, b6, hbo⟩; obtain rfl : bh = bo := bool_iff hbh hbo)
                refine hK.out _ _ ?_ (fun hHeld => ?_)
                · exact HSS.out _ (by assumption)
                clear hK K
                clear b5
                refine wpAnyH_take (i := 14) (oi := { dst := some 153, op := Op.binOp BinOp.neq 4 (Operand.tmp 148) (Operand.tmp 152) 4, type := 4, pos := "plain.go:112", after := #[{ on := 9, ground := Ground.data }, { on := 13, ground := Ground.data }, { on := 5, ground := Ground.guard }], guard := some (5, false) }) (v := ?v68) rfl (by kernel_rfl) (by kernel_rfl) (by kernel_rfl) (fun _ _ _ h => h) (Or.inl ⟨by rfl, ?h68⟩) (by assumption) ?r68
                case h68 => (intro w0 hSw; (try dsimp only at hSw); go_simp; try (with_reducible rfl))
                simp only [Act.put, List.setIfInBounds_toArray, List.set_cons_zero, List.set_cons_succ]
                refine wpAnyH_take (i := 15) (oi := { dst := some 154, op := Op.pick (Operand.tmp 144) (Operand.const (Value.bool true)) (Operand.tmp 153), type := 4, pos := "plain.go:112", after := #[{ on := 5, ground := Ground.data }, { on := 14, ground := Ground.data }], guard := none }) (v := ?v69) rfl (by kernel_rfl) (by kernel_rfl) (by kernel_rfl) (fun _ _ _ h => h) (Or.inl ⟨by rfl, ?h69⟩) (by assumption) ?r69
                case h69 => (intro w0 hSw; (try dsimp only at hSw); go_simp; try (with_reducible rfl))
                simp only [Act.put, List.setIfInBounds_toArray, List.set_cons_zero, List.set_cons_succ]
                refine wpAnyH_done (by kernel_rfl) ?_ _
                go_wp2_with fail
                exact ⟨⟨i + 1, T', bs', ms', x', nxtA 4 s A, by push_cast; rfl, hlt, Hid.mk (by have := HZZ.out.below (by assumption); rw [← HMM.out] at this; exact this)⟩, by simp only [intOf]; omega⟩
          · as_aux_lemma =>
              have hf1 : (((s.size : Nat) : Int) == (n : Int)) = false := by simpa using (by omega : ((s.size : Nat) : Int) ≠ (n : Int))
              clear hs
              go_wp2_with fail
              obtain ⟨wz, hwz⟩ : ∃ wz, wz = w4.alloc (.cells #[.bool y, .int .i64 e, .slice va len vc, .int .i64 q1, .int .i64 q2, .int .i64 q3, .int .i64 q4] 42) := ⟨_, rfl⟩
              rw [← hwz]
              rw [← hwz] at HGB e0 e1 e2
              have z3 : wz.cell? ⟨w4.heap.size, 1, none⟩ = some (.int .i64 e) := by rw [hwz]; go_simp
              have z4 : wz.cell? ⟨w4.heap.size, 2, none⟩ = some (.slice va len vc) := by rw [hwz]; go_simp
              obtain ⟨gw, hgw⟩ : ∃ gw, gw = w4.heap.size := ⟨_, rfl⟩
              rw [← hgw] at z3 z4 ⊢
              have z1 := e1
              have z2 := e2
              have HZZ := Hid.mk (HZ.out.below HGB.out)
              clear hwz hgw e0 e1 e2 d0 d1 d2
              have HMM := Hid.mk HA.out.2.2.2.1
              have HQ := Hid.mk (HZZ.out.asks (HW.out) hW0 s (by have := HMM.out; omega))
              rw [← HMM.out] at HQ
              have HSS := Hid.mk (show ∀ w', Below wz.heap.size wz w' → (Below wz.heap.size wz w' ∧ w'.cell? ⟨gb, 1, none⟩ = some (.string s) ∧ w'.cell? ⟨gb, 2, none⟩ = some (.int .i64 N) ∧ w'.cell? ⟨gw, 1, none⟩ = some (.int .i64 e) ∧ w'.cell? ⟨gw, 2, none⟩ = some (.slice va len vc)) from fun w' b => ⟨b, cell_lat b z1, cell_lat b z2, cell_lat b z3, cell_lat b z4⟩)
              refine wp_region_held_drew (S := fun w' => Below wz.heap.size wz w' ∧ w'.cell? ⟨gb, 1, none⟩ = some (.string s) ∧ w'.cell? ⟨gb, 2, none⟩ = some (.int .i64 N) ∧ w'.cell? ⟨gw, 1, none⟩ = some (.int .i64 e) ∧ w'.cell? ⟨gw, 2, none⟩ = some (.slice va len vc)) (by kernel_rfl) ?_ (fun hHeld => ?_)
              · exact ⟨(Below.refl _ wz).drew, z1, z2, z3, z4⟩
              refine wpAnyH_take (i := 0) (oi := { dst := some 78, op := Op.move (Operand.tmp 12), type := 4, pos := "plain.go:104", after := #[], guard := none }) (v := ?v27) rfl (by kernel_rfl) (by kernel_rfl) (by kernel_rfl) (fun _ _ _ h => h) (Or.inl ⟨by rfl, ?h27⟩) (by assumption) ?r27
              case h27 => (intro w0 hSw; (try dsimp only at hSw); go_simp; try (with_reducible rfl))
              simp only [Act.put, List.setIfInBounds_toArray, List.set_cons_zero, List.set_cons_succ]
              refine wpAnyH_take (i := 1) (oi := { dst := some 79, op := Op.move (Operand.tmp 78), type := 4, pos := "plain.go:104", after := #[{ on := 0, ground := Ground.data }], guard := none }) (v := ?v28) rfl (by kernel_rfl) (by kernel_rfl) (by kernel_rfl) (fun _ _ _ h => h) (Or.inl ⟨by rfl, ?h28⟩) (by assumption) ?r28
              case h28 => (intro w0 hSw; (try dsimp only at hSw); go_simp; try (with_reducible rfl))
              simp only [Act.put, List.setIfInBounds_toArray, List.set_cons_zero, List.set_cons_succ]
              refine wpAnyH_take (i := 2) (oi := { dst := some 80, op := Op.fieldAddr 40 (Operand.tmp 9) 2, type := 0, pos := "plain.go:104", after := #[{ on := 1, ground := Ground.guard }], guard := some (1, true) }) rfl (by kernel_rfl) (by kernel_rfl) (by kernel_rfl) (fun _ _ _ h => h) (Or.inr ⟨by rfl, rfl⟩) (by assumption) ?_
              simp only [Act.put, List.setIfInBounds_toArray, List.set_cons_zero, List.set_cons_succ]
              refine wpAnyH_take (i := 3) (oi := { dst := some 81, op := Op.load 3 (Operand.tmp 80), type := 3, pos := "plain.go:104", after := #[{ on := 2, ground := Ground.data }, { on := 1, ground := Ground.guard }], guard := some (1, true) }) rfl (by kernel_rfl) (by kernel_rfl) (by kernel_rfl) (fun _ _ _ h => h) (Or.inr ⟨by rfl, rfl⟩) (by assumption) ?_
              simp only [Act.put, List.setIfInBounds_toArray, List.set_cons_zero, List.set_cons_succ]
              refine wpAnyH_take (i := 4) (oi := { dst := some 82, op := Op.binOp BinOp.geq 3 (Operand.tmp 81) (Operand.const (Value.int IntKind.i64 0)) 3, type := 4, pos := "plain.go:104", after := #[{ on := 3, ground := Ground.data }, { on := 1, ground := Ground.guard }], guard := some (1, true) }) rfl (by kernel_rfl) (by kernel_rfl) (by kernel_rfl) (fun _ _ _ h => h) (Or.inr ⟨by rfl, rfl⟩) (by assumption) ?_
              simp only [Act.put, List.setIfInBounds_toArray, List.set_cons_zero, List.set_cons_succ]
              refine wpAnyH_take (i := 5) (oi := { dst := some 83, op := Op.pick (Operand.tmp 79) (Operand.tmp 82) (Operand.const (Value.bool false)), type := 4, pos := "plain.go:104", after := #[{ on := 1, ground := Ground.data }, { on := 4, ground := Ground.data }], guard := none }) (v := ?v29) rfl (by kernel_rfl) (by kernel_rfl) (by kernel_rfl) (fun _ _ _ h => h) (Or.inl ⟨by rfl, ?h29⟩) (by assumption) ?r29
              case h29 => (intro w0 hSw; (try dsimp only at hSw); go_simp; try (with_reducible rfl))
              simp only [Act.put, List.setIfInBounds_toArray, List.set_cons_zero, List.set_cons_succ]
              refine wpAnyH_take (i := 6) (oi := { dst := some 84, op := Op.move (Operand.tmp 83), type := 4, pos := "plain.go:104", after := #[{ on := 5, ground := Ground.data }, { on := 1, ground := Ground.chain }], guard := none }) (v := ?v30) rfl (by kernel_rfl) (by kernel_rfl) (by kernel_rfl) (fun _ _ _ h => h) (Or.inl ⟨by rfl, ?h30⟩) (by assumption) ?r30
              case h30 => (intro w0 hSw; (try dsimp only at hSw); go_simp; try (with_reducible rfl))
              simp only [Act.put, List.setIfInBounds_toArray, List.set_cons_zero, List.set_cons_succ]
              refine wpAnyH_take (i := 7) (oi := { dst := some 85, op := Op.fieldAddr 40 (Operand.tmp 9) 2, type := 0, pos := "plain.go:104", after := #[{ on := 6, ground := Ground.guard }], guard := some (6, true) }) rfl (by kernel_rfl) (by kernel_rfl) (by kernel_rfl) (fun _ _ _ h => h) (Or.inr ⟨by rfl, rfl⟩) (by assumption) ?_
              simp only [Act.put, List.setIfInBounds_toArray, List.set_cons_zero, List.set_cons_succ]
              refine wpAnyH_take (i := 8) (oi := { dst := some 86, op := Op.load 3 (Operand.tmp 85), type := 3, pos := "plain.go:104", after := #[{ on := 7, ground := Ground.data }, { on := 6, ground := Ground.guard }], guard := some (6, true) }) rfl (by kernel_rfl) (by kernel_rfl) (by kernel_rfl) (fun _ _ _ h => h) (Or.inr ⟨by rfl, rfl⟩) (by assumption) ?_
              simp only [Act.put, List.setIfInBounds_toArray, List.set_cons_zero, List.set_cons_succ]
              refine wpAnyH_take (i := 9) (oi := { dst := some 87, op := Op.move (Operand.tmp 0), type := 3, pos := "plain.go:104", after := #[{ on := 6, ground := Ground.guard }], guard := some (6, true) }) rfl (by kernel_rfl) (by kernel_rfl) (by kernel_rfl) (fun _ _ _ h => h) (Or.inr ⟨by rfl, rfl⟩) (by assumption) ?_
              simp only [Act.put, List.setIfInBounds_toArray, List.set_cons_zero, List.set_cons_succ]
              refine wpAnyH_take (i := 10) (oi := { dst := some 88, op := Op.binOp BinOp.leq 3 (Operand.tmp 86) (Operand.tmp 87) 3, type := 4, pos := "plain.go:104", after := #[{ on := 8, ground := Ground.data }, { on := 9, ground := Ground.data }, { on := 6, ground := Ground.guard }], guard := some (6, true) }) rfl (by kernel_rfl) (by kernel_rfl) (by kernel_rfl) (fun _ _ _ h => h) (Or.inr ⟨by rfl, rfl⟩) (by assumption) ?_
              simp only [Act.put, List.setIfInBounds_toArray, List.set_cons_zero, List.set_cons_succ]
              refine wpAnyH_take (i := 11) (oi := { dst := some 89, op := Op.pick (Operand.tmp 84) (Operand.tmp 88) (Operand.const (Value.bool false)), type := 4, pos := "plain.go:104", after := #[{ on := 6, ground := Ground.data }, { on := 10, ground := Ground.data }], guard := none }) (v := ?v31) rfl (by kernel_rfl) (by kernel_rfl) (by kernel_rfl) (fun _ _ _ h => h) (Or.inl ⟨by rfl, ?h31⟩) (by assumption) ?r31
              case h31 => (intro w0 hSw; (try dsimp only at hSw); go_simp; try (with_reducible rfl))
              simp only [Act.put, List.setIfInBounds_toArray, List.set_cons_zero, List.set_cons_succ]
              refine wpAnyH_take (i := 12) (oi := { dst := some 90, op := Op.move (Operand.tmp 89), type := 4, pos := "plain.go:104", after := #[{ on := 11, ground := Ground.data }, { on := 6, ground := Ground.chain }], guard := none }) (v := ?v32) rfl (by kernel_rfl) (by kernel_rfl) (by kernel_rfl) (fun _ _ _ h => h) (Or.inl ⟨by rfl, ?h32⟩) (by assumption) ?r32
              case h32 => (intro w0 hSw; (try dsimp only at hSw); go_simp; try (with_reducible rfl))
              simp only [Act.put, List.setIfInBounds_toArray, List.set_cons_zero, List.set_cons_succ]
              refine wpAnyH_take (i := 13) (oi := { dst := some 91, op := Op.fieldAddr 42 (Operand.tmp 11) 1, type := 0, pos := "plain.go:104", after := #[{ on := 12, ground := Ground.guard }], guard := some (12, true) }) rfl (by kernel_rfl) (by kernel_rfl) (by kernel_rfl) (fun _ _ _ h => h) (Or.inr ⟨by rfl, rfl⟩) (by assumption) ?_
              simp only [Act.put, List.setIfInBounds_toArray, List.set_cons_zero, List.set_cons_succ]
              refine wpAnyH_take (i := 14) (oi := { dst := some 92, op := Op.load 3 (Operand.tmp 91), type := 3, pos := "plain.go:104", after := #[{ on := 13, ground := Ground.data }, { on := 12, ground := Ground.guard }], guard := some (12, true) }) rfl (by kernel_rfl) (by kernel_rfl) (by kernel_rfl) (fun _ _ _ h => h) (Or.inr ⟨by rfl, rfl⟩) (by assumption) ?_
              simp only [Act.put, List.setIfInBounds_toArray, List.set_cons_zero, List.set_cons_succ]
              refine wpAnyH_take (i := 15) (oi := { dst := some 93, op := Op.binOp BinOp.neq 3 (Operand.tmp 92) (Operand.const (Value.int IntKind.i64 0)) 3, type := 4, pos := "plain.go:104", after := #[{ on := 14, ground := Ground.data }, { on := 12, ground := Ground.guard }], guard := some (12, true) }) rfl (by kernel_rfl) (by kernel_rfl) (by kernel_rfl) (fun _ _ _ h => h) (Or.inr ⟨by rfl, rfl⟩) (by assumption) ?_
              simp only [Act.put, List.setIfInBounds_toArray, List.set_cons_zero, List.set_cons_succ]
              refine wpAnyH_take (i := 16) (oi := { dst := some 94, op := Op.move (Operand.tmp 93), type := 4, pos := "plain.go:104", after := #[{ on := 15, ground := Ground.data }, { on := 12, ground := Ground.chain }, { on := 12, ground := Ground.guard }], guard := some (12, true) }) rfl (by kernel_rfl) (by kernel_rfl) (by kernel_rfl) (fun _ _ _ h => h) (Or.inr ⟨by rfl, rfl⟩) (by assumption) ?_
              simp only [Act.put, List.setIfInBounds_toArray, List.set_cons_zero, List.set_cons_succ]
              refine wpAnyH_take (i := 17) (oi := { dst := some 95, op := Op.fieldAddr 42 (Operand.tmp 11) 2, type := 0, pos := "plain.go:104", after := #[{ on := 16, ground := Ground.guard }], guard := some (16, false) }) rfl (by kernel_rfl) (by kernel_rfl) (by kernel_rfl) (fun _ _ _ h => h) (Or.inr ⟨by rfl, rfl⟩) (by assumption) ?_
              simp only [Act.put, List.setIfInBounds_toArray, List.set_cons_zero, List.set_cons_succ]
              refine wpAnyH_take (i := 18) (oi := { dst := some 96, op := Op.load 32 (Operand.tmp 95), type := 32, pos := "plain.go:104", after := #[{ on := 17, ground := Ground.data }, { on := 16, ground := Ground.guard }], guard := some (16, false) }) rfl (by kernel_rfl) (by kernel_rfl) (by kernel_rfl) (fun _ _ _ h => h) (Or.inr ⟨by rfl, rfl⟩) (by assumption) ?_
              simp only [Act.put, List.setIfInBounds_toArray, List.set_cons_zero, List.set_cons_succ]
              refine wpAnyH_take (i := 19) (oi := { dst := some 97, op := Op.move (Operand.tmp 7), type := 45, pos := "plain.go:104", after := #[{ on := 16, ground := Ground.guard }], guard := some (16, false) }) rfl (by kernel_rfl) (by kernel_rfl) (by kernel_rfl) (fun _ _ _ h => h) (Or.inr ⟨by rfl, rfl⟩) (by assumption) ?_
              simp only [Act.put, List.setIfInBounds_toArray, List.set_cons_zero, List.set_cons_succ]
              refine wpAnyH_take (i := 20) (oi := { dst := some 98, op := Op.fieldAddr 40 (Operand.tmp 9) 1, type := 0, pos := "plain.go:104", after := #[{ on := 16, ground := Ground.guard }], guard := some (16, false) }) rfl (by kernel_rfl) (by kernel_rfl) (by kernel_rfl) (fun _ _ _ h => h) (Or.inr ⟨by rfl, rfl⟩) (by assumption) ?_
              simp only [Act.put, List.setIfInBounds_toArray, List.set_cons_zero, List.set_cons_succ]
              refine wpAnyH_take (i := 21) (oi := { dst := some 99, op := Op.load 9 (Operand.tmp 98), type := 9, pos := "plain.go:104", after := #[{ on := 20, ground := Ground.data }, { on := 16, ground := Ground.guard }], guard := some (16, false) }) rfl (by kernel_rfl) (by kernel_rfl) (by kernel_rfl) (fun _ _ _ h => h) (Or.inr ⟨by rfl, rfl⟩) (by assumption) ?_
              simp only [Act.put, List.setIfInBounds_toArray, List.set_cons_zero, List.set_cons_succ]
              refine wpAnyH_take (i := 22) (oi := { dst := some 100, op := Op.fieldAddr 40 (Operand.tmp 9) 2, type := 0, pos := "plain.go:104", after := #[{ on := 16, ground := Ground.guard }], guard := some (16, false) }) rfl (by kernel_rfl) (by kernel_rfl) (by kernel_rfl) (fun _ _ _ h => h) (Or.inr ⟨by rfl, rfl⟩) (by assumption) ?_
              simp only [Act.put, List.setIfInBounds_toArray, List.set_cons_zero, List.set_cons_succ]
              refine wpAnyH_take (i := 23) (oi := { dst := some 101, op := Op.load 3 (Operand.tmp 100), type := 3, pos := "plain.go:104", after := #[{ on := 22, ground := Ground.data }, { on := 16, ground := Ground.guard }], guard := some (16, false) }) rfl (by kernel_rfl) (by kernel_rfl) (by kernel_rfl) (fun _ _ _ h => h) (Or.inr ⟨by rfl, rfl⟩) (by assumption) ?_
              simp only [Act.put, List.setIfInBounds_toArray, List.set_cons_zero, List.set_cons_succ]
              refine wpAnyH_take (i := 24) (oi := { dst := some 102, op := Op.call { callee := Callee.value (Operand.func 24), args := #[Operand.tmp 97, Operand.tmp 99, Operand.tmp 101], argTypes := #[45, 9, 3] }, type := 32, pos := "plain.go:104", after := #[{ on := 19, ground := Ground.data }, { on := 21, ground := Ground.data }, { on := 23, ground := Ground.data }, { on := 16, ground := Ground.chain }, { on := 16, ground := Ground.guard }], guard := some (16, false) }) rfl (by kernel_rfl) (by kernel_rfl) (by kernel_rfl) (fun _ _ _ h => h) (Or.inr ⟨by rfl, rfl⟩) (by assumption) ?_
              simp only [Act.put, List.setIfInBounds_toArray, List.set_cons_zero, List.set_cons_succ]
              refine wpAnyH_take (i := 25) (oi := { dst := some 103, op := Op.call { callee := Callee.value (Operand.func 23), args := #[Operand.tmp 96, Operand.tmp 102], argTypes := #[32, 32] }, type := 4, pos := "plain.go:104", after := #[{ on := 18, ground := Ground.data }, { on := 24, ground := Ground.data }, { on := 24, ground := Ground.chain }, { on := 16, ground := Ground.guard }], guard := some (16, false) }) rfl (by kernel_rfl) (by kernel_rfl) (by kernel_rfl) (fun _ _ _ h => h) (Or.inr ⟨by rfl, rfl⟩) (by assumption) ?_
              simp only [Act.put, List.setIfInBounds_toArray, List.set_cons_zero, List.set_cons_succ]
              refine wpAnyH_take (i := 26) (oi := { dst := some 104, op := Op.unOp UnOp.not 4 (Operand.tmp 103), type := 4, pos := "plain.go:104", after := #[{ on := 25, ground := Ground.data }, { on := 16, ground := Ground.guard }], guard := some (16, false) }) rfl (by kernel_rfl) (by kernel_rfl) (by kernel_rfl) (fun _ _ _ h => h) (Or.inr ⟨by rfl, rfl⟩) (by assumption) ?_
              simp only [Act.put, List.setIfInBounds_toArray, List.set_cons_zero, List.set_cons_succ]
              refine wpAnyH_take (i := 27) (oi := { dst := some 105, op := Op.pick (Operand.tmp 94) (Operand.const (Value.bool true)) (Operand.tmp 104), type := 4, pos := "plain.go:104", after := #[{ on := 16, ground := Ground.data }, { on := 26, ground := Ground.data }, { on := 12, ground := Ground.guard }], guard := some (12, true) }) rfl (by kernel_rfl) (by kernel_rfl) (by kernel_rfl) (fun _ _ _ h => h) (Or.inr ⟨by rfl, rfl⟩) (by assumption) ?_
              simp only [Act.put, List.setIfInBounds_toArray, List.set_cons_zero, List.set_cons_succ]
              refine wpAnyH_take (i := 28) (oi := { dst := some 106, op := Op.pick (Operand.tmp 90) (Operand.tmp 105) (Operand.const (Value.bool false)), type := 4, pos := "plain.go:104", after := #[{ on := 12, ground := Ground.data }, { on := 27, ground := Ground.data }], guard := none }) (v := ?v33) rfl (by kernel_rfl) (by kernel_rfl) (by kernel_rfl) (fun _ _ _ h => h) (Or.inl ⟨by rfl, ?h33⟩) (by assumption) ?r33
              case h33 => (intro w0 hSw; (try dsimp only at hSw); go_simp; try (with_reducible rfl))
              simp only [Act.put, List.setIfInBounds_toArray, List.set_cons_zero, List.set_cons_succ]
              refine wpAnyH_done (by kernel_rfl) ?_ _
              obtain ⟨wy, hwy⟩ : ∃ wy, wy = wz.drew := ⟨_, rfl⟩
              rw [← hwy]
              have bY : Below wz.heap.size wz wy := by rw [hwy]; exact (Below.refl _ wz).drew
              have HZ2 := Hid.mk (HZZ.out.below bY)
              obtain ⟨-, y1, y2, y3, y4⟩ := HSS.out _ bY
              clear z1 z2 z3 z4 HZZ HQ HSS HMM bY hwy 
              have z1 := y1
              have z2 := y2
              have z3 := y3
              have z4 := y4
              clear y1 y2 y3 y4
              have HZZ := HZ2
              clear HZ2
              go_wp2_with fail
              have HMM := Hid.mk HA.out.2.2.2.1
              have HQ := Hid.mk (HZZ.out.asks (HW.out) hW0 s (by have := HMM.out; omega))
              rw [← HMM.out] at HQ
              have HSS := Hid.mk (show ∀ w', Below wy.heap.size wy w' → (Below wy.heap.size wy w' ∧ w'.cell? ⟨gb, 1, none⟩ = some (.string s) ∧ w'.cell? ⟨gb, 2, none⟩ = some (.int .i64 N) ∧ w'.cell? ⟨gw, 1, none⟩ = some (.int .i64 e) ∧ w'.cell? ⟨gw, 2, none⟩ = some (.slice va len vc)) from fun w' b => ⟨b, cell_lat b z1, cell_lat b z2, cell_lat b z3, cell_lat b z4⟩)
              refine wp_region_held_drew (S := fun w' => Below wy.heap.size wy w' ∧ w'.cell? ⟨gb, 1, none⟩ = some (.string s) ∧ w'.cell? ⟨gb, 2, none⟩ = some (.int .i64 N) ∧ w'.cell? ⟨gw, 1, none⟩ = some (.int .i64 e) ∧ w'.cell? ⟨gw, 2, none⟩ = some (.slice va len vc)) (by kernel_rfl) ?_ (fun hHeld => ?_)
              · exact ⟨(Below.refl _ wy).drew, z1, z2, z3, z4⟩
              refine wpAnyH_take (i := 0) (oi := { dst := some 139, op := Op.move (Operand.tmp 6), type := 24, pos := "plain.go:112", after := #[], guard := none }) (v := ?v34) rfl (by kernel_rfl) (by kernel_rfl) (by kernel_rfl) (fun _ _ _ h => h) (Or.inl ⟨by rfl, ?h34⟩) (by assumption) ?r34
              case h34 => (intro w0 hSw; (try dsimp only at hSw); go_simp; try (with_reducible rfl))
              simp only [Act.put, List.setIfInBounds_toArray, List.set_cons_zero, List.set_cons_succ]
              refine wpAnyH_take (i := 2) (oi := { dst := some 141, op := Op.move (Operand.tmp 7), type := 45, pos := "plain.go:112", after := #[], guard := none }) (v := ?v35) rfl (by kernel_rfl) (by kernel_rfl) (by kernel_rfl) (fun _ _ _ h => h) (Or.inl ⟨by rfl, ?h35⟩) (by assumption) ?r35
              case h35 => (intro w0 hSw; (try dsimp only at hSw); go_simp; try (with_reducible rfl))
              simp only [Act.put, List.setIfInBounds_toArray, List.set_cons_zero, List.set_cons_succ]
              refine wpAnyH_take (i := 3) (oi := { dst := some 142, op := Op.call { callee := Callee.builtin Builtin.len, args := #[Operand.tmp 141], argTypes := #[45] }, type := 3, pos := "plain.go:112", after := #[{ on := 2, ground := Ground.data }], guard := none }) (v := ?v36) rfl (by kernel_rfl) (by kernel_rfl) (by kernel_rfl) (fun _ _ _ h => h) (Or.inl ⟨by rfl, ?h36⟩) (by assumption) ?r36
              case h36 => (intro w0 hSw; (try dsimp only at hSw); go_simp; try (with_reducible rfl))
              simp only [Act.put, List.setIfInBounds_toArray, List.set_cons_zero, List.set_cons_succ]
              refine wpAnyH_ready (rs := [1]) (by kernel_rfl) (by simp) ?_
              refine AllReadyH.cons rfl (fun K hK => ?_) AllReadyH.nil
              go_simp
              go_wp2_with (go_at_call 18; refine (HQ.out.1 _ (Below.refl _ wy).drew).mono ?_; rintro e' w' ⟨rfl, he'⟩; subst he'; have bL := (Below.refl wy.heap.size wy).drew)
              refine hK.out _ _ ?_ (fun hHeld => ?_)
              · exact HSS.out _ (by assumption)
              clear hK K
              refine wpAnyH_take (i := 4) (oi := { dst := some 143, op := Op.binOp BinOp.neq 3 (Operand.tmp 140) (Operand.tmp 142) 3, type := 4, pos := "plain.go:112", after := #[{ on := 1, ground := Ground.data }, { on := 3, ground := Ground.data }], guard := none }) (v := ?v37) rfl (by kernel_rfl) (by kernel_rfl) (by kernel_rfl) (fun _ _ _ h => h) (Or.inl ⟨by rfl, ?h37⟩) (by assumption) ?r37
              case h37 => (intro w0 hSw; (try dsimp only at hSw); go_simp; try (with_reducible rfl))
              simp only [Act.put, List.setIfInBounds_toArray, List.set_cons_zero, List.set_cons_succ]
              refine wpAnyH_take (i := 5) (oi := { dst := some 144, op := Op.move (Operand.tmp 143), type := 4, pos := "plain.go:112", after := #[{ on := 4, ground := Ground.data }, { on := 1, ground := Ground.chain }], guard := none }) (v := ?v38) rfl (by kernel_rfl) (by kernel_rfl) (by kernel_rfl) (fun _ _ _ h => h) (Or.inl ⟨by rfl, ?h38⟩) (by assumption) ?r38
              case h38 => (intro w0 hSw; (try dsimp only at hSw); go_simp; try (with_reducible rfl))
              simp only [Act.put, List.setIfInBounds_toArray, List.set_cons_zero, List.set_cons_succ]
              refine wpAnyH_take (i := 6) (oi := { dst := some 145, op := Op.move (Operand.tmp 6), type := 24, pos := "plain.go:112", after := #[{ on := 5, ground := Ground.guard }], guard := some (5, false) }) (v := ?v39) rfl (by kernel_rfl) (by kernel_rfl) (by kernel_rfl) (fun _ _ _ h => h) (Or.inl ⟨by rfl, ?h39⟩) (by assumption) ?r39
              case h39 => (intro w0 hSw; (try dsimp only at hSw); go_simp; try (with_reducible rfl))
              simp only [Act.put, List.setIfInBounds_toArray, List.set_cons_zero, List.set_cons_succ]
              refine wpAnyH_take (i := 7) (oi := { dst := some 146, op := Op.fieldAddr 40 (Operand.tmp 9) 1, type := 0, pos := "plain.go:112", after := #[{ on := 5, ground := Ground.guard }], guard := some (5, false) }) (v := ?v40) rfl (by kernel_rfl) (by kernel_rfl) (by kernel_rfl) (fun _ _ _ h => h) (Or.inl ⟨by rfl, ?h40⟩) (by assumption) ?r40
              case h40 => (intro w0 hSw; (try dsimp only at hSw); go_simp; try (with_reducible rfl))
              simp only [Act.put, List.setIfInBounds_toArray, List.set_cons_zero, List.set_cons_succ]
              refine wpAnyH_take (i := 8) (oi := { dst := some 147, op := Op.load 9 (Operand.tmp 146), type := 9, pos := "plain.go:112", after := #[{ on := 7, ground := Ground.data }, { on := 5, ground := Ground.guard }], guard := some (5, false) }) (v := ?v41) rfl (by kernel_rfl) (by kernel_rfl) (by kernel_rfl) (fun _ _ _ h => h) (Or.inl ⟨by rfl, ?h41⟩) (by assumption) ?r41
              case h41 => (intro w0 hSw; (try dsimp only at hSw); go_simp; try (with_reducible rfl))
              simp only [Act.put, List.setIfInBounds_toArray, List.set_cons_zero, List.set_cons_succ]
              refine wpAnyH_take (i := 10) (oi := { dst := some 149, op := Op.move (Operand.tmp 7), type := 45, pos := "plain.go:112", after := #[{ on := 5, ground := Ground.guard }], guard := some (5, false) }) (v := ?v42) rfl (by kernel_rfl) (by kernel_rfl) (by kernel_rfl) (fun _ _ _ h => h) (Or.inl ⟨by rfl, ?h42⟩) (by assumption) ?r42
              case h42 => (intro w0 hSw; (try dsimp only at hSw); go_simp; try (with_reducible rfl))
              simp only [Act.put, List.setIfInBounds_toArray, List.set_cons_zero, List.set_cons_succ]
              refine wpAnyH_take (i := 11) (oi := { dst := some 150, op := Op.fieldAddr 40 (Operand.tmp 9) 1, type := 0, pos := "plain.go:112", after := #[{ on := 5, ground := Ground.guard }], guard := some (5, false) }) (v := ?v43) rfl (by kernel_rfl) (by kernel_rfl) (by kernel_rfl) (fun _ _ _ h => h) (Or.inl ⟨by rfl, ?h43⟩) (by assumption) ?r43
              case h43 => (intro w0 hSw; (try dsimp only at hSw); go_simp; try (with_reducible rfl))
              simp only [Act.put, List.setIfInBounds_toArray, List.set_cons_zero, List.set_cons_succ]
              refine wpAnyH_take (i := 12) (oi := { dst := some 151, op := Op.load 9 (Operand.tmp 150), type := 9, pos := "plain.go:112", after := #[{ on := 11, ground := Ground.data }, { on := 5, ground := Ground.guard }], guard := some (5, false) }) (v := ?v44) rfl (by kernel_rfl) (by kernel_rfl) (by kernel_rfl) (fun _ _ _ h => h) (Or.inl ⟨by rfl, ?h44⟩) (by assumption) ?r44
              case h44 => (intro w0 hSw; (try dsimp only at hSw); go_simp; try (with_reducible rfl))
              simp only [Act.put, List.setIfInBounds_toArray, List.set_cons_zero, List.set_cons_succ]
              refine wpAnyH_ready (rs := [9]) (by kernel_rfl) (by simp) ?_
              refine AllReadyH.cons rfl (fun K hK => ?_) AllReadyH.nil
              go_simp
              go_wp2_with (go_at_call 15; refine (HQ.out.2.1 _ (by assumption)).mono ?_; rintro e' wh ⟨bh, rfl, b5, hbh⟩)
              refine hK.out _ _ ?_ (fun hHeld => ?_)
              · exact HSS.out _ (by assumption)
              clear hK K
              clear bL
              refine wpAnyH_ready (rs := [13]) (by kernel_rfl) (by simp) ?_
              refine AllReadyH.cons rfl (fun K hK => ?_) AllReadyH.nil
              go_simp
              go_wp2_with (go_at_call 26; refine (HQ.out.2.2 _ (by assumption)).mono ?_; rintro e' wo ⟨bo, rfl, b6, hbo⟩; obtain rfl : bh = bo := bool_iff hbh hbo)
              refine hK.out _ _ ?_ (fun hHeld => ?_)
              · exact HSS.out _ (by assumption)
              clear hK K
              clear b5
              refine wpAnyH_take (i := 14) (oi := { dst := some 153, op := Op.binOp BinOp.neq 4 (Operand.tmp 148) (Operand.tmp 152) 4, type := 4, pos := "plain.go:112", after := #[{ on := 9, ground := Ground.data }, { on := 13, ground := Ground.data }, { on := 5, ground := Ground.guard }], guard := some (5, false) }) (v := ?v45) rfl (by kernel_rfl) (by kernel_rfl) (by kernel_rfl) (fun _ _ _ h => h) (Or.inl ⟨by rfl, ?h45⟩) (by assumption) ?r45
              case h45 => (intro w0 hSw; (try dsimp only at hSw); go_simp; try (with_reducible rfl))
              simp only [Act.put, List.setIfInBounds_toArray, List.set_cons_zero, List.set_cons_succ]
              refine wpAnyH_take (i := 15) (oi := { dst := some 154, op := Op.pick (Operand.tmp 144) (Operand.const (Value.bool true)) (Operand.tmp 153), type := 4, pos := "plain.go:112", after := #[{ on := 5, ground := Ground.data }, { on := 14, ground := Ground.data }], guard := none }) (v := ?v46) rfl (by kernel_rfl) (by kernel_rfl) (by kernel_rfl) (fun _ _ _ h => h) (Or.inl ⟨by rfl, ?h46⟩) (by assumption) ?r46
              case h46 => (intro w0 hSw; (try dsimp only at hSw); go_simp; try (with_reducible rfl))
              simp only [Act.put, List.setIfInBounds_toArray, List.set_cons_zero, List.set_cons_succ]
              refine wpAnyH_done (by kernel_rfl) ?_ _
              go_wp2_with fail
              exact ⟨⟨i + 1, T', bs', ms', x', nxtA 4 s A, by push_cast; rfl, hlt, Hid.mk (by have := HZZ.out.below (by assumption); rw [← HMM.out] at this; exact this)⟩, by simp only [intOf]; omega⟩
        by_cases hK5 : K = 5
        · subst hK5
          by_cases hs : s.size = n
          · by_cases hN0 : 0 ≤ N
            · by_cases hN1 : N ≤ 4096
              · as_aux_lemma =>
                  obtain ⟨rfl, hcase0⟩ := HK.out.2.2.2 rfl hs hN0 hN1
                  obtain ⟨N', rfl⟩ : ∃ N' : Nat, N = N' := ⟨N.toNat, by omega⟩
                  rw [Int.toNat_natCast] at hcase0
                  obtain ⟨q, hq, hcase⟩ : ∃ q : Cd n, q.1 = s ∧ (((N' : Nat) : Int) = 0 ∧ len = 0 ∨ 1 ≤ ((N' : Nat) : Int) ∧ len = (ansL N' w8 q (lives T')).length ∧ HAt w4 va (ansL N' w8 q (lives T'))) := ⟨⟨s, hs⟩, rfl, hcase0⟩
                  have HS1 := Hid.mk hq
                  have HSZ := Hid.mk hcase
                  have hf1 : (((s.size : Nat) : Int) == (n : Int)) = true := by simpa using (by omega : ((s.size : Nat) : Int) = (n : Int))
                  have n0 : (0 : Int) ≤ ((N' : Nat) : Int) := hN0
                  have n1 : ((N' : Nat) : Int) ≤ 4096 := hN1
                  have n2 : N' ≤ 4096 := by omega
                  have n3 : decide (((N' : Nat) : Int) ≤ 4096) = true := by simp; omega
                  have n4 : decide (N' ≤ 4096) = true := by simp; omega
                  clear hcase0 hs hN0 hN1 hcase hq
                  go_wp2_with fail
                  obtain ⟨wz, hwz⟩ : ∃ wz, wz = w4.alloc (.cells #[.bool y, .int .i64 0, .slice va len vc, .int .i64 q1, .int .i64 q2, .int .i64 q3, .int .i64 q4] 42) := ⟨_, rfl⟩
                  rw [← hwz]
                  rw [← hwz] at HGB e0 e1 e2
                  have z3 : wz.cell? ⟨w4.heap.size, 1, none⟩ = some (.int .i64 0) := by rw [hwz]; go_simp
                  have z4 : wz.cell? ⟨w4.heap.size, 2, none⟩ = some (.slice va len vc) := by rw [hwz]; go_simp
                  obtain ⟨gw, hgw⟩ : ∃ gw, gw = w4.heap.size := ⟨_, rfl⟩
                  rw [← hgw] at z3 z4 ⊢
                  have z1 := e1
                  have z2 := e2
                  have HZZ := Hid.mk (HZ.out.below HGB.out)
                  clear hwz hgw e0 e1 e2 d0 d1 d2
                  have HMM := Hid.mk HA.out.2.2.2.1
                  have HQ := Hid.mk (HZZ.out.asks (HW.out) hW0 s (by have := HMM.out; omega))
                  rw [← HMM.out] at HQ
                  have HSS := Hid.mk (show ∀ w', Below wz.heap.size wz w' → (Below wz.heap.size wz w' ∧ w'.cell? ⟨gb, 1, none⟩ = some (.string s) ∧ w'.cell? ⟨gb, 2, none⟩ = some (.int .i64 (N' : Nat)) ∧ w'.cell? ⟨gw, 1, none⟩ = some (.int .i64 0) ∧ w'.cell? ⟨gw, 2, none⟩ = some (.slice va len vc)) from fun w' b => ⟨b, cell_lat b z1, cell_lat b z2, cell_lat b z3, cell_lat b z4⟩)
                  have HY := Hid.mk (HZZ.out.scans (HW.out) hW0 q HS1.out w8 n8 (by have := HMM.out; omega))
                  rw [← HMM.out] at HY
                  have HCS := Hid.mk (HSZ.out.imp id (fun h => And.intro h.1 (And.intro h.2.1 (h.2.2.below HGB.out))))
                  refine wp_region_held_drew (S := fun w' => Below wz.heap.size wz w' ∧ w'.cell? ⟨gb, 1, none⟩ = some (.string s) ∧ w'.cell? ⟨gb, 2, none⟩ = some (.int .i64 (N' : Nat)) ∧ w'.cell? ⟨gw, 1, none⟩ = some (.int .i64 0) ∧ w'.cell? ⟨gw, 2, none⟩ = some (.slice va len vc)) (by kernel_rfl) ?_ (fun hHeld => ?_)
                  · exact ⟨(Below.refl _ wz).drew, z1, z2, z3, z4⟩
                  refine wpAnyH_take (i := 0) (oi := { dst := some 109, op := Op.move (Operand.tmp 12), type := 4, pos := "plain.go:108", after := #[], guard := none }) (v := ?v206) rfl (by kernel_rfl) (by kernel_rfl) (by kernel_rfl) (fun _ _ _ h => h) (Or.inl ⟨by rfl, ?h206⟩) (by assumption) ?r206
                  case h206 => (intro w0 hSw; (try dsimp only at hSw); go_simp; try (with_reducible rfl))
                  simp only [Act.put, List.setIfInBounds_toArray, List.set_cons_zero, List.set_cons_succ]
                  refine wpAnyH_take (i := 1) (oi := { dst := some 110, op := Op.move (Operand.tmp 109), type := 4, pos := "plain.go:108", after := #[{ on := 0, ground := Ground.data }], guard := none }) (v := ?v207) rfl (by kernel_rfl) (by kernel_rfl) (by kernel_rfl) (fun _ _ _ h => h) (Or.inl ⟨by rfl, ?h207⟩) (by assumption) ?r207
                  case h207 => (intro w0 hSw; (try dsimp only at hSw); go_simp; try (with_reducible rfl))
                  simp only [Act.put, List.setIfInBounds_toArray, List.set_cons_zero, List.set_cons_succ]
                  refine wpAnyH_take (i := 2) (oi := { dst := some 111, op := Op.fieldAddr 40 (Operand.tmp 9) 2, type := 0, pos := "plain.go:108", after := #[{ on := 1, ground := Ground.guard }], guard := some (1, true) }) (v := ?v208) rfl (by kernel_rfl) (by kernel_rfl) (by kernel_rfl) (fun _ _ _ h => h) (Or.inl ⟨by rfl, ?h208⟩) (by assumption) ?r208
                  case h208 => (intro w0 hSw; (try dsimp only at hSw); go_simp; try (with_reducible rfl))
                  simp only [Act.put, List.setIfInBounds_toArray, List.set_cons_zero, List.set_cons_succ]
                  refine wpAnyH_take (i := 3) (oi := { dst := some 112, op := Op.load 3 (Operand.tmp 111), type := 3, pos := "plain.go:108", after := #[{ on := 2, ground := Ground.data }, { on := 1, ground := Ground.guard }], guard := some (1, true) }) (v := ?v209) rfl (by kernel_rfl) (by kernel_rfl) (by kernel_rfl) (fun _ _ _ h => h) (Or.inl ⟨by rfl, ?h209⟩) (by assumption) ?r209
                  case h209 => (intro w0 hSw; (try dsimp only at hSw); go_simp; try (with_reducible rfl))
                  simp only [Act.put, List.setIfInBounds_toArray, List.set_cons_zero, List.set_cons_succ]
                  refine wpAnyH_take (i := 4) (oi := { dst := some 113, op := Op.binOp BinOp.geq 3 (Operand.tmp 112) (Operand.const (Value.int IntKind.i64 0)) 3, type := 4, pos := "plain.go:108", after := #[{ on := 3, ground := Ground.data }, { on := 1, ground := Ground.guard }], guard := some (1, true) }) (v := ?v210) rfl (by kernel_rfl) (by kernel_rfl) (by kernel_rfl) (fun _ _ _ h => h) (Or.inl ⟨by rfl, ?h210⟩) (by assumption) ?r210
                  case h210 => (intro w0 hSw; (try dsimp only at hSw); go_simp; try (with_reducible rfl))
                  simp only [Act.put, List.setIfInBounds_toArray, List.set_cons_zero, List.set_cons_succ]
                  refine wpAnyH_take (i := 5) (oi := { dst := some 114, op := Op.pick (Operand.tmp 110) (Operand.tmp 113) (Operand.const (Value.bool false)), type := 4, pos := "plain.go:108", after := #[{ on := 1, ground := Ground.data }, { on := 4, ground := Ground.data }], guard := none }) (v := ?v211) rfl (by kernel_rfl) (by kernel_rfl) (by kernel_rfl) (fun _ _ _ h => h) (Or.inl ⟨by rfl, ?h211⟩) (by assumption) ?r211
                  case h211 => (intro w0 hSw; (try dsimp only at hSw); go_simp; try (with_reducible rfl))
                  simp only [Act.put, List.setIfInBounds_toArray, List.set_cons_zero, List.set_cons_succ]
                  refine wpAnyH_take (i := 6) (oi := { dst := some 115, op := Op.move (Operand.tmp 114), type := 4, pos := "plain.go:108", after := #[{ on := 5, ground := Ground.data }, { on := 1, ground := Ground.chain }], guard := none }) (v := ?v212) rfl (by kernel_rfl) (by kernel_rfl) (by kernel_rfl) (fun _ _ _ h => h) (Or.inl ⟨by rfl, ?h212⟩) (by assumption) ?r212
                  case h212 => (intro w0 hSw; (try dsimp only at hSw); go_simp; try (with_reducible rfl))
                  simp only [Act.put, List.setIfInBounds_toArray, List.set_cons_zero, List.set_cons_succ]
                  refine wpAnyH_take (i := 7) (oi := { dst := some 116, op := Op.fieldAddr 40 (Operand.tmp 9) 2, type := 0, pos := "plain.go:108", after := #[{ on := 6, ground := Ground.guard }], guard := some (6, true) }) (v := ?v213) rfl (by kernel_rfl) (by kernel_rfl) (by kernel_rfl) (fun _ _ _ h => h) (Or.inl ⟨by rfl, ?h213⟩) (by assumption) ?r213
                  case h213 => (intro w0 hSw; (try dsimp only at hSw); go_simp; try (with_reducible rfl))
                  simp only [Act.put, List.setIfInBounds_toArray, List.set_cons_zero, List.set_cons_succ]
                  refine wpAnyH_take (i := 8) (oi := { dst := some 117, op := Op.load 3 (Operand.tmp 116), type := 3, pos := "plain.go:108", after := #[{ on := 7, ground := Ground.data }, { on := 6, ground := Ground.guard }], guard := some (6, true) }) (v := ?v214) rfl (by kernel_rfl) (by kernel_rfl) (by kernel_rfl) (fun _ _ _ h => h) (Or.inl ⟨by rfl, ?h214⟩) (by assumption) ?r214
                  case h214 => (intro w0 hSw; (try dsimp only at hSw); go_simp; try (with_reducible rfl))
                  simp only [Act.put, List.setIfInBounds_toArray, List.set_cons_zero, List.set_cons_succ]
                  refine wpAnyH_take (i := 9) (oi := { dst := some 118, op := Op.binOp BinOp.leq 3 (Operand.tmp 117) (Operand.const (Value.int IntKind.i64 4096)) 3, type := 4, pos := "plain.go:108", after := #[{ on := 8, ground := Ground.data }, { on := 6, ground := Ground.guard }], guard := some (6, true) }) (v := ?v215) rfl (by kernel_rfl) (by kernel_rfl) (by kernel_rfl) (fun _ _ _ h => h) (Or.inl ⟨by rfl, ?h215⟩) (by assumption) ?r215
                  case h215 => (intro w0 hSw; (try dsimp only at hSw); go_simp; try (with_reducible rfl))
                  simp only [Act.put, List.setIfInBounds_toArray, List.set_cons_zero, List.set_cons_succ]
                  refine wpAnyH_take (i := 10) (oi := { dst := some 119, op := Op.pick (Operand.tmp 115) (Operand.tmp 118) (Operand.const (Value.bool false)), type := 4, pos := "plain.go:108", after := #[{ on := 6, ground := Ground.data }, { on := 9, ground := Ground.data }], guard := none }) (v := ?v216) rfl (by kernel_rfl) (by kernel_rfl) (by kernel_rfl) (fun _ _ _ h => h) (Or.inl ⟨by rfl, ?h216⟩) (by assumption) ?r216
                  case h216 => (intro w0 hSw; (try dsimp only at hSw); go_simp; try (with_reducible rfl))
                  simp only [Act.put, List.setIfInBounds_toArray, List.set_cons_zero, List.set_cons_succ]
                  refine wpAnyH_take (i := 11) (oi := { dst := some 120, op := Op.move (Operand.tmp 119), type := 4, pos := "plain.go:108", after := #[{ on := 10, ground := Ground.data }, { on := 6, ground := Ground.chain }], guard := none }) (v := ?v217) rfl (by kernel_rfl) (by kernel_rfl) (by kernel_rfl) (fun _ _ _ h => h) (Or.inl ⟨by rfl, ?h217⟩) (by assumption) ?r217
                  case h217 => (intro w0 hSw; (try dsimp only at hSw); go_simp; try (with_reducible rfl))
                  simp only [Act.put, List.setIfInBounds_toArray, List.set_cons_zero, List.set_cons_succ]
                  refine wpAnyH_take (i := 12) (oi := { dst := some 121, op := Op.fieldAddr 42 (Operand.tmp 11) 1, type := 0, pos := "plain.go:108", after := #[{ on := 11, ground := Ground.guard }], guard := some (11, true) }) (v := ?v218) rfl (by kernel_rfl) (by kernel_rfl) (by kernel_rfl) (fun _ _ _ h => h) (Or.inl ⟨by rfl, ?h218⟩) (by assumption) ?r218
                  case h218 => (intro w0 hSw; (try dsimp only at hSw); go_simp; try (with_reducible rfl))
                  simp only [Act.put, List.setIfInBounds_toArray, List.set_cons_zero, List.set_cons_succ]
                  refine wpAnyH_take (i := 13) (oi := { dst := some 122, op := Op.load 3 (Operand.tmp 121), type := 3, pos := "plain.go:108", after := #[{ on := 12, ground := Ground.data }, { on := 11, ground := Ground.guard }], guard := some (11, true) }) (v := ?v219) rfl (by kernel_rfl) (by kernel_rfl) (by kernel_rfl) (fun _ _ _ h => h) (Or.inl ⟨by rfl, ?h219⟩) (by assumption) ?r219
                  case h219 => (intro w0 hSw; (try dsimp only at hSw); go_simp; try (with_reducible rfl))
                  simp only [Act.put, List.setIfInBounds_toArray, List.set_cons_zero, List.set_cons_succ]
                  refine wpAnyH_take (i := 14) (oi := { dst := some 123, op := Op.binOp BinOp.neq 3 (Operand.tmp 122) (Operand.const (Value.int IntKind.i64 0)) 3, type := 4, pos := "plain.go:108", after := #[{ on := 13, ground := Ground.data }, { on := 11, ground := Ground.guard }], guard := some (11, true) }) (v := ?v220) rfl (by kernel_rfl) (by kernel_rfl) (by kernel_rfl) (fun _ _ _ h => h) (Or.inl ⟨by rfl, ?h220⟩) (by assumption) ?r220
                  case h220 => (intro w0 hSw; (try dsimp only at hSw); go_simp; try (with_reducible rfl))
                  simp only [Act.put, List.setIfInBounds_toArray, List.set_cons_zero, List.set_cons_succ]
                  refine wpAnyH_take (i := 15) (oi := { dst := some 124, op := Op.move (Operand.tmp 123), type := 4, pos := "plain.go:108", after := #[{ on := 14, ground := Ground.data }, { on := 11, ground := Ground.chain }, { on := 11, ground := Ground.guard }], guard := some (11, true) }) (v := ?v221) rfl (by kernel_rfl) (by kernel_rfl) (by kernel_rfl) (fun _ _ _ h => h) (Or.inl ⟨by rfl, ?h221⟩) (by assumption) ?r221
                  case h221 => (intro w0 hSw; (try dsimp only at hSw); go_simp; try (with_reducible rfl))
                  simp only [Act.put, List.setIfInBounds_toArray, List.set_cons_zero, List.set_cons_succ]
                  refine wpAnyH_take (i := 16) (oi := { dst := some 125, op := Op.fieldAddr 42 (Operand.tmp 11) 2, type := 0, pos := "plain.go:108", after := #[{ on := 15, ground := Ground.guard }], guard := some (15, false) }) (v := ?v222) rfl (by kernel_rfl) (by kernel_rfl) (by kernel_rfl) (fun _ _ _ h => h) (Or.inl ⟨by rfl, ?h222⟩) (by assumption) ?r222
                  case h222 => (intro w0 hSw; (try dsimp only at hSw); go_simp; try (with_reducible rfl))
                  simp only [Act.put, List.setIfInBounds_toArray, List.set_cons_zero, List.set_cons_succ]
                  refine wpAnyH_take (i := 17) (oi := { dst := some 126, op := Op.load 32 (Operand.tmp 125), type := 32, pos := "plain.go:108", after := #[{ on := 16, ground := Ground.data }, { on := 15, ground := Ground.guard }], guard := some (15, false) }) (v := ?v223) rfl (by kernel_rfl) (by kernel_rfl) (by kernel_rfl) (fun _ _ _ h => h) (Or.inl ⟨by rfl, ?h223⟩) (by assumption) ?r223
                  case h223 => (intro w0 hSw; (try dsimp only at hSw); go_simp; try (with_reducible rfl))
                  simp only [Act.put, List.setIfInBounds_toArray, List.set_cons_zero, List.set_cons_succ]
                  refine wpAnyH_take (i := 18) (oi := { dst := some 127, op := Op.move (Operand.tmp 7), type := 45, pos := "plain.go:108", after := #[{ on := 15, ground := Ground.guard }], guard := some (15, false) }) (v := ?v224) rfl (by kernel_rfl) (by kernel_rfl) (by kernel_rfl) (fun _ _ _ h => h) (Or.inl ⟨by rfl, ?h224⟩) (by assumption) ?r224
                  case h224 => (intro w0 hSw; (try dsimp only at hSw); go_simp; try (with_reducible rfl))
                  simp only [Act.put, List.setIfInBounds_toArray, List.set_cons_zero, List.set_cons_succ]
                  refine wpAnyH_take (i := 19) (oi := { dst := some 128, op := Op.fieldAddr 40 (Operand.tmp 9) 1, type := 0, pos := "plain.go:108", after := #[{ on := 15, ground := Ground.guard }], guard := some (15, false) }) (v := ?v225) rfl (by kernel_rfl) (by kernel_rfl) (by kernel_rfl) (fun _ _ _ h => h) (Or.inl ⟨by rfl, ?h225⟩) (by assumption) ?r225
                  case h225 => (intro w0 hSw; (try dsimp only at hSw); go_simp; try (with_reducible rfl))
                  simp only [Act.put, List.setIfInBounds_toArray, List.set_cons_zero, List.set_cons_succ]
                  refine wpAnyH_take (i := 20) (oi := { dst := some 129, op := Op.load 9 (Operand.tmp 128), type := 9, pos := "plain.go:108", after := #[{ on := 19, ground := Ground.data }, { on := 15, ground := Ground.guard }], guard := some (15, false) }) (v := ?v226) rfl (by kernel_rfl) (by kernel_rfl) (by kernel_rfl) (fun _ _ _ h => h) (Or.inl ⟨by rfl, ?h226⟩) (by assumption) ?r226
                  case h226 => (intro w0 hSw; (try dsimp only at hSw); go_simp; try (with_reducible rfl))
                  simp only [Act.put, List.setIfInBounds_toArray, List.set_cons_zero, List.set_cons_succ]
                  refine wpAnyH_take (i := 21) (oi := { dst := some 130, op := Op.move (Operand.tmp 0), type := 3, pos := "plain.go:108", after := #[{ on := 15, ground := Ground.guard }], guard := some (15, false) }) (v := ?v227) rfl (by kernel_rfl) (by kernel_rfl) (by kernel_rfl) (fun _ _ _ h => h) (Or.inl ⟨by rfl, ?h227⟩) (by assumption) ?r227
                  case h227 => (intro w0 hSw; (try dsimp only at hSw); go_simp; try (with_reducible rfl))
                  simp only [Act.put, List.setIfInBounds_toArray, List.set_cons_zero, List.set_cons_succ]
                  refine wpAnyH_take (i := 23) (oi := { dst := some 132, op := Op.fieldAddr 40 (Operand.tmp 9) 2, type := 0, pos := "plain.go:108", after := #[{ on := 15, ground := Ground.guard }], guard := some (15, false) }) (v := ?v228) rfl (by kernel_rfl) (by kernel_rfl) (by kernel_rfl) (fun _ _ _ h => h) (Or.inl ⟨by rfl, ?h228⟩) (by assumption) ?r228
                  case h228 => (intro w0 hSw; (try dsimp only at hSw); go_simp; try (with_reducible rfl))
                  simp only [Act.put, List.setIfInBounds_toArray, List.set_cons_zero, List.set_cons_succ]
                  refine wpAnyH_take (i := 24) (oi := { dst := some 133, op := Op.load 3 (Operand.tmp 132), type := 3, pos := "plain.go:108", after := #[{ on := 23, ground := Ground.data }, { on := 15, ground := Ground.guard }], guard := some (15, false) }) (v := ?v229) rfl (by kernel_rfl) (by kernel_rfl) (by kernel_rfl) (fun _ _ _ h => h) (Or.inl ⟨by rfl, ?h229⟩) (by assumption) ?r229
                  case h229 => (intro w0 hSw; (try dsimp only at hSw); go_simp; try (with_reducible rfl))
                  simp only [Act.put, List.setIfInBounds_toArray, List.set_cons_zero, List.set_cons_succ]
                  refine wpAnyH_ready (rs := [22]) (by kernel_rfl) (by simp) ?_
                  refine AllReadyH.cons rfl (fun K hK => ?_) AllReadyH.nil
                  go_simp
                  go_wp2_with (go_at_call 24; refine (HY.out _ (Below.refl _ wz).drew).mono ?_; rintro e' w6 ⟨sv, L, rfl, b6, r6, hsc⟩; have b60 : Below wz.heap.size wz w6 := (Below.refl _ wz).drew.trans (b6.mono (Nat.le_refl _)); obtain ⟨av, lv, cv, rfl, hfirst⟩ := first5 r6 (by have := hsc.len; have := HMM.out; omega) N'; have HSC := Hid.mk hsc; clear r6 hsc b6)
                  refine hK.out _ _ ?_ (fun hHeld => ?_)
                  · exact HSS.out _ (by assumption)
                  clear hK K
                  refine wpAnyH_ready (rs := [25]) (by kernel_rfl) (by simp) ?_
                  refine AllReadyH.cons rfl (fun K hK => ?_) AllReadyH.nil
                  go_simp
                  go_wp2_with (go_at_call 25; refine hfirst.mono ?_; rintro e' w7 ⟨a7, c7, y7, rfl, b7, hat7, hx7⟩; have b70 : Below wz.heap.size wz w7 := b60.trans (b7.below _); obtain ⟨hy7, hsame⟩ := same5 (vc := vc) (c' := c7) HZZ.out HCS.out HSC.out b70 hx7 hat7; have hy8 := hy7.symm; clear hy7; subst hy8; clear hat7 hx7 b60)
                  refine hK.out _ _ ?_ (fun hHeld => ?_)
                  · exact HSS.out _ (by assumption)
                  clear hK K
                  refine wpAnyH_ready (rs := [26]) (by kernel_rfl) (by simp) ?_
                  refine AllReadyH.cons rfl (fun K hK => ?_) AllReadyH.nil
                  go_simp
                  go_wp2_with (go_at_call 23; refine hsame.mono ?_; rintro e' w8' ⟨rfl, b8⟩; have b80 : Below wz.heap.size wz w8' := b70.trans (b8.below _))
                  refine hK.out _ _ ?_ (fun hHeld => ?_)
                  · exact HSS.out _ (by assumption)
                  clear hK K
                  refine wpAnyH_take (i := 27) (oi := { dst := some 136, op := Op.unOp UnOp.not 4 (Operand.tmp 135), type := 4, pos := "plain.go:108", after := #[{ on := 26, ground := Ground.data }, { on := 15, ground := Ground.guard }], guard := some (15, false) }) (v := ?v230) rfl (by kernel_rfl) (by kernel_rfl) (by kernel_rfl) (fun _ _ _ h => h) (Or.inl ⟨by rfl, ?h230⟩) (by assumption) ?r230
                  case h230 => (intro w0 hSw; (try dsimp only at hSw); go_simp; try (with_reducible rfl))
                  simp only [Act.put, List.setIfInBounds_toArray, List.set_cons_zero, List.set_cons_succ]
                  refine wpAnyH_take (i := 28) (oi := { dst := some 137, op := Op.pick (Operand.tmp 124) (Operand.const (Value.bool true)) (Operand.tmp 136), type := 4, pos := "plain.go:108", after := #[{ on := 15, ground := Ground.data }, { on := 27, ground := Ground.data }, { on := 11, ground := Ground.guard }], guard := some (11, true) }) (v := ?v231) rfl (by kernel_rfl) (by kernel_rfl) (by kernel_rfl) (fun _ _ _ h => h) (Or.inl ⟨by rfl, ?h231⟩) (by assumption) ?r231
                  case h231 => (intro w0 hSw; (try dsimp only at hSw); go_simp; try (with_reducible rfl))
                  simp only [Act.put, List.setIfInBounds_toArray, List.set_cons_zero, List.set_cons_succ]
                  refine wpAnyH_take (i := 29) (oi := { dst := some 138, op := Op.pick (Operand.tmp 120) (Operand.tmp 137) (Operand.const (Value.bool false)), type := 4, pos := "plain.go:108", after := #[{ on := 11, ground := Ground.data }, { on := 28, ground := Ground.data }], guard := none }) (v := ?v232) rfl (by kernel_rfl) (by kernel_rfl) (by kernel_rfl) (fun _ _ _ h => h) (Or.inl ⟨by rfl, ?h232⟩) (by assumption) ?r232
                  case h232 => (intro w0 hSw; (try dsimp only at hSw); go_simp; try (with_reducible rfl))
                  simp only [Act.put, List.setIfInBounds_toArray, List.set_cons_zero, List.set_cons_succ]
                  refine wpAnyH_done (by kernel_rfl) ?_ _
                  clear hsame b70 b7 b8 hfirst
                  obtain ⟨wy, hwy⟩ : ∃ wy, wy = w8' := ⟨_, rfl⟩
                  rw [← hwy]
                  have bY : Below wz.heap.size wz wy := by rw [hwy]; exact b80
                  have HZ2 := Hid.mk (HZZ.out.below bY)
                  obtain ⟨-, y1, y2, y3, y4⟩ := HSS.out _ bY
                  clear z1 z2 z3 z4 HZZ HQ HSS HMM bY hwy b80
                  have z1 := y1
                  have z2 := y2
                  have z3 := y3
                  have z4 := y4
                  clear y1 y2 y3 y4
                  have HZZ := HZ2
                  clear HZ2
                  go_wp2_with fail
                  have HMM := Hid.mk HA.out.2.2.2.1
                  have HQ := Hid.mk (HZZ.out.asks (HW.out) hW0 s (by have := HMM.out; omega))
                  rw [← HMM.out] at HQ
                  have HSS := Hid.mk (show ∀ w', Below wy.heap.size wy w' → (Below wy.heap.size wy w' ∧ w'.cell? ⟨gb, 1, none⟩ = some (.string s) ∧ w'.cell? ⟨gb, 2, none⟩ = some (.int .i64 (N' : Nat)) ∧ w'.cell? ⟨gw, 1, none⟩ = some (.int .i64 0) ∧ w'.cell? ⟨gw, 2, none⟩ = some (.slice va len vc)) from fun w' b => ⟨b, cell_lat b z1, cell_lat b z2, cell_lat b z3, cell_lat b z4⟩)
                  refine wp_region_held_drew (S := fun w' => Below wy.heap.size wy w' ∧ w'.cell? ⟨gb, 1, none⟩ = some (.string s) ∧ w'.cell? ⟨gb, 2, none⟩ = some (.int .i64 (N' : Nat)) ∧ w'.cell? ⟨gw, 1, none⟩ = some (.int .i64 0) ∧ w'.cell? ⟨gw, 2, none⟩ = some (.slice va len vc)) (by kernel_rfl) ?_ (fun hHeld => ?_)
                  · exact ⟨(Below.refl _ wy).drew, z1, z2, z3, z4⟩
                  refine wpAnyH_take (i := 0) (oi := { dst := some 139, op := Op.move (Operand.tmp 6), type := 24, pos := "plain.go:112", after := #[], guard := none }) (v := ?v233) rfl (by kernel_rfl) (by kernel_rfl) (by kernel_rfl) (fun _ _ _ h => h) (Or.inl ⟨by rfl, ?h233⟩) (by assumption) ?r233
                  case h233 => (intro w0 hSw; (try dsimp only at hSw); go_simp; try (with_reducible rfl))
                  simp only [Act.put, List.setIfInBounds_toArray, List.set_cons_zero, List.set_cons_succ]
                  refine wpAnyH_take (i := 2) (oi := { dst := some 141, op := Op.move (Operand.tmp 7), type := 45, pos := "plain.go:112", after := #[], guard := none }) (v := ?v234) rfl (by kernel_rfl) (by kernel_rfl) (by kernel_rfl) (fun _ _ _ h => h) (Or.inl ⟨by rfl, ?h234⟩) (by assumption) ?r234
                  case h234 => (intro w0 hSw; (try dsimp only at hSw); go_simp; try (with_reducible rfl))
                  simp only [Act.put, List.setIfInBounds_toArray, List.set_cons_zero, List.set_cons_succ]
                  refine wpAnyH_take (i := 3) (oi := { dst := some 142, op := Op.call { callee := Callee.builtin Builtin.len, args := #[Operand.tmp 141], argTypes := #[45] }, type := 3, pos := "plain.go:112", after := #[{ on := 2, ground := Ground.data }], guard := none }) (v := ?v235) rfl (by kernel_rfl) (by kernel_rfl) (by kernel_rfl) (fun _ _ _ h => h) (Or.inl ⟨by rfl, ?h235⟩) (by assumption) ?r235
                  case h235 => (intro w0 hSw; (try dsimp only at hSw); go_simp; try (with_reducible rfl))
                  simp only [Act.put, List.setIfInBounds_toArray, List.set_cons_zero, List.set_cons_succ]
                  refine wpAnyH_ready (rs := [1]) (by kernel_rfl) (by simp) ?_
                  refine AllReadyH.cons rfl (fun K hK => ?_) AllReadyH.nil
                  go_simp
                  go_wp2_with (go_at_call 18; refine (HQ.out.1 _ (Below.refl _ wy).drew).mono ?_; rintro e' w' ⟨rfl, he'⟩; subst he'; have bL := (Below.refl wy.heap.size wy).drew)
                  refine hK.out _ _ ?_ (fun hHeld => ?_)
                  · exact HSS.out _ (by assumption)
                  clear hK K
                  refine wpAnyH_take (i := 4) (oi := { dst := some 143, op := Op.binOp BinOp.neq 3 (Operand.tmp 140) (Operand.tmp 142) 3, type := 4, pos := "plain.go:112", after := #[{ on := 1, ground := Ground.data }, { on := 3, ground := Ground.data }], guard := none }) (v := ?v236) rfl (by kernel_rfl) (by kernel_rfl) (by kernel_rfl) (fun _ _ _ h => h) (Or.inl ⟨by rfl, ?h236⟩) (by assumption) ?r236
                  case h236 => (intro w0 hSw; (try dsimp only at hSw); go_simp; try (with_reducible rfl))
                  simp only [Act.put, List.setIfInBounds_toArray, List.set_cons_zero, List.set_cons_succ]
                  refine wpAnyH_take (i := 5) (oi := { dst := some 144, op := Op.move (Operand.tmp 143), type := 4, pos := "plain.go:112", after := #[{ on := 4, ground := Ground.data }, { on := 1, ground := Ground.chain }], guard := none }) (v := ?v237) rfl (by kernel_rfl) (by kernel_rfl) (by kernel_rfl) (fun _ _ _ h => h) (Or.inl ⟨by rfl, ?h237⟩) (by assumption) ?r237
                  case h237 => (intro w0 hSw; (try dsimp only at hSw); go_simp; try (with_reducible rfl))
                  simp only [Act.put, List.setIfInBounds_toArray, List.set_cons_zero, List.set_cons_succ]
                  refine wpAnyH_take (i := 6) (oi := { dst := some 145, op := Op.move (Operand.tmp 6), type := 24, pos := "plain.go:112", after := #[{ on := 5, ground := Ground.guard }], guard := some (5, false) }) (v := ?v238) rfl (by kernel_rfl) (by kernel_rfl) (by kernel_rfl) (fun _ _ _ h => h) (Or.inl ⟨by rfl, ?h238⟩) (by assumption) ?r238
                  case h238 => (intro w0 hSw; (try dsimp only at hSw); go_simp; try (with_reducible rfl))
                  simp only [Act.put, List.setIfInBounds_toArray, List.set_cons_zero, List.set_cons_succ]
                  refine wpAnyH_take (i := 7) (oi := { dst := some 146, op := Op.fieldAddr 40 (Operand.tmp 9) 1, type := 0, pos := "plain.go:112", after := #[{ on := 5, ground := Ground.guard }], guard := some (5, false) }) (v := ?v239) rfl (by kernel_rfl) (by kernel_rfl) (by kernel_rfl) (fun _ _ _ h => h) (Or.inl ⟨by rfl, ?h239⟩) (by assumption) ?r239
                  case h239 => (intro w0 hSw; (try dsimp only at hSw); go_simp; try (with_reducible rfl))
                  simp only [Act.put, List.setIfInBounds_toArray, List.set_cons_zero, List.set_cons_succ]
                  refine wpAnyH_take (i := 8) (oi := { dst := some 147, op := Op.load 9 (Operand.tmp 146), type := 9, pos := "plain.go:112", after := #[{ on := 7, ground := Ground.data }, { on := 5, ground := Ground.guard }], guard := some (5, false) }) (v := ?v240) rfl (by kernel_rfl) (by kernel_rfl) (by kernel_rfl) (fun _ _ _ h => h) (Or.inl ⟨by rfl, ?h240⟩) (by assumption) ?r240
                  case h240 => (intro w0 hSw; (try dsimp only at hSw); go_simp; try (with_reducible rfl))
                  simp only [Act.put, List.setIfInBounds_toArray, List.set_cons_zero, List.set_cons_succ]
                  refine wpAnyH_take (i := 10) (oi := { dst := some 149, op := Op.move (Operand.tmp 7), type := 45, pos := "plain.go:112", after := #[{ on := 5, ground := Ground.guard }], guard := some (5, false) }) (v := ?v241) rfl (by kernel_rfl) (by kernel_rfl) (by kernel_rfl) (fun _ _ _ h => h) (Or.inl ⟨by rfl, ?h241⟩) (by assumption) ?r241
                  case h241 => (intro w0 hSw; (try dsimp only at hSw); go_simp; try (with_reducible rfl))
                  simp only [Act.put, List.setIfInBounds_toArray, List.set_cons_zero, List.set_cons_succ]
                  refine wpAnyH_take (i := 11) (oi := { dst := some 150, op := Op.fieldAddr 40 (Operand.tmp 9) 1, type := 0, pos := "plain.go:112", after := #[{ on := 5, ground := Ground.guard }], guard := some (5, false) }) (v := ?v242) rfl (by kernel_rfl) (by kernel_rfl) (by kernel_rfl) (fun _ _ _ h => h) (Or.inl ⟨by rfl, ?h242⟩) (by assumption) ?r242
                  case h242 => (intro w0 hSw; (try dsimp only at hSw); go_simp; try (with_reducible rfl))
                  simp only [Act.put, List.setIfInBounds_toArray, List.set_cons_zero, List.set_cons_succ]
                  refine wpAnyH_take (i := 12) (oi := { dst := some 151, op := Op.load 9 (Operand.tmp 150), type := 9, pos := "plain.go:112", after := #[{ on := 11, ground := Ground.data }, { on := 5, ground := Ground.guard }], guard := some (5, false) }) (v := ?v243) rfl (by kernel_rfl) (by kernel_rfl) (by kernel_rfl) (fun _ _ _ h => h) (Or.inl ⟨by rfl, ?h243⟩) (by assumption) ?r243
                  case h243 => (intro w0 hSw; (try dsimp only at hSw); go_simp; try (with_reducible rfl))
                  simp only [Act.put, List.setIfInBounds_toArray, List.set_cons_zero, List.set_cons_succ]
                  refine wpAnyH_ready (rs := [9]) (by kernel_rfl) (by simp) ?_
                  refine AllReadyH.cons rfl (fun K hK => ?_) AllReadyH.nil
                  go_simp
                  go_wp2_with (go_at_call 15; refine (HQ.out.2.1 _ (by assumption)).mono ?_; rintro e' wh ⟨bh, rfl, b5, hbh⟩)
                  refine hK.out _ _ ?_ (fun hHeld => ?_)
                  · exact HSS.out _ (by assumption)
                  clear hK K
                  clear bL
                  refine wpAnyH_ready (rs := [13]) (by kernel_rfl) (by simp) ?_
                  refine AllReadyH.cons rfl (fun K hK => ?_) AllReadyH.nil
                  go_simp
                  go_wp2_with (go_at_call 26; refine (HQ.out.2.2 _ (by assumption)).mono ?_; rintro e' wo ⟨bo, rfl, b6, hbo⟩; obtain rfl : bh = bo := bool_iff hbh hbo)
                  refine hK.out _ _ ?_ (fun hHeld => ?_)
                  · exact HSS.out _ (by assumption)
                  clear hK K
                  clear b5
                  refine wpAnyH_take (i := 14) (oi := { dst := some 153, op := Op.binOp BinOp.neq 4 (Operand.tmp 148) (Operand.tmp 152) 4, type := 4, pos := "plain.go:112", after := #[{ on := 9, ground := Ground.data }, { on := 13, ground := Ground.data }, { on := 5, ground := Ground.guard }], guard := some (5, false) }) (v := ?v244) rfl (by kernel_rfl) (by kernel_rfl) (by kernel_rfl) (fun _ _ _ h => h) (Or.inl ⟨by rfl, ?h244⟩) (by assumption) ?r244
                  case h244 => (intro w0 hSw; (try dsimp only at hSw); go_simp; try (with_reducible rfl))
                  simp only [Act.put, List.setIfInBounds_toArray, List.set_cons_zero, List.set_cons_succ]
                  refine wpAnyH_take (i := 15) (oi := { dst := some 154, op := Op.pick (Operand.tmp 144) (Operand.const (Value.bool true)) (Operand.tmp 153), type := 4, pos := "plain.go:112", after := #[{ on := 5, ground := Ground.data }, { on := 14, ground := Ground.data }], guard := none }) (v := ?v245) rfl (by kernel_rfl) (by kernel_rfl) (by kernel_rfl) (fun _ _ _ h => h) (Or.inl ⟨by rfl, ?h245⟩) (by assumption) ?r245
                  case h245 => (intro w0 hSw; (try dsimp only at hSw); go_simp; try (with_reducible rfl))
                  simp only [Act.put, List.setIfInBounds_toArray, List.set_cons_zero, List.set_cons_succ]
                  refine wpAnyH_done (by kernel_rfl) ?_ _
                  go_wp2_with fail
                  exact ⟨⟨i + 1, T', bs', ms', x', nxtA 5 s A, by push_cast; rfl, hlt, Hid.mk (by have := HZZ.out.below (by assumption); rw [← HMM.out] at this; exact this)⟩, by simp only [intOf]; omega⟩
              · as_aux_lemma =>
                  have hf1 : (((s.size : Nat) : Int) == (n : Int)) = true := by simpa using (by omega : ((s.size : Nat) : Int) = (n : Int))
                  have n0 : (0 : Int) ≤ N := hN0
                  have n1 : ¬ N ≤ 4096 := hN1
                  have n2 : 4096 < N := by omega
                  have n3 : decide (N ≤ 4096) = false := by simp; omega
                  have n4 : decide (4096 < N) = true := by simp; omega
                  have n5 : decide ((0 : Int) ≤ N) = true := by simp; omega
                  clear hs hN0 hN1
                  go_wp2_with fail
                  obtain ⟨wz, hwz⟩ : ∃ wz, wz = w4.alloc (.cells #[.bool y, .int .i64 e, .slice va len vc, .int .i64 q1, .int .i64 q2, .int .i64 q3, .int .i64 q4] 42) := ⟨_, rfl⟩
                  rw [← hwz]
                  rw [← hwz] at HGB e0 e1 e2
                  have z3 : wz.cell? ⟨w4.heap.size, 1, none⟩ = some (.int .i64 e) := by rw [hwz]; go_simp
                  have z4 : wz.cell? ⟨w4.heap.size, 2, none⟩ = some (.slice va len vc) := by rw [hwz]; go_simp
                  obtain ⟨gw, hgw⟩ : ∃ gw, gw = w4.heap.size := ⟨_, rfl⟩
                  rw [← hgw] at z3 z4 ⊢
                  have z1 := e1
                  have z2 := e2
                  have HZZ := Hid.mk (HZ.out.below HGB.out)
                  clear hwz hgw e0 e1 e2 d0 d1 d2
                  have HMM := Hid.mk HA.out.2.2.2.1
                  have HQ := Hid.mk (HZZ.out.asks (HW.out) hW0 s (by have := HMM.out; omega))
                  rw [← HMM.out] at HQ
                  have HSS := Hid.mk (show ∀ w', Below wz.heap.size wz w' → (Below wz.heap.size wz w' ∧ w'.cell? ⟨gb, 1, none⟩ = some (.string s) ∧ w'.cell? ⟨gb, 2, none⟩ = some (.int .i64 N) ∧ w'.cell? ⟨gw, 1, none⟩ = some (.int .i64 e) ∧ w'.cell? ⟨gw, 2, none⟩ = some (.slice va len vc)) from fun w' b => ⟨b, cell_lat b z1, cell_lat b z2, cell_lat b z3, cell_lat b z4⟩)
                  refine wp_region_held_drew (S := fun w' => Below wz.heap.size wz w' ∧ w'.cell? ⟨gb, 1, none⟩ = some (.string s) ∧ w'.cell? ⟨gb, 2, none⟩ = some (.int .i64 N) ∧ w'.cell? ⟨gw, 1, none⟩ = some (.int .i64 e) ∧ w'.cell? ⟨gw, 2, none⟩ = some (.slice va len vc)) (by kernel_rfl) ?_ (fun hHeld => ?_)
                  · exact ⟨(Below.refl _ wz).drew, z1, z2, z3, z4⟩
                  refine wpAnyH_take (i := 0) (oi := { dst := some 109, op := Op.move (Operand.tmp 12), type := 4, pos := "plain.go:108", after := #[], guard := none }) (v := ?v180) rfl (by kernel_rfl) (by kernel_rfl) (by kernel_rfl) (fun _ _ _ h => h) (Or.inl ⟨by rfl, ?h180⟩) (by assumption) ?r180
                  case h180 => (intro w0 hSw; (try dsimp only at hSw); go_simp; try (with_reducible rfl))
                  simp only [Act.put, List.setIfInBounds_toArray, List.set_cons_zero, List.set_cons_succ]
                  refine wpAnyH_take (i := 1) (oi := { dst := some 110, op := Op.move (Operand.tmp 109), type := 4, pos := "plain.go:108", after := #[{ on := 0, ground := Ground.data }], guard := none }) (v := ?v181) rfl (by kernel_rfl) (by kernel_rfl) (by kernel_rfl) (fun _ _ _ h => h) (Or.inl ⟨by rfl, ?h181⟩) (by assumption) ?r181
                  case h181 => (intro w0 hSw; (try dsimp only at hSw); go_simp; try (with_reducible rfl))
                  simp only [Act.put, List.setIfInBounds_toArray, List.set_cons_zero, List.set_cons_succ]
                  refine wpAnyH_take (i := 2) (oi := { dst := some 111, op := Op.fieldAddr 40 (Operand.tmp 9) 2, type := 0, pos := "plain.go:108", after := #[{ on := 1, ground := Ground.guard }], guard := some (1, true) }) (v := ?v182) rfl (by kernel_rfl) (by kernel_rfl) (by kernel_rfl) (fun _ _ _ h => h) (Or.inl ⟨by rfl, ?h182⟩) (by assumption) ?r182
                  case h182 => (intro w0 hSw; (try dsimp only at hSw); go_simp; try (with_reducible rfl))
                  simp only [Act.put, List.setIfInBounds_toArray, List.set_cons_zero, List.set_cons_succ]
                  refine wpAnyH_take (i := 3) (oi := { dst := some 112, op := Op.load 3 (Operand.tmp 111), type := 3, pos := "plain.go:108", after := #[{ on := 2, ground := Ground.data }, { on := 1, ground := Ground.guard }], guard := some (1, true) }) (v := ?v183) rfl (by kernel_rfl) (by kernel_rfl) (by kernel_rfl) (fun _ _ _ h => h) (Or.inl ⟨by rfl, ?h183⟩) (by assumption) ?r183
                  case h183 => (intro w0 hSw; (try dsimp only at hSw); go_simp; try (with_reducible rfl))
                  simp only [Act.put, List.setIfInBounds_toArray, List.set_cons_zero, List.set_cons_succ]
                  refine wpAnyH_take (i := 4) (oi := { dst := some 113, op := Op.binOp BinOp.geq 3 (Operand.tmp 112) (Operand.const (Value.int IntKind.i64 0)) 3, type := 4, pos := "plain.go:108", after := #[{ on := 3, ground := Ground.data }, { on := 1, ground := Ground.guard }], guard := some (1, true) }) (v := ?v184) rfl (by kernel_rfl) (by kernel_rfl) (by kernel_rfl) (fun _ _ _ h => h) (Or.inl ⟨by rfl, ?h184⟩) (by assumption) ?r184
                  case h184 => (intro w0 hSw; (try dsimp only at hSw); go_simp; try (with_reducible rfl))
                  simp only [Act.put, List.setIfInBounds_toArray, List.set_cons_zero, List.set_cons_succ]
                  refine wpAnyH_take (i := 5) (oi := { dst := some 114, op := Op.pick (Operand.tmp 110) (Operand.tmp 113) (Operand.const (Value.bool false)), type := 4, pos := "plain.go:108", after := #[{ on := 1, ground := Ground.data }, { on := 4, ground := Ground.data }], guard := none }) (v := ?v185) rfl (by kernel_rfl) (by kernel_rfl) (by kernel_rfl) (fun _ _ _ h => h) (Or.inl ⟨by rfl, ?h185⟩) (by assumption) ?r185
                  case h185 => (intro w0 hSw; (try dsimp only at hSw); go_simp; try (with_reducible rfl))
                  simp only [Act.put, List.setIfInBounds_toArray, List.set_cons_zero, List.set_cons_succ]
                  refine wpAnyH_take (i := 6) (oi := { dst := some 115, op := Op.move (Operand.tmp 114), type := 4, pos := "plain.go:108", after := #[{ on := 5, ground := Ground.data }, { on := 1, ground := Ground.chain }], guard := none }) (v := ?v186) rfl (by kernel_rfl) (by kernel_rfl) (by kernel_rfl) (fun _ _ _ h => h) (Or.inl ⟨by rfl, ?h186⟩) (by assumption) ?r186
                  case h186 => (intro w0 hSw; (try dsimp only at hSw); go_simp; try (with_reducible rfl))
                  simp only [Act.put, List.setIfInBounds_toArray, List.set_cons_zero, List.set_cons_succ]
                  refine wpAnyH_take (i := 7) (oi := { dst := some 116, op := Op.fieldAddr 40 (Operand.tmp 9) 2, type := 0, pos := "plain.go:108", after := #[{ on := 6, ground := Ground.guard }], guard := some (6, true) }) (v := ?v187) rfl (by kernel_rfl) (by kernel_rfl) (by kernel_rfl) (fun _ _ _ h => h) (Or.inl ⟨by rfl, ?h187⟩) (by assumption) ?r187
                  case h187 => (intro w0 hSw; (try dsimp only at hSw); go_simp; try (with_reducible rfl))
                  simp only [Act.put, List.setIfInBounds_toArray, List.set_cons_zero, List.set_cons_succ]
                  refine wpAnyH_take (i := 8) (oi := { dst := some 117, op := Op.load 3 (Operand.tmp 116), type := 3, pos := "plain.go:108", after := #[{ on := 7, ground := Ground.data }, { on := 6, ground := Ground.guard }], guard := some (6, true) }) (v := ?v188) rfl (by kernel_rfl) (by kernel_rfl) (by kernel_rfl) (fun _ _ _ h => h) (Or.inl ⟨by rfl, ?h188⟩) (by assumption) ?r188
                  case h188 => (intro w0 hSw; (try dsimp only at hSw); go_simp; try (with_reducible rfl))
                  simp only [Act.put, List.setIfInBounds_toArray, List.set_cons_zero, List.set_cons_succ]
                  refine wpAnyH_take (i := 9) (oi := { dst := some 118, op := Op.binOp BinOp.leq 3 (Operand.tmp 117) (Operand.const (Value.int IntKind.i64 4096)) 3, type := 4, pos := "plain.go:108", after := #[{ on := 8, ground := Ground.data }, { on := 6, ground := Ground.guard }], guard := some (6, true) }) (v := ?v189) rfl (by kernel_rfl) (by kernel_rfl) (by kernel_rfl) (fun _ _ _ h => h) (Or.inl ⟨by rfl, ?h189⟩) (by assumption) ?r189
                  case h189 => (intro w0 hSw; (try dsimp only at hSw); go_simp; try (with_reducible rfl))
                  simp only [Act.put, List.setIfInBounds_toArray, List.set_cons_zero, List.set_cons_succ]
                  refine wpAnyH_take (i := 10) (oi := { dst := some 119, op := Op.pick (Operand.tmp 115) (Operand.tmp 118) (Operand.const (Value.bool false)), type := 4, pos := "plain.go:108", after := #[{ on := 6, ground := Ground.data }, { on := 9, ground := Ground.data }], guard := none }) (v := ?v190) rfl (by kernel_rfl) (by kernel_rfl) (by kernel_rfl) (fun _ _ _ h => h) (Or.inl ⟨by rfl, ?h190⟩) (by assumption) ?r190
                  case h190 => (intro w0 hSw; (try dsimp only at hSw); go_simp; try (with_reducible rfl))
                  simp only [Act.put, List.setIfInBounds_toArray, List.set_cons_zero, List.set_cons_succ]
                  refine wpAnyH_take (i := 11) (oi := { dst := some 120, op := Op.move (Operand.tmp 119), type := 4, pos := "plain.go:108", after := #[{ on := 10, ground := Ground.data }, { on := 6, ground := Ground.chain }], guard := none }) (v := ?v191) rfl (by kernel_rfl) (by kernel_rfl) (by kernel_rfl) (fun _ _ _ h => h) (Or.inl ⟨by rfl, ?h191⟩) (by assumption) ?r191
                  case h191 => (intro w0 hSw; (try dsimp only at hSw); go_simp; try (with_reducible rfl))
                  simp only [Act.put, List.setIfInBounds_toArray, List.set_cons_zero, List.set_cons_succ]
                  refine wpAnyH_take (i := 12) (oi := { dst := some 121, op := Op.fieldAddr 42 (Operand.tmp 11) 1, type := 0, pos := "plain.go:108", after := #[{ on := 11, ground := Ground.guard }], guard := some (11, true) }) rfl (by kernel_rfl) (by kernel_rfl) (by kernel_rfl) (fun _ _ _ h => h) (Or.inr ⟨by rfl, rfl⟩) (by assumption) ?_
                  simp only [Act.put, List.setIfInBounds_toArray, List.set_cons_zero, List.set_cons_succ]
                  refine wpAnyH_take (i := 13) (oi := { dst := some 122, op := Op.load 3 (Operand.tmp 121), type := 3, pos := "plain.go:108", after := #[{ on := 12, ground := Ground.data }, { on := 11, ground := Ground.guard }], guard := some (11, true) }) rfl (by kernel_rfl) (by kernel_rfl) (by kernel_rfl) (fun _ _ _ h => h) (Or.inr ⟨by rfl, rfl⟩) (by assumption) ?_
                  simp only [Act.put, List.setIfInBounds_toArray, List.set_cons_zero, List.set_cons_succ]
                  refine wpAnyH_take (i := 14) (oi := { dst := some 123, op := Op.binOp BinOp.neq 3 (Operand.tmp 122) (Operand.const (Value.int IntKind.i64 0)) 3, type := 4, pos := "plain.go:108", after := #[{ on := 13, ground := Ground.data }, { on := 11, ground := Ground.guard }], guard := some (11, true) }) rfl (by kernel_rfl) (by kernel_rfl) (by kernel_rfl) (fun _ _ _ h => h) (Or.inr ⟨by rfl, rfl⟩) (by assumption) ?_
                  simp only [Act.put, List.setIfInBounds_toArray, List.set_cons_zero, List.set_cons_succ]
                  refine wpAnyH_take (i := 15) (oi := { dst := some 124, op := Op.move (Operand.tmp 123), type := 4, pos := "plain.go:108", after := #[{ on := 14, ground := Ground.data }, { on := 11, ground := Ground.chain }, { on := 11, ground := Ground.guard }], guard := some (11, true) }) rfl (by kernel_rfl) (by kernel_rfl) (by kernel_rfl) (fun _ _ _ h => h) (Or.inr ⟨by rfl, rfl⟩) (by assumption) ?_
                  simp only [Act.put, List.setIfInBounds_toArray, List.set_cons_zero, List.set_cons_succ]
                  refine wpAnyH_take (i := 16) (oi := { dst := some 125, op := Op.fieldAddr 42 (Operand.tmp 11) 2, type := 0, pos := "plain.go:108", after := #[{ on := 15, ground := Ground.guard }], guard := some (15, false) }) rfl (by kernel_rfl) (by kernel_rfl) (by kernel_rfl) (fun _ _ _ h => h) (Or.inr ⟨by rfl, rfl⟩) (by assumption) ?_
                  simp only [Act.put, List.setIfInBounds_toArray, List.set_cons_zero, List.set_cons_succ]
                  refine wpAnyH_take (i := 17) (oi := { dst := some 126, op := Op.load 32 (Operand.tmp 125), type := 32, pos := "plain.go:108", after := #[{ on := 16, ground := Ground.data }, { on := 15, ground := Ground.guard }], guard := some (15, false) }) rfl (by kernel_rfl) (by kernel_rfl) (by kernel_rfl) (fun _ _ _ h => h) (Or.inr ⟨by rfl, rfl⟩) (by assumption) ?_
                  simp only [Act.put, List.setIfInBounds_toArray, List.set_cons_zero, List.set_cons_succ]
                  refine wpAnyH_take (i := 18) (oi := { dst := some 127, op := Op.move (Operand.tmp 7), type := 45, pos := "plain.go:108", after := #[{ on := 15, ground := Ground.guard }], guard := some (15, false) }) rfl (by kernel_rfl) (by kernel_rfl) (by kernel_rfl) (fun _ _ _ h => h) (Or.inr ⟨by rfl, rfl⟩) (by assumption) ?_
                  simp only [Act.put, List.setIfInBounds_toArray, List.set_cons_zero, List.set_cons_succ]
                  refine wpAnyH_take (i := 19) (oi := { dst := some 128, op := Op.fieldAddr 40 (Operand.tmp 9) 1, type := 0, pos := "plain.go:108", after := #[{ on := 15, ground := Ground.guard }], guard := some (15, false) }) rfl (by kernel_rfl) (by kernel_rfl) (by kernel_rfl) (fun _ _ _ h => h) (Or.inr ⟨by rfl, rfl⟩) (by assumption) ?_
                  simp only [Act.put, List.setIfInBounds_toArray, List.set_cons_zero, List.set_cons_succ]
                  refine wpAnyH_take (i := 20) (oi := { dst := some 129, op := Op.load 9 (Operand.tmp 128), type := 9, pos := "plain.go:108", after := #[{ on := 19, ground := Ground.data }, { on := 15, ground := Ground.guard }], guard := some (15, false) }) rfl (by kernel_rfl) (by kernel_rfl) (by kernel_rfl) (fun _ _ _ h => h) (Or.inr ⟨by rfl, rfl⟩) (by assumption) ?_
                  simp only [Act.put, List.setIfInBounds_toArray, List.set_cons_zero, List.set_cons_succ]
                  refine wpAnyH_take (i := 21) (oi := { dst := some 130, op := Op.move (Operand.tmp 0), type := 3, pos := "plain.go:108", after := #[{ on := 15, ground := Ground.guard }], guard := some (15, false) }) rfl (by kernel_rfl) (by kernel_rfl) (by kernel_rfl) (fun _ _ _ h => h) (Or.inr ⟨by rfl, rfl⟩) (by assumption) ?_
                  simp only [Act.put, List.setIfInBounds_toArray, List.set_cons_zero, List.set_cons_succ]
                  refine wpAnyH_take (i := 22) (oi := { dst := some 131, op := Op.call { callee := Callee.value (Operand.func 24), args := #[Operand.tmp 127, Operand.tmp 129, Operand.tmp 130], argTypes := #[45, 9, 3] }, type := 32, pos := "plain.go:108", after := #[{ on := 18, ground := Ground.data }, { on := 20, ground := Ground.data }, { on := 21, ground := Ground.data }, { on := 15, ground := Ground.chain }, { on := 15, ground := Ground.guard }], guard := some (15, false) }) rfl (by kernel_rfl) (by kernel_rfl) (by kernel_rfl) (fun _ _ _ h => h) (Or.inr ⟨by rfl, rfl⟩) (by assumption) ?_
                  simp only [Act.put, List.setIfInBounds_toArray, List.set_cons_zero, List.set_cons_succ]
                  refine wpAnyH_take (i := 23) (oi := { dst := some 132, op := Op.fieldAddr 40 (Operand.tmp 9) 2, type := 0, pos := "plain.go:108", after := #[{ on := 15, ground := Ground.guard }], guard := some (15, false) }) rfl (by kernel_rfl) (by kernel_rfl) (by kernel_rfl) (fun _ _ _ h => h) (Or.inr ⟨by rfl, rfl⟩) (by assumption) ?_
                  simp only [Act.put, List.setIfInBounds_toArray, List.set_cons_zero, List.set_cons_succ]
                  refine wpAnyH_take (i := 24) (oi := { dst := some 133, op := Op.load 3 (Operand.tmp 132), type := 3, pos := "plain.go:108", after := #[{ on := 23, ground := Ground.data }, { on := 15, ground := Ground.guard }], guard := some (15, false) }) rfl (by kernel_rfl) (by kernel_rfl) (by kernel_rfl) (fun _ _ _ h => h) (Or.inr ⟨by rfl, rfl⟩) (by assumption) ?_
                  simp only [Act.put, List.setIfInBounds_toArray, List.set_cons_zero, List.set_cons_succ]
                  refine wpAnyH_take (i := 25) (oi := { dst := some 134, op := Op.call { callee := Callee.value (Operand.func 25), args := #[Operand.tmp 131, Operand.tmp 133], argTypes := #[32, 3] }, type := 32, pos := "plain.go:108", after := #[{ on := 22, ground := Ground.data }, { on := 24, ground := Ground.data }, { on := 22, ground := Ground.chain }, { on := 15, ground := Ground.guard }], guard := some (15, false) }) rfl (by kernel_rfl) (by kernel_rfl) (by kernel_rfl) (fun _ _ _ h => h) (Or.inr ⟨by rfl, rfl⟩) (by assumption) ?_
                  simp only [Act.put, List.setIfInBounds_toArray, List.set_cons_zero, List.set_cons_succ]
                  refine wpAnyH_take (i := 26) (oi := { dst := some 135, op := Op.call { callee := Callee.value (Operand.func 23), args := #[Operand.tmp 126, Operand.tmp 134], argTypes := #[32, 32] }, type := 4, pos := "plain.go:108", after := #[{ on := 17, ground := Ground.data }, { on := 25, ground := Ground.data }, { on := 25, ground := Ground.chain }, { on := 15, ground := Ground.guard }], guard := some (15, false) }) rfl (by kernel_rfl) (by kernel_rfl) (by kernel_rfl) (fun _ _ _ h => h) (Or.inr ⟨by rfl, rfl⟩) (by assumption) ?_
                  simp only [Act.put, List.setIfInBounds_toArray, List.set_cons_zero, List.set_cons_succ]
                  refine wpAnyH_take (i := 27) (oi := { dst := some 136, op := Op.unOp UnOp.not 4 (Operand.tmp 135), type := 4, pos := "plain.go:108", after := #[{ on := 26, ground := Ground.data }, { on := 15, ground := Ground.guard }], guard := some (15, false) }) rfl (by kernel_rfl) (by kernel_rfl) (by kernel_rfl) (fun _ _ _ h => h) (Or.inr ⟨by rfl, rfl⟩) (by assumption) ?_
                  simp only [Act.put, List.setIfInBounds_toArray, List.set_cons_zero, List.set_cons_succ]
                  refine wpAnyH_take (i := 28) (oi := { dst := some 137, op := Op.pick (Operand.tmp 124) (Operand.const (Value.bool true)) (Operand.tmp 136), type := 4, pos := "plain.go:108", after := #[{ on := 15, ground := Ground.data }, { on := 27, ground := Ground.data }, { on := 11, ground := Ground.guard }], guard := some (11, true) }) rfl (by kernel_rfl) (by kernel_rfl) (by kernel_rfl) (fun _ _ _ h => h) (Or.inr ⟨by rfl, rfl⟩) (by assumption) ?_
                  simp only [Act.put, List.setIfInBounds_toArray, List.set_cons_zero, List.set_cons_succ]
                  refine wpAnyH_take (i := 29) (oi := { dst := some 138, op := Op.pick (Operand.tmp 120) (Operand.tmp 137) (Operand.const (Value.bool false)), type := 4, pos := "plain.go:108", after := #[{ on := 11, ground := Ground.data }, { on := 28, ground := Ground.data }], guard := none }) (v := ?v192) rfl (by kernel_rfl) (by kernel_rfl) (by kernel_rfl) (fun _ _ _ h => h) (Or.inl ⟨by rfl, ?h192⟩) (by assumption) ?r192
                  case h192 => (intro w0 hSw; (try dsimp only at hSw); go_simp; try (with_reducible rfl))
                  simp only [Act.put, List.setIfInBounds_toArray, List.set_cons_zero, List.set_cons_succ]
                  refine wpAnyH_done (by kernel_rfl) ?_ _
                  obtain ⟨wy, hwy⟩ : ∃ wy, wy = wz.drew := ⟨_, rfl⟩
                  rw [← hwy]
                  have bY : Below wz.heap.size wz wy := by rw [hwy]; exact (Below.refl _ wz).drew
                  have HZ2 := Hid.mk (HZZ.out.below bY)
                  obtain ⟨-, y1, y2, y3, y4⟩ := HSS.out _ bY
                  clear z1 z2 z3 z4 HZZ HQ HSS HMM bY hwy 
                  have z1 := y1
                  have z2 := y2
                  have z3 := y3
                  have z4 := y4
                  clear y1 y2 y3 y4
                  have HZZ := HZ2
                  clear HZ2
                  go_wp2_with fail
                  have HMM := Hid.mk HA.out.2.2.2.1
                  have HQ := Hid.mk (HZZ.out.asks (HW.out) hW0 s (by have := HMM.out; omega))
                  rw [← HMM.out] at HQ
                  have HSS := Hid.mk (show ∀ w', Below wy.heap.size wy w' → (Below wy.heap.size wy w' ∧ w'.cell? ⟨gb, 1, none⟩ = some (.string s) ∧ w'.cell? ⟨gb, 2, none⟩ = some (.int .i64 N) ∧ w'.cell? ⟨gw, 1, none⟩ = some (.int .i64 e) ∧ w'.cell? ⟨gw, 2, none⟩ = some (.slice va len vc)) from fun w' b => ⟨b, cell_lat b z1, cell_lat b z2, cell_lat b z3, cell_lat b z4⟩)
                  refine wp_region_held_drew (S := fun w' => Below wy.heap.size wy w' ∧ w'.cell? ⟨gb, 1, none⟩ = some (.string s) ∧ w'.cell? ⟨gb, 2, none⟩ = some (.int .i64 N) ∧ w'.cell? ⟨gw, 1, none⟩ = some (.int .i64 e) ∧ w'.cell? ⟨gw, 2, none⟩ = some (.slice va len vc)) (by kernel_rfl) ?_ (fun hHeld => ?_)
                  · exact ⟨(Below.refl _ wy).drew, z1, z2, z3, z4⟩
                  refine wpAnyH_take (i := 0) (oi := { dst := some 139, op := Op.move (Operand.tmp 6), type := 24, pos := "plain.go:112", after := #[], guard := none }) (v := ?v193) rfl (by kernel_rfl) (by kernel_rfl) (by kernel_rfl) (fun _ _ _ h => h) (Or.inl ⟨by rfl, ?h193⟩) (by assumption) ?r193
                  case h193 => (intro w0 hSw; (try dsimp only at hSw); go_simp; try (with_reducible rfl))
                  simp only [Act.put, List.setIfInBounds_toArray, List.set_cons_zero, List.set_cons_succ]
                  refine wpAnyH_take (i := 2) (oi := { dst := some 141, op := Op.move (Operand.tmp 7), type := 45, pos := "plain.go:112", after := #[], guard := none }) (v := ?v194) rfl (by kernel_rfl) (by kernel_rfl) (by kernel_rfl) (fun _ _ _ h => h) (Or.inl ⟨by rfl, ?h194⟩) (by assumption) ?r194
                  case h194 => (intro w0 hSw; (try dsimp only at hSw); go_simp; try (with_reducible rfl))
                  simp only [Act.put, List.setIfInBounds_toArray, List.set_cons_zero, List.set_cons_succ]
                  refine wpAnyH_take (i := 3) (oi := { dst := some 142, op := Op.call { callee := Callee.builtin Builtin.len, args := #[Operand.tmp 141], argTypes := #[45] }, type := 3, pos := "plain.go:112", after := #[{ on := 2, ground := Ground.data }], guard := none }) (v := ?v195) rfl (by kernel_rfl) (by kernel_rfl) (by kernel_rfl) (fun _ _ _ h => h) (Or.inl ⟨by rfl, ?h195⟩) (by assumption) ?r195
                  case h195 => (intro w0 hSw; (try dsimp only at hSw); go_simp; try (with_reducible rfl))
                  simp only [Act.put, List.setIfInBounds_toArray, List.set_cons_zero, List.set_cons_succ]
                  refine wpAnyH_ready (rs := [1]) (by kernel_rfl) (by simp) ?_
                  refine AllReadyH.cons rfl (fun K hK => ?_) AllReadyH.nil
                  go_simp
                  go_wp2_with (go_at_call 18; refine (HQ.out.1 _ (Below.refl _ wy).drew).mono ?_; rintro e' w' ⟨rfl, he'⟩; subst he'; have bL := (Below.refl wy.heap.size wy).drew)
                  refine hK.out _ _ ?_ (fun hHeld => ?_)
                  · exact HSS.out _ (by assumption)
                  clear hK K
                  refine wpAnyH_take (i := 4) (oi := { dst := some 143, op := Op.binOp BinOp.neq 3 (Operand.tmp 140) (Operand.tmp 142) 3, type := 4, pos := "plain.go:112", after := #[{ on := 1, ground := Ground.data }, { on := 3, ground := Ground.data }], guard := none }) (v := ?v196) rfl (by kernel_rfl) (by kernel_rfl) (by kernel_rfl) (fun _ _ _ h => h) (Or.inl ⟨by rfl, ?h196⟩) (by assumption) ?r196
                  case h196 => (intro w0 hSw; (try dsimp only at hSw); go_simp; try (with_reducible rfl))
                  simp only [Act.put, List.setIfInBounds_toArray, List.set_cons_zero, List.set_cons_succ]
                  refine wpAnyH_take (i := 5) (oi := { dst := some 144, op := Op.move (Operand.tmp 143), type := 4, pos := "plain.go:112", after := #[{ on := 4, ground := Ground.data }, { on := 1, ground := Ground.chain }], guard := none }) (v := ?v197) rfl (by kernel_rfl) (by kernel_rfl) (by kernel_rfl) (fun _ _ _ h => h) (Or.inl ⟨by rfl, ?h197⟩) (by assumption) ?r197
                  case h197 => (intro w0 hSw; (try dsimp only at hSw); go_simp; try (with_reducible rfl))
                  simp only [Act.put, List.setIfInBounds_toArray, List.set_cons_zero, List.set_cons_succ]
                  refine wpAnyH_take (i := 6) (oi := { dst := some 145, op := Op.move (Operand.tmp 6), type := 24, pos := "plain.go:112", after := #[{ on := 5, ground := Ground.guard }], guard := some (5, false) }) (v := ?v198) rfl (by kernel_rfl) (by kernel_rfl) (by kernel_rfl) (fun _ _ _ h => h) (Or.inl ⟨by rfl, ?h198⟩) (by assumption) ?r198
                  case h198 => (intro w0 hSw; (try dsimp only at hSw); go_simp; try (with_reducible rfl))
                  simp only [Act.put, List.setIfInBounds_toArray, List.set_cons_zero, List.set_cons_succ]
                  refine wpAnyH_take (i := 7) (oi := { dst := some 146, op := Op.fieldAddr 40 (Operand.tmp 9) 1, type := 0, pos := "plain.go:112", after := #[{ on := 5, ground := Ground.guard }], guard := some (5, false) }) (v := ?v199) rfl (by kernel_rfl) (by kernel_rfl) (by kernel_rfl) (fun _ _ _ h => h) (Or.inl ⟨by rfl, ?h199⟩) (by assumption) ?r199
                  case h199 => (intro w0 hSw; (try dsimp only at hSw); go_simp; try (with_reducible rfl))
                  simp only [Act.put, List.setIfInBounds_toArray, List.set_cons_zero, List.set_cons_succ]
                  refine wpAnyH_take (i := 8) (oi := { dst := some 147, op := Op.load 9 (Operand.tmp 146), type := 9, pos := "plain.go:112", after := #[{ on := 7, ground := Ground.data }, { on := 5, ground := Ground.guard }], guard := some (5, false) }) (v := ?v200) rfl (by kernel_rfl) (by kernel_rfl) (by kernel_rfl) (fun _ _ _ h => h) (Or.inl ⟨by rfl, ?h200⟩) (by assumption) ?r200
                  case h200 => (intro w0 hSw; (try dsimp only at hSw); go_simp; try (with_reducible rfl))
                  simp only [Act.put, List.setIfInBounds_toArray, List.set_cons_zero, List.set_cons_succ]
                  refine wpAnyH_take (i := 10) (oi := { dst := some 149, op := Op.move (Operand.tmp 7), type := 45, pos := "plain.go:112", after := #[{ on := 5, ground := Ground.guard }], guard := some (5, false) }) (v := ?v201) rfl (by kernel_rfl) (by kernel_rfl) (by kernel_rfl) (fun _ _ _ h => h) (Or.inl ⟨by rfl, ?h201⟩) (by assumption) ?r201
                  case h201 => (intro w0 hSw; (try dsimp only at hSw); go_simp; try (with_reducible rfl))
                  simp only [Act.put, List.setIfInBounds_toArray, List.set_cons_zero, List.set_cons_succ]
                  refine wpAnyH_take (i := 11) (oi := { dst := some 150, op := Op.fieldAddr 40 (Operand.tmp 9) 1, type := 0, pos := "plain.go:112", after := #[{ on := 5, ground := Ground.guard }], guard := some (5, false) }) (v := ?v202) rfl (by kernel_rfl) (by kernel_rfl) (by kernel_rfl) (fun _ _ _ h => h) (Or.inl ⟨by rfl, ?h202⟩) (by assumption) ?r202
                  case h202 => (intro w0 hSw; (try dsimp only at hSw); go_simp; try (with_reducible rfl))
                  simp only [Act.put, List.setIfInBounds_toArray, List.set_cons_zero, List.set_cons_succ]
                  refine wpAnyH_take (i := 12) (oi := { dst := some 151, op := Op.load 9 (Operand.tmp 150), type := 9, pos := "plain.go:112", after := #[{ on := 11, ground := Ground.data }, { on := 5, ground := Ground.guard }], guard := some (5, false) }) (v := ?v203) rfl (by kernel_rfl) (by kernel_rfl) (by kernel_rfl) (fun _ _ _ h => h) (Or.inl ⟨by rfl, ?h203⟩) (by assumption) ?r203
                  case h203 => (intro w0 hSw; (try dsimp only at hSw); go_simp; try (with_reducible rfl))
                  simp only [Act.put, List.setIfInBounds_toArray, List.set_cons_zero, List.set_cons_succ]
                  refine wpAnyH_ready (rs := [9]) (by kernel_rfl) (by simp) ?_
                  refine AllReadyH.cons rfl (fun K hK => ?_) AllReadyH.nil
                  go_simp
                  go_wp2_with (go_at_call 15; refine (HQ.out.2.1 _ (by assumption)).mono ?_; rintro e' wh ⟨bh, rfl, b5, hbh⟩)
                  refine hK.out _ _ ?_ (fun hHeld => ?_)
                  · exact HSS.out _ (by assumption)
                  clear hK K
                  clear bL
                  refine wpAnyH_ready (rs := [13]) (by kernel_rfl) (by simp) ?_
                  refine AllReadyH.cons rfl (fun K hK => ?_) AllReadyH.nil
                  go_simp
                  go_wp2_with (go_at_call 26; refine (HQ.out.2.2 _ (by assumption)).mono ?_; rintro e' wo ⟨bo, rfl, b6, hbo⟩; obtain rfl : bh = bo := bool_iff hbh hbo)
                  refine hK.out _ _ ?_ (fun hHeld => ?_)
                  · exact HSS.out _ (by assumption)
                  clear hK K
                  clear b5
                  refine wpAnyH_take (i := 14) (oi := { dst := some 153, op := Op.binOp BinOp.neq 4 (Operand.tmp 148) (Operand.tmp 152) 4, type := 4, pos := "plain.go:112", after := #[{ on := 9, ground := Ground.data }, { on := 13, ground := Ground.data }, { on := 5, ground := Ground.guard }], guard := some (5, false) }) (v := ?v204) rfl (by kernel_rfl) (by kernel_rfl) (by kernel_rfl) (fun _ _ _ h => h) (Or.inl ⟨by rfl, ?h204⟩) (by assumption) ?r204
                  case h204 => (intro w0 hSw; (try dsimp only at hSw); go_simp; try (with_reducible rfl))
                  simp only [Act.put, List.setIfInBounds_toArray, List.set_cons_zero, List.set_cons_succ]
                  refine wpAnyH_take (i := 15) (oi := { dst := some 154, op := Op.pick (Operand.tmp 144) (Operand.const (Value.bool true)) (Operand.tmp 153), type := 4, pos := "plain.go:112", after := #[{ on := 5, ground := Ground.data }, { on := 14, ground := Ground.data }], guard := none }) (v := ?v205) rfl (by kernel_rfl) (by kernel_rfl) (by kernel_rfl) (fun _ _ _ h => h) (Or.inl ⟨by rfl, ?h205⟩) (by assumption) ?r205
                  case h205 => (intro w0 hSw; (try dsimp only at hSw); go_simp; try (with_reducible rfl))
                  simp only [Act.put, List.setIfInBounds_toArray, List.set_cons_zero, List.set_cons_succ]
                  refine wpAnyH_done (by kernel_rfl) ?_ _
                  go_wp2_with fail
                  exact ⟨⟨i + 1, T', bs', ms', x', nxtA 5 s A, by push_cast; rfl, hlt, Hid.mk (by have := HZZ.out.below (by assumption); rw [← HMM.out] at this; exact this)⟩, by simp only [intOf]; omega⟩
            · as_aux_lemma =>
                have hf1 : (((s.size : Nat) : Int) == (n : Int)) = true := by simpa using (by omega : ((s.size : Nat) : Int) = (n : Int))
                have n0 : ¬ (0 : Int) ≤ N := hN0
                have n1 : N < 0 := by omega
                have n3 : decide ((0 : Int) ≤ N) = false := by simp; omega
                have n4 : decide (N < 0) = true := by simp; omega
                clear hs hN0
                go_wp2_with fail
                obtain ⟨wz, hwz⟩ : ∃ wz, wz = w4.alloc (.cells #[.bool y, .int .i64 e, .slice va len vc, .int .i64 q1, .int .i64 q2, .int .i64 q3, .int .i64 q4] 42) := ⟨_, rfl⟩
                rw [← hwz]
                rw [← hwz] at HGB e0 e1 e2
                have z3 : wz.cell? ⟨w4.heap.size, 1, none⟩ = some (.int .i64 e) := by rw [hwz]; go_simp
                have z4 : wz.cell? ⟨w4.heap.size, 2, none⟩ = some (.slice va len vc) := by rw [hwz]; go_simp
                obtain ⟨gw, hgw⟩ : ∃ gw, gw = w4.heap.size := ⟨_, rfl⟩
                rw [← hgw] at z3 z4 ⊢
                have z1 := e1
                have z2 := e2
                have HZZ := Hid.mk (HZ.out.below HGB.out)
                clear hwz hgw e0 e1 e2 d0 d1 d2
                have HMM := Hid.mk HA.out.2.2.2.1
                have HQ := Hid.mk (HZZ.out.asks (HW.out) hW0 s (by have := HMM.out; omega))
                rw [← HMM.out] at HQ
                have HSS := Hid.mk (show ∀ w', Below wz.heap.size wz w' → (Below wz.heap.size wz w' ∧ w'.cell? ⟨gb, 1, none⟩ = some (.string s) ∧ w'.cell? ⟨gb, 2, none⟩ = some (.int .i64 N) ∧ w'.cell? ⟨gw, 1, none⟩ = some (.int .i64 e) ∧ w'.cell? ⟨gw, 2, none⟩ = some (.slice va len vc)) from fun w' b => ⟨b, cell_lat b z1, cell_lat b z2, cell_lat b z3, cell_lat b z4⟩)
                refine wp_region_held_drew (S := fun w' => Below wz.heap.size wz w' ∧ w'.cell? ⟨gb, 1, none⟩ = some (.string s) ∧ w'.cell? ⟨gb, 2, none⟩ = some (.int .i64 N) ∧ w'.cell? ⟨gw, 1, none⟩ = some (.int .i64 e) ∧ w'.cell? ⟨gw, 2, none⟩ = some (.slice va len vc)) (by kernel_rfl) ?_ (fun hHeld => ?_)
                · exact ⟨(Below.refl _ wz).drew, z1, z2, z3, z4⟩
                refine wpAnyH_take (i := 0) (oi := { dst := some 109, op := Op.move (Operand.tmp 12), type := 4, pos := "plain.go:108", after := #[], guard := none }) (v := ?v157) rfl (by kernel_rfl) (by kernel_rfl) (by kernel_rfl) (fun _ _ _ h => h) (Or.inl ⟨by rfl, ?h157⟩) (by assumption) ?r157
                case h157 => (intro w0 hSw; (try dsimp only at hSw); go_simp; try (with_reducible rfl))
                simp only [Act.put, List.setIfInBounds_toArray, List.set_cons_zero, List.set_cons_succ]
                refine wpAnyH_take (i := 1) (oi := { dst := some 110, op := Op.move (Operand.tmp 109), type := 4, pos := "plain.go:108", after := #[{ on := 0, ground := Ground.data }], guard := none }) (v := ?v158) rfl (by kernel_rfl) (by kernel_rfl) (by kernel_rfl) (fun _ _ _ h => h) (Or.inl ⟨by rfl, ?h158⟩) (by assumption) ?r158
                case h158 => (intro w0 hSw; (try dsimp only at hSw); go_simp; try (with_reducible rfl))
                simp only [Act.put, List.setIfInBounds_toArray, List.set_cons_zero, List.set_cons_succ]
                refine wpAnyH_take (i := 2) (oi := { dst := some 111, op := Op.fieldAddr 40 (Operand.tmp 9) 2, type := 0, pos := "plain.go:108", after := #[{ on := 1, ground := Ground.guard }], guard := some (1, true) }) (v := ?v159) rfl (by kernel_rfl) (by kernel_rfl) (by kernel_rfl) (fun _ _ _ h => h) (Or.inl ⟨by rfl, ?h159⟩) (by assumption) ?r159
                case h159 => (intro w0 hSw; (try dsimp only at hSw); go_simp; try (with_reducible rfl))
                simp only [Act.put, List.setIfInBounds_toArray, List.set_cons_zero, List.set_cons_succ]
                refine wpAnyH_take (i := 3) (oi := { dst := some 112, op := Op.load 3 (Operand.tmp 111), type := 3, pos := "plain.go:108", after := #[{ on := 2, ground := Ground.data }, { on := 1, ground := Ground.guard }], guard := some (1, true) }) (v := ?v160) rfl (by kernel_rfl) (by kernel_rfl) (by kernel_rfl) (fun _ _ _ h => h) (Or.inl ⟨by rfl, ?h160⟩) (by assumption) ?r160
                case h160 => (intro w0 hSw; (try dsimp only at hSw); go_simp; try (with_reducible rfl))
                simp only [Act.put, List.setIfInBounds_toArray, List.set_cons_zero, List.set_cons_succ]
                refine wpAnyH_take (i := 4) (oi := { dst := some 113, op := Op.binOp BinOp.geq 3 (Operand.tmp 112) (Operand.const (Value.int IntKind.i64 0)) 3, type := 4, pos := "plain.go:108", after := #[{ on := 3, ground := Ground.data }, { on := 1, ground := Ground.guard }], guard := some (1, true) }) (v := ?v161) rfl (by kernel_rfl) (by kernel_rfl) (by kernel_rfl) (fun _ _ _ h => h) (Or.inl ⟨by rfl, ?h161⟩) (by assumption) ?r161
                case h161 => (intro w0 hSw; (try dsimp only at hSw); go_simp; try (with_reducible rfl))
                simp only [Act.put, List.setIfInBounds_toArray, List.set_cons_zero, List.set_cons_succ]
                refine wpAnyH_take (i := 5) (oi := { dst := some 114, op := Op.pick (Operand.tmp 110) (Operand.tmp 113) (Operand.const (Value.bool false)), type := 4, pos := "plain.go:108", after := #[{ on := 1, ground := Ground.data }, { on := 4, ground := Ground.data }], guard := none }) (v := ?v162) rfl (by kernel_rfl) (by kernel_rfl) (by kernel_rfl) (fun _ _ _ h => h) (Or.inl ⟨by rfl, ?h162⟩) (by assumption) ?r162
                case h162 => (intro w0 hSw; (try dsimp only at hSw); go_simp; try (with_reducible rfl))
                simp only [Act.put, List.setIfInBounds_toArray, List.set_cons_zero, List.set_cons_succ]
                refine wpAnyH_take (i := 6) (oi := { dst := some 115, op := Op.move (Operand.tmp 114), type := 4, pos := "plain.go:108", after := #[{ on := 5, ground := Ground.data }, { on := 1, ground := Ground.chain }], guard := none }) (v := ?v163) rfl (by kernel_rfl) (by kernel_rfl) (by kernel_rfl) (fun _ _ _ h => h) (Or.inl ⟨by rfl, ?h163⟩) (by assumption) ?r163
                case h163 => (intro w0 hSw; (try dsimp only at hSw); go_simp; try (with_reducible rfl))
                simp only [Act.put, List.setIfInBounds_toArray, List.set_cons_zero, List.set_cons_succ]
                refine wpAnyH_take (i := 7) (oi := { dst := some 116, op := Op.fieldAddr 40 (Operand.tmp 9) 2, type := 0, pos := "plain.go:108", after := #[{ on := 6, ground := Ground.guard }], guard := some (6, true) }) rfl (by kernel_rfl) (by kernel_rfl) (by kernel_rfl) (fun _ _ _ h => h) (Or.inr ⟨by rfl, rfl⟩) (by assumption) ?_
                simp only [Act.put, List.setIfInBounds_toArray, List.set_cons_zero, List.set_cons_succ]
                refine wpAnyH_take (i := 8) (oi := { dst := some 117, op := Op.load 3 (Operand.tmp 116), type := 3, pos := "plain.go:108", after := #[{ on := 7, ground := Ground.data }, { on := 6, ground := Ground.guard }], guard := some (6, true) }) rfl (by kernel_rfl) (by kernel_rfl) (by kernel_rfl) (fun _ _ _ h => h) (Or.inr ⟨by rfl, rfl⟩) (by assumption) ?_
                simp only [Act.put, List.setIfInBounds_toArray, List.set_cons_zero, List.set_cons_succ]
                refine wpAnyH_take (i := 9) (oi := { dst := some 118, op := Op.binOp BinOp.leq 3 (Operand.tmp 117) (Operand.const (Value.int IntKind.i64 4096)) 3, type := 4, pos := "plain.go:108", after := #[{ on := 8, ground := Ground.data }, { on := 6, ground := Ground.guard }], guard := some (6, true) }) rfl (by kernel_rfl) (by kernel_rfl) (by kernel_rfl) (fun _ _ _ h => h) (Or.inr ⟨by rfl, rfl⟩) (by assumption) ?_
                simp only [Act.put, List.setIfInBounds_toArray, List.set_cons_zero, List.set_cons_succ]
                refine wpAnyH_take (i := 10) (oi := { dst := some 119, op := Op.pick (Operand.tmp 115) (Operand.tmp 118) (Operand.const (Value.bool false)), type := 4, pos := "plain.go:108", after := #[{ on := 6, ground := Ground.data }, { on := 9, ground := Ground.data }], guard := none }) (v := ?v164) rfl (by kernel_rfl) (by kernel_rfl) (by kernel_rfl) (fun _ _ _ h => h) (Or.inl ⟨by rfl, ?h164⟩) (by assumption) ?r164
                case h164 => (intro w0 hSw; (try dsimp only at hSw); go_simp; try (with_reducible rfl))
                simp only [Act.put, List.setIfInBounds_toArray, List.set_cons_zero, List.set_cons_succ]
                refine wpAnyH_take (i := 11) (oi := { dst := some 120, op := Op.move (Operand.tmp 119), type := 4, pos := "plain.go:108", after := #[{ on := 10, ground := Ground.data }, { on := 6, ground := Ground.chain }], guard := none }) (v := ?v165) rfl (by kernel_rfl) (by kernel_rfl) (by kernel_rfl) (fun _ _ _ h => h) (Or.inl ⟨by rfl, ?h165⟩) (by assumption) ?r165
                case h165 => (intro w0 hSw; (try dsimp only at hSw); go_simp; try (with_reducible rfl))
                simp only [Act.put, List.setIfInBounds_toArray, List.set_cons_zero, List.set_cons_succ]
                refine wpAnyH_take (i := 12) (oi := { dst := some 121, op := Op.fieldAddr 42 (Operand.tmp 11) 1, type := 0, pos := "plain.go:108", after := #[{ on := 11, ground := Ground.guard }], guard := some (11, true) }) rfl (by kernel_rfl) (by kernel_rfl) (by kernel_rfl) (fun _ _ _ h => h) (Or.inr ⟨by rfl, rfl⟩) (by assumption) ?_
                simp only [Act.put, List.setIfInBounds_toArray, List.set_cons_zero, List.set_cons_succ]
                refine wpAnyH_take (i := 13) (oi := { dst := some 122, op := Op.load 3 (Operand.tmp 121), type := 3, pos := "plain.go:108", after := #[{ on := 12, ground := Ground.data }, { on := 11, ground := Ground.guard }], guard := some (11, true) }) rfl (by kernel_rfl) (by kernel_rfl) (by kernel_rfl) (fun _ _ _ h => h) (Or.inr ⟨by rfl, rfl⟩) (by assumption) ?_
                simp only [Act.put, List.setIfInBounds_toArray, List.set_cons_zero, List.set_cons_succ]
                refine wpAnyH_take (i := 14) (oi := { dst := some 123, op := Op.binOp BinOp.neq 3 (Operand.tmp 122) (Operand.const (Value.int IntKind.i64 0)) 3, type := 4, pos := "plain.go:108", after := #[{ on := 13, ground := Ground.data }, { on := 11, ground := Ground.guard }], guard := some (11, true) }) rfl (by kernel_rfl) (by kernel_rfl) (by kernel_rfl) (fun _ _ _ h => h) (Or.inr ⟨by rfl, rfl⟩) (by assumption) ?_
                simp only [Act.put, List.setIfInBounds_toArray, List.set_cons_zero, List.set_cons_succ]
                refine wpAnyH_take (i := 15) (oi := { dst := some 124, op := Op.move (Operand.tmp 123), type := 4, pos := "plain.go:108", after := #[{ on := 14, ground := Ground.data }, { on := 11, ground := Ground.chain }, { on := 11, ground := Ground.guard }], guard := some (11, true) }) rfl (by kernel_rfl) (by kernel_rfl) (by kernel_rfl) (fun _ _ _ h => h) (Or.inr ⟨by rfl, rfl⟩) (by assumption) ?_
                simp only [Act.put, List.setIfInBounds_toArray, List.set_cons_zero, List.set_cons_succ]
                refine wpAnyH_take (i := 16) (oi := { dst := some 125, op := Op.fieldAddr 42 (Operand.tmp 11) 2, type := 0, pos := "plain.go:108", after := #[{ on := 15, ground := Ground.guard }], guard := some (15, false) }) rfl (by kernel_rfl) (by kernel_rfl) (by kernel_rfl) (fun _ _ _ h => h) (Or.inr ⟨by rfl, rfl⟩) (by assumption) ?_
                simp only [Act.put, List.setIfInBounds_toArray, List.set_cons_zero, List.set_cons_succ]
                refine wpAnyH_take (i := 17) (oi := { dst := some 126, op := Op.load 32 (Operand.tmp 125), type := 32, pos := "plain.go:108", after := #[{ on := 16, ground := Ground.data }, { on := 15, ground := Ground.guard }], guard := some (15, false) }) rfl (by kernel_rfl) (by kernel_rfl) (by kernel_rfl) (fun _ _ _ h => h) (Or.inr ⟨by rfl, rfl⟩) (by assumption) ?_
                simp only [Act.put, List.setIfInBounds_toArray, List.set_cons_zero, List.set_cons_succ]
                refine wpAnyH_take (i := 18) (oi := { dst := some 127, op := Op.move (Operand.tmp 7), type := 45, pos := "plain.go:108", after := #[{ on := 15, ground := Ground.guard }], guard := some (15, false) }) rfl (by kernel_rfl) (by kernel_rfl) (by kernel_rfl) (fun _ _ _ h => h) (Or.inr ⟨by rfl, rfl⟩) (by assumption) ?_
                simp only [Act.put, List.setIfInBounds_toArray, List.set_cons_zero, List.set_cons_succ]
                refine wpAnyH_take (i := 19) (oi := { dst := some 128, op := Op.fieldAddr 40 (Operand.tmp 9) 1, type := 0, pos := "plain.go:108", after := #[{ on := 15, ground := Ground.guard }], guard := some (15, false) }) rfl (by kernel_rfl) (by kernel_rfl) (by kernel_rfl) (fun _ _ _ h => h) (Or.inr ⟨by rfl, rfl⟩) (by assumption) ?_
                simp only [Act.put, List.setIfInBounds_toArray, List.set_cons_zero, List.set_cons_succ]
                refine wpAnyH_take (i := 20) (oi := { dst := some 129, op := Op.load 9 (Operand.tmp 128), type := 9, pos := "plain.go:108", after := #[{ on := 19, ground := Ground.data }, { on := 15, ground := Ground.guard }], guard := some (15, false) }) rfl (by kernel_rfl) (by kernel_rfl) (by kernel_rfl) (fun _ _ _ h => h) (Or.inr ⟨by rfl, rfl⟩) (by assumption) ?_
                simp only [Act.put, List.setIfInBounds_toArray, List.set_cons_zero, List.set_cons_succ]
                refine wpAnyH_take (i := 21) (oi := { dst := some 130, op := Op.move (Operand.tmp 0), type := 3, pos := "plain.go:108", after := #[{ on := 15, ground := Ground.guard }], guard := some (15, false) }) rfl (by kernel_rfl) (by kernel_rfl) (by kernel_rfl) (fun _ _ _ h => h) (Or.inr ⟨by rfl, rfl⟩) (by assumption) ?_
                simp only [Act.put, List.setIfInBounds_toArray, List.set_cons_zero, List.set_cons_succ]
                refine wpAnyH_take (i := 22) (oi := { dst := some 131, op := Op.call { callee := Callee.value (Operand.func 24), args := #[Operand.tmp 127, Operand.tmp 129, Operand.tmp 130], argTypes := #[45, 9, 3] }, type := 32, pos := "plain.go:108", after := #[{ on := 18, ground := Ground.data }, { on := 20, ground := Ground.data }, { on := 21, ground := Ground.data }, { on := 15, ground := Ground.chain }, { on := 15, ground := Ground.guard }], guard := some (15, false) }) rfl (by kernel_rfl) (by kernel_rfl) (by kernel_rfl) (fun _ _ _ h => h) (Or.inr ⟨by rfl, rfl⟩) (by assumption) ?_
                simp only [Act.put, List.setIfInBounds_toArray, List.set_cons_zero, List.set_cons_succ]
                refine wpAnyH_take (i := 23) (oi := { dst := some 132, op := Op.fieldAddr 40 (Operand.tmp 9) 2, type := 0, pos := "plain.go:108", after := #[{ on := 15, ground := Ground.guard }], guard := some (15, false) }) rfl (by kernel_rfl) (by kernel_rfl) (by kernel_rfl) (fun _ _ _ h => h) (Or.inr ⟨by rfl, rfl⟩) (by assumption) ?_
                simp only [Act.put, List.setIfInBounds_toArray, List.set_cons_zero, List.set_cons_succ]
                refine wpAnyH_take (i := 24) (oi := { dst := some 133, op := Op.load 3 (Operand.tmp 132), type := 3, pos := "plain.go:108", after := #[{ on := 23, ground := Ground.data }, { on := 15, ground := Ground.guard }], guard := some (15, false) }) rfl (by kernel_rfl) (by kernel_rfl) (by kernel_rfl) (fun _ _ _ h => h) (Or.inr ⟨by rfl, rfl⟩) (by assumption) ?_
                simp only [Act.put, List.setIfInBounds_toArray, List.set_cons_zero, List.set_cons_succ]
                refine wpAnyH_take (i := 25) (oi := { dst := some 134, op := Op.call { callee := Callee.value (Operand.func 25), args := #[Operand.tmp 131, Operand.tmp 133], argTypes := #[32, 3] }, type := 32, pos := "plain.go:108", after := #[{ on := 22, ground := Ground.data }, { on := 24, ground := Ground.data }, { on := 22, ground := Ground.chain }, { on := 15, ground := Ground.guard }], guard := some (15, false) }) rfl (by kernel_rfl) (by kernel_rfl) (by kernel_rfl) (fun _ _ _ h => h) (Or.inr ⟨by rfl, rfl⟩) (by assumption) ?_
                simp only [Act.put, List.setIfInBounds_toArray, List.set_cons_zero, List.set_cons_succ]
                refine wpAnyH_take (i := 26) (oi := { dst := some 135, op := Op.call { callee := Callee.value (Operand.func 23), args := #[Operand.tmp 126, Operand.tmp 134], argTypes := #[32, 32] }, type := 4, pos := "plain.go:108", after := #[{ on := 17, ground := Ground.data }, { on := 25, ground := Ground.data }, { on := 25, ground := Ground.chain }, { on := 15, ground := Ground.guard }], guard := some (15, false) }) rfl (by kernel_rfl) (by kernel_rfl) (by kernel_rfl) (fun _ _ _ h => h) (Or.inr ⟨by rfl, rfl⟩) (by assumption) ?_
                simp only [Act.put, List.setIfInBounds_toArray, List.set_cons_zero, List.set_cons_succ]
                refine wpAnyH_take (i := 27) (oi := { dst := some 136, op := Op.unOp UnOp.not 4 (Operand.tmp 135), type := 4, pos := "plain.go:108", after := #[{ on := 26, ground := Ground.data }, { on := 15, ground := Ground.guard }], guard := some (15, false) }) rfl (by kernel_rfl) (by kernel_rfl) (by kernel_rfl) (fun _ _ _ h => h) (Or.inr ⟨by rfl, rfl⟩) (by assumption) ?_
                simp only [Act.put, List.setIfInBounds_toArray, List.set_cons_zero, List.set_cons_succ]
                refine wpAnyH_take (i := 28) (oi := { dst := some 137, op := Op.pick (Operand.tmp 124) (Operand.const (Value.bool true)) (Operand.tmp 136), type := 4, pos := "plain.go:108", after := #[{ on := 15, ground := Ground.data }, { on := 27, ground := Ground.data }, { on := 11, ground := Ground.guard }], guard := some (11, true) }) rfl (by kernel_rfl) (by kernel_rfl) (by kernel_rfl) (fun _ _ _ h => h) (Or.inr ⟨by rfl, rfl⟩) (by assumption) ?_
                simp only [Act.put, List.setIfInBounds_toArray, List.set_cons_zero, List.set_cons_succ]
                refine wpAnyH_take (i := 29) (oi := { dst := some 138, op := Op.pick (Operand.tmp 120) (Operand.tmp 137) (Operand.const (Value.bool false)), type := 4, pos := "plain.go:108", after := #[{ on := 11, ground := Ground.data }, { on := 28, ground := Ground.data }], guard := none }) (v := ?v166) rfl (by kernel_rfl) (by kernel_rfl) (by kernel_rfl) (fun _ _ _ h => h) (Or.inl ⟨by rfl, ?h166⟩) (by assumption) ?r166
                case h166 => (intro w0 hSw; (try dsimp only at hSw); go_simp; try (with_reducible rfl))
                simp only [Act.put, List.setIfInBounds_toArray, List.set_cons_zero, List.set_cons_succ]
                refine wpAnyH_done (by kernel_rfl) ?_ _
                obtain ⟨wy, hwy⟩ : ∃ wy, wy = wz.drew := ⟨_, rfl⟩
                rw [← hwy]
                have bY : Below wz.heap.size wz wy := by rw [hwy]; exact (Below.refl _ wz).drew
                have HZ2 := Hid.mk (HZZ.out.below bY)
                obtain ⟨-, y1, y2, y3, y4⟩ := HSS.out _ bY
                clear z1 z2 z3 z4 HZZ HQ HSS HMM bY hwy 
                have z1 := y1
                have z2 := y2
                have z3 := y3
                have z4 := y4
                clear y1 y2 y3 y4
                have HZZ := HZ2
                clear HZ2
                go_wp2_with fail
                have HMM := Hid.mk HA.out.2.2.2.1
                have HQ := Hid.mk (HZZ.out.asks (HW.out) hW0 s (by have := HMM.out; omega))
                rw [← HMM.out] at HQ
                have HSS := Hid.mk (show ∀ w', Below wy.heap.size wy w' → (Below wy.heap.size wy w' ∧ w'.cell? ⟨gb, 1, none⟩ = some (.string s) ∧ w'.cell? ⟨gb, 2, none⟩ = some (.int .i64 N) ∧ w'.cell? ⟨gw, 1, none⟩ = some (.int .i64 e) ∧ w'.cell? ⟨gw, 2, none⟩ = some (.slice va len vc)) from fun w' b => ⟨b, cell_lat b z1, cell_lat b z2, cell_lat b z3, cell_lat b z4⟩)
                refine wp_region_held_drew (S := fun w' => Below wy.heap.size wy w' ∧ w'.cell? ⟨gb, 1, none⟩ = some (.string s) ∧ w'.cell? ⟨gb, 2, none⟩ = some (.int .i64 N) ∧ w'.cell? ⟨gw, 1, none⟩ = some (.int .i64 e) ∧ w'.cell? ⟨gw, 2, none⟩ = some (.slice va len vc)) (by kernel_rfl) ?_ (fun hHeld => ?_)
                · exact ⟨(Below.refl _ wy).drew, z1, z2, z3, z4⟩
                refine wpAnyH_take (i := 0) (oi := { dst := some 139, op := Op.move (Operand.tmp 6), type := 24, pos := "plain.go:112", after := #[], guard := none }) (v := ?v167) rfl (by kernel_rfl) (by kernel_rfl) (by kernel_rfl) (fun _ _ _ h => h) (Or.inl ⟨by rfl, ?h167⟩) (by assumption) ?r167
                case h167 => (intro w0 hSw; (try dsimp only at hSw); go_simp; try (with_reducible rfl))
                simp only [Act.put, List.setIfInBounds_toArray, List.set_cons_zero, List.set_cons_succ]
                refine wpAnyH_take (i := 2) (oi := { dst := some 141, op := Op.move (Operand.tmp 7), type := 45, pos := "plain.go:112", after := #[], guard := none }) (v := ?v168) rfl (by kernel_rfl) (by kernel_rfl) (by kernel_rfl) (fun _ _ _ h => h) (Or.inl ⟨by rfl, ?h168⟩) (by assumption) ?r168
                case h168 => (intro w0 hSw; (try dsimp only at hSw); go_simp; try (with_reducible rfl))
                simp only [Act.put, List.setIfInBounds_toArray, List.set_cons_zero, List.set_cons_succ]
                refine wpAnyH_take (i := 3) (oi := { dst := some 142, op := Op.call { callee := Callee.builtin Builtin.len, args := #[Operand.tmp 141], argTypes := #[45] }, type := 3, pos := "plain.go:112", after := #[{ on := 2, ground := Ground.data }], guard := none }) (v := ?v169) rfl (by kernel_rfl) (by kernel_rfl) (by kernel_rfl) (fun _ _ _ h => h) (Or.inl ⟨by rfl, ?h169⟩) (by assumption) ?r169
                case h169 => (intro w0 hSw; (try dsimp only at hSw); go_simp; try (with_reducible rfl))
                simp only [Act.put, List.setIfInBounds_toArray, List.set_cons_zero, List.set_cons_succ]
                refine wpAnyH_ready (rs := [1]) (by kernel_rfl) (by simp) ?_
                refine AllReadyH.cons rfl (fun K hK => ?_) AllReadyH.nil
                go_simp
                go_wp2_with (go_at_call 18; refine (HQ.out.1 _ (Below.refl _ wy).drew).mono ?_; rintro e' w' ⟨rfl, he'⟩; subst he'; have bL := (Below.refl wy.heap.size wy).drew)
                refine hK.out _ _ ?_ (fun hHeld => ?_)
                · exact HSS.out _ (by assumption)
                clear hK K
                refine wpAnyH_take (i := 4) (oi := { dst := some 143, op := Op.binOp BinOp.neq 3 (Operand.tmp 140) (Operand.tmp 142) 3, type := 4, pos := "plain.go:112", after := #[{ on := 1, ground := Ground.data }, { on := 3, ground := Ground.data }], guard := none }) (v := ?v170) rfl (by kernel_rfl) (by kernel_rfl) (by kernel_rfl) (fun _ _ _ h => h) (Or.inl ⟨by rfl, ?h170⟩) (by assumption) ?r170
                case h170 => (intro w0 hSw; (try dsimp only at hSw); go_simp; try (with_reducible rfl))
                simp only [Act.put, List.setIfInBounds_toArray, List.set_cons_zero, List.set_cons_succ]
                refine wpAnyH_take (i := 5) (oi := { dst := some 144, op := Op.move (Operand.tmp 143), type := 4, pos := "plain.go:112", after := #[{ on := 4, ground := Ground.data }, { on := 1, ground := Ground.chain }], guard := none }) (v := ?v171) rfl (by kernel_rfl) (by kernel_rfl) (by kernel_rfl) (fun _ _ _ h => h) (Or.inl ⟨by rfl, ?h171⟩) (by assumption) ?r171
                case h171 => (intro w0 hSw; (try dsimp only at hSw); go_simp; try (with_reducible rfl))
                simp only [Act.put, List.setIfInBounds_toArray, List.set_cons_zero, List.set_cons_succ]
                refine wpAnyH_take (i := 6) (oi := { dst := some 145, op := Op.move (Operand.tmp 6), type := 24, pos := "plain.go:112", after := #[{ on := 5, ground := Ground.guard }], guard := some (5, false) }) (v := ?v172) rfl (by kernel_rfl) (by kernel_rfl) (by kernel_rfl) (fun _ _ _ h => h) (Or.inl ⟨by rfl, ?h172⟩) (by assumption) ?r172
                case h172 => (intro w0 hSw; (try dsimp only at hSw); go_simp; try (with_reducible rfl))
                simp only [Act.put, List.setIfInBounds_toArray, List.set_cons_zero, List.set_cons_succ]
                refine wpAnyH_take (i := 7) (oi := { dst := some 146, op := Op.fieldAddr 40 (Operand.tmp 9) 1, type := 0, pos := "plain.go:112", after := #[{ on := 5, ground := Ground.guard }], guard := some (5, false) }) (v := ?v173) rfl (by kernel_rfl) (by kernel_rfl) (by kernel_rfl) (fun _ _ _ h => h) (Or.inl ⟨by rfl, ?h173⟩) (by assumption) ?r173
                case h173 => (intro w0 hSw; (try dsimp only at hSw); go_simp; try (with_reducible rfl))
                simp only [Act.put, List.setIfInBounds_toArray, List.set_cons_zero, List.set_cons_succ]
                refine wpAnyH_take (i := 8) (oi := { dst := some 147, op := Op.load 9 (Operand.tmp 146), type := 9, pos := "plain.go:112", after := #[{ on := 7, ground := Ground.data }, { on := 5, ground := Ground.guard }], guard := some (5, false) }) (v := ?v174) rfl (by kernel_rfl) (by kernel_rfl) (by kernel_rfl) (fun _ _ _ h => h) (Or.inl ⟨by rfl, ?h174⟩) (by assumption) ?r174
                case h174 => (intro w0 hSw; (try dsimp only at hSw); go_simp; try (with_reducible rfl))
                simp only [Act.put, List.setIfInBounds_toArray, List.set_cons_zero, List.set_cons_succ]
                refine wpAnyH_take (i := 10) (oi := { dst := some 149, op := Op.move (Operand.tmp 7), type := 45, pos := "plain.go:112", after := #[{ on := 5, ground := Ground.guard }], guard := some (5, false) }) (v := ?v175) rfl (by kernel_rfl) (by kernel_rfl) (by kernel_rfl) (fun _ _ _ h => h) (Or.inl ⟨by rfl, ?h175⟩) (by assumption) ?r175
                case h175 => (intro w0 hSw; (try dsimp only at hSw); go_simp; try (with_reducible rfl))
                simp only [Act.put, List.setIfInBounds_toArray, List.set_cons_zero, List.set_cons_succ]
                refine wpAnyH_take (i := 11) (oi := { dst := some 150, op := Op.fieldAddr 40 (Operand.tmp 9) 1, type := 0, pos := "plain.go:112", after := #[{ on := 5, ground := Ground.guard }], guard := some (5, false) }) (v := ?v176) rfl (by kernel_rfl) (by kernel_rfl) (by kernel_rfl) (fun _ _ _ h => h) (Or.inl ⟨by rfl, ?h176⟩) (by assumption) ?r176
                case h176 => (intro w0 hSw; (try dsimp only at hSw); go_simp; try (with_reducible rfl))
                simp only [Act.put, List.setIfInBounds_toArray, List.set_cons_zero, List.set_cons_succ]
                refine wpAnyH_take (i := 12) (oi := { dst := some 151, op := Op.load 9 (Operand.tmp 150), type := 9, pos := "plain.go:112", after := #[{ on := 11, ground := Ground.data }, { on := 5, ground := Ground.guard }], guard := some (5, false) }) (v := ?v177) rfl (by kernel_rfl) (by kernel_rfl) (by kernel_rfl) (fun _ _ _ h => h) (Or.inl ⟨by rfl, ?h177⟩) (by assumption) ?r177
                case h177 => (intro w0 hSw; (try dsimp only at hSw); go_simp; try (with_reducible rfl))
                simp only [Act.put, List.setIfInBounds_toArray, List.set_cons_zero, List.set_cons_succ]
                refine wpAnyH_ready (rs := [9]) (by kernel_rfl) (by simp) ?_
                refine AllReadyH.cons rfl (fun K hK => ?_) AllReadyH.nil
                go_simp
                go_wp2_with (go_at_call 15; refine (HQ.out.2.1 _ (by assumption)).mono ?_; rintro e' wh ⟨bh, rfl, b5, hbh⟩)
                refine hK.out _ _ ?_ (fun hHeld => ?_)
                · exact HSS.out _ (by assumption)
                clear hK K
                clear bL
                refine wpAnyH_ready (rs := [13]) (by kernel_rfl) (by simp) ?_
                refine AllReadyH.cons rfl (fun K hK => ?_) AllReadyH.nil
                go_simp
                go_wp2_with (go_at_call 26; refine (HQ.out.2.2 _ (by assumption)).mono ?_; rintro e' wo ⟨bo, rfl, b6, hbo⟩; obtain rfl : bh = bo := bool_iff hbh hbo)
                refine hK.out _ _ ?_ (fun hHeld => ?_)
                · exact HSS.out _ (by assumption)
                clear hK K
                clear b5
                refine wpAnyH_take (i := 14) (oi := { dst := some 153, op := Op.binOp BinOp.neq 4 (Operand.tmp 148) (Operand.tmp 152) 4, type := 4, pos := "plain.go:112", after := #[{ on := 9, ground := Ground.data }, { on := 13, ground := Ground.data }, { on := 5, ground := Ground.guard }], guard := some (5, false) }) (v := ?v178) rfl (by kernel_rfl) (by kernel_rfl) (by kernel_rfl) (fun _ _ _ h => h) (Or.inl ⟨by rfl, ?h178⟩) (by assumption) ?r178
                case h178 => (intro w0 hSw; (try dsimp only at hSw); go_simp; try (with_reducible rfl))
                simp only [Act.put, List.setIfInBounds_toArray, List.set_cons_zero, List.set_cons_succ]
                refine wpAnyH_take (i := 15) (oi := { dst := some 154, op := Op.pick (Operand.tmp 144) (Operand.const (Value.bool true)) (Operand.tmp 153), type := 4, pos := "plain.go:112", after := #[{ on := 5, ground := Ground.data }, { on := 14, ground := Ground.data }], guard := none }) (v := ?v179) rfl (by kernel_rfl) (by kernel_rfl) (by kernel_rfl) (fun _ _ _ h => h) (Or.inl ⟨by rfl, ?h179⟩) (by assumption) ?r179
                case h179 => (intro w0 hSw; (try dsimp only at hSw); go_simp; try (with_reducible rfl))
                simp only [Act.put, List.setIfInBounds_toArray, List.set_cons_zero, List.set_cons_succ]
                refine wpAnyH_done (by kernel_rfl) ?_ _
                go_wp2_with fail
                exact ⟨⟨i + 1, T', bs', ms', x', nxtA 5 s A, by push_cast; rfl, hlt, Hid.mk (by have := HZZ.out.below (by assumption); rw [← HMM.out] at this; exact this)⟩, by simp only [intOf]; omega⟩
          · as_aux_lemma =>
              have hf1 : (((s.size : Nat) : Int) == (n : Int)) = false := by simpa using (by omega : ((s.size : Nat) : Int) ≠ (n : Int))
              clear hs
              go_wp2_with fail
              obtain ⟨wz, hwz⟩ : ∃ wz, wz = w4.alloc (.cells #[.bool y, .int .i64 e, .slice va len vc, .int .i64 q1, .int .i64 q2, .int .i64 q3, .int .i64 q4] 42) := ⟨_, rfl⟩
              rw [← hwz]
              rw [← hwz] at HGB e0 e1 e2
              have z3 : wz.cell? ⟨w4.heap.size, 1, none⟩ = some (.int .i64 e) := by rw [hwz]; go_simp
              have z4 : wz.cell? ⟨w4.heap.size, 2, none⟩ = some (.slice va len vc) := by rw [hwz]; go_simp
              obtain ⟨gw, hgw⟩ : ∃ gw, gw = w4.heap.size := ⟨_, rfl⟩
              rw [← hgw] at z3 z4 ⊢
              have z1 := e1
              have z2 := e2
              have HZZ := Hid.mk (HZ.out.below HGB.out)
              clear hwz hgw e0 e1 e2 d0 d1 d2
              have HMM := Hid.mk HA.out.2.2.2.1
              have HQ := Hid.mk (HZZ.out.asks (HW.out) hW0 s (by have := HMM.out; omega))
              rw [← HMM.out] at HQ
              have HSS := Hid.mk (show ∀ w', Below wz.heap.size wz w' → (Below wz.heap.size wz w' ∧ w'.cell? ⟨gb, 1, none⟩ = some (.string s) ∧ w'.cell? ⟨gb, 2, none⟩ = some (.int .i64 N) ∧ w'.cell? ⟨gw, 1, none⟩ = some (.int .i64 e) ∧ w'.cell? ⟨gw, 2, none⟩ = some (.slice va len vc)) from fun w' b => ⟨b, cell_lat b z1, cell_lat b z2, cell_lat b z3, cell_lat b z4⟩)
              refine wp_region_held_drew (S := fun w' => Below wz.heap.size wz w' ∧ w'.cell? ⟨gb, 1, none⟩ = some (.string s) ∧ w'.cell? ⟨gb, 2, none⟩ = some (.int .i64 N) ∧ w'.cell? ⟨gw, 1, none⟩ = some (.int .i64 e) ∧ w'.cell? ⟨gw, 2, none⟩ = some (.slice va len vc)) (by kernel_rfl) ?_ (fun hHeld => ?_)
              · exact ⟨(Below.refl _ wz).drew, z1, z2, z3, z4⟩
              refine wpAnyH_take (i := 0) (oi := { dst := some 109, op := Op.move (Operand.tmp 12), type := 4, pos := "plain.go:108", after := #[], guard := none }) (v := ?v137) rfl (by kernel_rfl) (by kernel_rfl) (by kernel_rfl) (fun _ _ _ h => h) (Or.inl ⟨by rfl, ?h137⟩) (by assumption) ?r137
              case h137 => (intro w0 hSw; (try dsimp only at hSw); go_simp; try (with_reducible rfl))
              simp only [Act.put, List.setIfInBounds_toArray, List.set_cons_zero, List.set_cons_succ]
              refine wpAnyH_take (i := 1) (oi := { dst := some 110, op := Op.move (Operand.tmp 109), type := 4, pos := "plain.go:108", after := #[{ on := 0, ground := Ground.data }], guard := none }) (v := ?v138) rfl (by kernel_rfl) (by kernel_rfl) (by kernel_rfl) (fun _ _ _ h => h) (Or.inl ⟨by rfl, ?h138⟩) (by assumption) ?r138
              case h138 => (intro w0 hSw; (try dsimp only at hSw); go_simp; try (with_reducible rfl))
              simp only [Act.put, List.setIfInBounds_toArray, List.set_cons_zero, List.set_cons_succ]
              refine wpAnyH_take (i := 2) (oi := { dst := some 111, op := Op.fieldAddr 40 (Operand.tmp 9) 2, type := 0, pos := "plain.go:108", after := #[{ on := 1, ground := Ground.guard }], guard := some (1, true) }) rfl (by kernel_rfl) (by kernel_rfl) (by kernel_rfl) (fun _ _ _ h => h) (Or.inr ⟨by rfl, rfl⟩) (by assumption) ?_
              simp only [Act.put, List.setIfInBounds_toArray, List.set_cons_zero, List.set_cons_succ]
              refine wpAnyH_take (i := 3) (oi := { dst := some 112, op := Op.load 3 (Operand.tmp 111), type := 3, pos := "plain.go:108", after := #[{ on := 2, ground := Ground.data }, { on := 1, ground := Ground.guard }], guard := some (1, true) }) rfl (by kernel_rfl) (by kernel_rfl) (by kernel_rfl) (fun _ _ _ h => h) (Or.inr ⟨by rfl, rfl⟩) (by assumption) ?_
              simp only [Act.put, List.setIfInBounds_toArray, List.set_cons_zero, List.set_cons_succ]
              refine wpAnyH_take (i := 4) (oi := { dst := some 113, op := Op.binOp BinOp.geq 3 (Operand.tmp 112) (Operand.const (Value.int IntKind.i64 0)) 3, type := 4, pos := "plain.go:108", after := #[{ on := 3, ground := Ground.data }, { on := 1, ground := Ground.guard }], guard := some (1, true) }) rfl (by kernel_rfl) (by kernel_rfl) (by kernel_rfl) (fun _ _ _ h => h) (Or.inr ⟨by rfl, rfl⟩) (by assumption) ?_
              simp only [Act.put, List.setIfInBounds_toArray, List.set_cons_zero, List.set_cons_succ]
              refine wpAnyH_take (i := 5) (oi := { dst := some 114, op := Op.pick (Operand.tmp 110) (Operand.tmp 113) (Operand.const (Value.bool false)), type := 4, pos := "plain.go:108", after := #[{ on := 1, ground := Ground.data }, { on := 4, ground := Ground.data }], guard := none }) (v := ?v139) rfl (by kernel_rfl) (by kernel_rfl) (by kernel_rfl) (fun _ _ _ h => h) (Or.inl ⟨by rfl, ?h139⟩) (by assumption) ?r139
              case h139 => (intro w0 hSw; (try dsimp only at hSw); go_simp; try (with_reducible rfl))
              simp only [Act.put, List.setIfInBounds_toArray, List.set_cons_zero, List.set_cons_succ]
              refine wpAnyH_take (i := 6) (oi := { dst := some 115, op := Op.move (Operand.tmp 114), type := 4, pos := "plain.go:108", after := #[{ on := 5, ground := Ground.data }, { on := 1, ground := Ground.chain }], guard := none }) (v := ?v140) rfl (by kernel_rfl) (by kernel_rfl) (by kernel_rfl) (fun _ _ _ h => h) (Or.inl ⟨by rfl, ?h140⟩) (by assumption) ?r140
              case h140 => (intro w0 hSw; (try dsimp only at hSw); go_simp; try (with_reducible rfl))
              simp only [Act.put, List.setIfInBounds_toArray, List.set_cons_zero, List.set_cons_succ]
              refine wpAnyH_take (i := 7) (oi := { dst := some 116, op := Op.fieldAddr 40 (Operand.tmp 9) 2, type := 0, pos := "plain.go:108", after := #[{ on := 6, ground := Ground.guard }], guard := some (6, true) }) rfl (by kernel_rfl) (by kernel_rfl) (by kernel_rfl) (fun _ _ _ h => h) (Or.inr ⟨by rfl, rfl⟩) (by assumption) ?_
              simp only [Act.put, List.setIfInBounds_toArray, List.set_cons_zero, List.set_cons_succ]
              refine wpAnyH_take (i := 8) (oi := { dst := some 117, op := Op.load 3 (Operand.tmp 116), type := 3, pos := "plain.go:108", after := #[{ on := 7, ground := Ground.data }, { on := 6, ground := Ground.guard }], guard := some (6, true) }) rfl (by kernel_rfl) (by kernel_rfl) (by kernel_rfl) (fun _ _ _ h => h) (Or.inr ⟨by rfl, rfl⟩) (by assumption) ?_
              simp only [Act.put, List.setIfInBounds_toArray, List.set_cons_zero, List.set_cons_succ]
              refine wpAnyH_take (i := 9) (oi := { dst := some 118, op := Op.binOp BinOp.leq 3 (Operand.tmp 117) (Operand.const (Value.int IntKind.i64 4096)) 3, type := 4, pos := "plain.go:108", after := #[{ on := 8, ground := Ground.data }, { on := 6, ground := Ground.guard }], guard := some (6, true) }) rfl (by kernel_rfl) (by kernel_rfl) (by kernel_rfl) (fun _ _ _ h => h) (Or.inr ⟨by rfl, rfl⟩) (by assumption) ?_
              simp only [Act.put, List.setIfInBounds_toArray, List.set_cons_zero, List.set_cons_succ]
              refine wpAnyH_take (i := 10) (oi := { dst := some 119, op := Op.pick (Operand.tmp 115) (Operand.tmp 118) (Operand.const (Value.bool false)), type := 4, pos := "plain.go:108", after := #[{ on := 6, ground := Ground.data }, { on := 9, ground := Ground.data }], guard := none }) (v := ?v141) rfl (by kernel_rfl) (by kernel_rfl) (by kernel_rfl) (fun _ _ _ h => h) (Or.inl ⟨by rfl, ?h141⟩) (by assumption) ?r141
              case h141 => (intro w0 hSw; (try dsimp only at hSw); go_simp; try (with_reducible rfl))
              simp only [Act.put, List.setIfInBounds_toArray, List.set_cons_zero, List.set_cons_succ]
              refine wpAnyH_take (i := 11) (oi := { dst := some 120, op := Op.move (Operand.tmp 119), type := 4, pos := "plain.go:108", after := #[{ on := 10, ground := Ground.data }, { on := 6, ground := Ground.chain }], guard := none }) (v := ?v142) rfl (by kernel_rfl) (by kernel_rfl) (by kernel_rfl) (fun _ _ _ h => h) (Or.inl ⟨by rfl, ?h142⟩) (by assumption) ?r142
              case h142 => (intro w0 hSw; (try dsimp only at hSw); go_simp; try (with_reducible rfl))
              simp only [Act.put, List.setIfInBounds_toArray, List.set_cons_zero, List.set_cons_succ]
              refine wpAnyH_take (i := 12) (oi := { dst := some 121, op := Op.fieldAddr 42 (Operand.tmp 11) 1, type := 0, pos := "plain.go:108", after := #[{ on := 11, ground := Ground.guard }], guard := some (11, true) }) rfl (by kernel_rfl) (by kernel_rfl) (by kernel_rfl) (fun _ _ _ h => h) (Or.inr ⟨by rfl, rfl⟩) (by assumption) ?_
              simp only [Act.put, List.setIfInBounds_toArray, List.set_cons_zero, List.set_cons_succ]
              refine wpAnyH_take (i := 13) (oi := { dst := some 122, op := Op.load 3 (Operand.tmp 121), type := 3, pos := "plain.go:108", after := #[{ on := 12, ground := Ground.data }, { on := 11, ground := Ground.guard }], guard := some (11, true) }) rfl (by kernel_rfl) (by kernel_rfl) (by kernel_rfl) (fun _ _ _ h => h) (Or.inr ⟨by rfl, rfl⟩) (by assumption) ?_
              simp only [Act.put, List.setIfInBounds_toArray, List.set_cons_zero, List.set_cons_succ]
              refine wpAnyH_take (i := 14) (oi := { dst := some 123, op := Op.binOp BinOp.neq 3 (Operand.tmp 122) (Operand.const (Value.int IntKind.i64 0)) 3, type := 4, pos := "plain.go:108", after := #[{ on := 13, ground := Ground.data }, { on := 11, ground := Ground.guard }], guard := some (11, true) }) rfl (by kernel_rfl) (by kernel_rfl) (by kernel_rfl) (fun _ _ _ h => h) (Or.inr ⟨by rfl, rfl⟩) (by assumption) ?_
              simp only [Act.put, List.setIfInBounds_toArray, List.set_cons_zero, List.set_cons_succ]
              refine wpAnyH_take (i := 15) (oi := { dst := some 124, op := Op.move (Operand.tmp 123), type := 4, pos := "plain.go:108", after := #[{ on := 14, ground := Ground.data }, { on := 11, ground := Ground.chain }, { on := 11, ground := Ground.guard }], guard := some (11, true) }) rfl (by kernel_rfl) (by kernel_rfl) (by kernel_rfl) (fun _ _ _ h => h) (Or.inr ⟨by rfl, rfl⟩) (by assumption) ?_
              simp only [Act.put, List.setIfInBounds_toArray, List.set_cons_zero, List.set_cons_succ]
              refine wpAnyH_take (i := 16) (oi := { dst := some 125, op := Op.fieldAddr 42 (Operand.tmp 11) 2, type := 0, pos := "plain.go:108", after := #[{ on := 15, ground := Ground.guard }], guard := some (15, false) }) rfl (by kernel_rfl) (by kernel_rfl) (by kernel_rfl) (fun _ _ _ h => h) (Or.inr ⟨by rfl, rfl⟩) (by assumption) ?_
              simp only [Act.put, List.setIfInBounds_toArray, List.set_cons_zero, List.set_cons_succ]
              refine wpAnyH_take (i := 17) (oi := { dst := some 126, op := Op.load 32 (Operand.tmp 125), type := 32, pos := "plain.go:108", after := #[{ on := 16, ground := Ground.data }, { on := 15, ground := Ground.guard }], guard := some (15, false) }) rfl (by kernel_rfl) (by kernel_rfl) (by kernel_rfl) (fun _ _ _ h => h) (Or.inr ⟨by rfl, rfl⟩) (by assumption) ?_
              simp only [Act.put, List.setIfInBounds_toArray, List.set_cons_zero, List.set_cons_succ]
              refine wpAnyH_take (i := 18) (oi := { dst := some 127, op := Op.move (Operand.tmp 7), type := 45, pos := "plain.go:108", after := #[{ on := 15, ground := Ground.guard }], guard := some (15, false) }) rfl (by kernel_rfl) (by kernel_rfl) (by kernel_rfl) (fun _ _ _ h => h) (Or.inr ⟨by rfl, rfl⟩) (by assumption) ?_
              simp only [Act.put, List.setIfInBounds_toArray, List.set_cons_zero, List.set_cons_succ]
              refine wpAnyH_take (i := 19) (oi := { dst := some 128, op := Op.fieldAddr 40 (Operand.tmp 9) 1, type := 0, pos := "plain.go:108", after := #[{ on := 15, ground := Ground.guard }], guard := some (15, false) }) rfl (by kernel_rfl) (by kernel_rfl) (by kernel_rfl) (fun _ _ _ h => h) (Or.inr ⟨by rfl, rfl⟩) (by assumption) ?_
              simp only [Act.put, List.setIfInBounds_toArray, List.set_cons_zero, List.set_cons_succ]
              refine wpAnyH_take (i := 20) (oi := { dst := some 129, op := Op.load 9 (Operand.tmp 128), type := 9, pos := "plain.go:108", after := #[{ on := 19, ground := Ground.data }, { on := 15, ground := Ground.guard }], guard := some (15, false) }) rfl (by kernel_rfl) (by kernel_rfl) (by kernel_rfl) (fun _ _ _ h => h) (Or.inr ⟨by rfl, rfl⟩) (by assumption) ?_
              simp only [Act.put, List.setIfInBounds_toArray, List.set_cons_zero, List.set_cons_succ]
              refine wpAnyH_take (i := 21) (oi := { dst := some 130, op := Op.move (Operand.tmp 0), type := 3, pos := "plain.go:108", after := #[{ on := 15, ground := Ground.guard }], guard := some (15, false) }) rfl (by kernel_rfl) (by kernel_rfl) (by kernel_rfl) (fun _ _ _ h => h) (Or.inr ⟨by rfl, rfl⟩) (by assumption) ?_
              simp only [Act.put, List.setIfInBounds_toArray, List.set_cons_zero, List.set_cons_succ]
              refine wpAnyH_take (i := 22) (oi := { dst := some 131, op := Op.call { callee := Callee.value (Operand.func 24), args := #[Operand.tmp 127, Operand.tmp 129, Operand.tmp 130], argTypes := #[45, 9, 3] }, type := 32, pos := "plain.go:108", after := #[{ on := 18, ground := Ground.data }, { on := 20, ground := Ground.data }, { on := 21, ground := Ground.data }, { on := 15, ground := Ground.chain }, { on := 15, ground := Ground.guard }], guard := some (15, false) }) rfl (by kernel_rfl) (by kernel_rfl) (by kernel_rfl) (fun _ _ _ h => h) (Or.inr ⟨by rfl, rfl⟩) (by assumption) ?_
              simp only [Act.put, List.setIfInBounds_toArray, List.set_cons_zero, List.set_cons_succ]
              refine wpAnyH_take (i := 23) (oi := { dst := some 132, op := Op.fieldAddr 40 (Operand.tmp 9) 2, type := 0, pos := "plain.go:108", after := #[{ on := 15, ground := Ground.guard }], guard := some (15, false) }) rfl (by kernel_rfl) (by kernel_rfl) (by kernel_rfl) (fun _ _ _ h => h) (Or.inr ⟨by rfl, rfl⟩) (by assumption) ?_
              simp only [Act.put, List.setIfInBounds_toArray, List.set_cons_zero, List.set_cons_succ]
              refine wpAnyH_take (i := 24) (oi := { dst := some 133, op := Op.load 3 (Operand.tmp 132), type := 3, pos := "plain.go:108", after := #[{ on := 23, ground := Ground.data }, { on := 15, ground := Ground.guard }], guard := some (15, false) }) rfl (by kernel_rfl) (by kernel_rfl) (by kernel_rfl) (fun _ _ _ h => h) (Or.inr ⟨by rfl, rfl⟩) (by assumption) ?_
              simp only [Act.put, List.setIfInBounds_toArray, List.set_cons_zero, List.set_cons_succ]
              refine wpAnyH_take (i := 25) (oi := { dst := some 134, op := Op.call { callee := Callee.value (Operand.func 25), args := #[Operand.tmp 131, Operand.tmp 133], argTypes := #[32, 3] }, type := 32, pos := "plain.go:108", after := #[{ on := 22, ground := Ground.data }, { on := 24, ground := Ground.data }, { on := 22, ground := Ground.chain }, { on := 15, ground := Ground.guard }], guard := some (15, false) }) rfl (by kernel_rfl) (by kernel_rfl) (by kernel_rfl) (fun _ _ _ h => h) (Or.inr ⟨by rfl, rfl⟩) (by assumption) ?_
              simp only [Act.put, List.setIfInBounds_toArray, List.set_cons_zero, List.set_cons_succ]
              refine wpAnyH_take (i := 26) (oi := { dst := some 135, op := Op.call { callee := Callee.value (Operand.func 23), args := #[Operand.tmp 126, Operand.tmp 134], argTypes := #[32, 32] }, type := 4, pos := "plain.go:108", after := #[{ on := 17, ground := Ground.data }, { on := 25, ground := Ground.data }, { on := 25, ground := Ground.chain }, { on := 15, ground := Ground.guard }], guard := some (15, false) }) rfl (by kernel_rfl) (by kernel_rfl) (by kernel_rfl) (fun _ _ _ h => h) (Or.inr ⟨by rfl, rfl⟩) (by assumption) ?_
              simp only [Act.put, List.setIfInBounds_toArray, List.set_cons_zero, List.set_cons_succ]
              refine wpAnyH_take (i := 27) (oi := { dst := some 136, op := Op.unOp UnOp.not 4 (Operand.tmp 135), type := 4, pos := "plain.go:108", after := #[{ on := 26, ground := Ground.data }, { on := 15, ground := Ground.guard }], guard := some (15, false) }) rfl (by kernel_rfl) (by kernel_rfl) (by kernel_rfl) (fun _ _ _ h => h) (Or.inr ⟨by rfl, rfl⟩) (by assumption) ?_
              simp only [Act.put, List.setIfInBounds_toArray, List.set_cons_zero, List.set_cons_succ]
              refine wpAnyH_take (i := 28) (oi := { dst := some 137, op := Op.pick (Operand.tmp 124) (Operand.const (Value.bool true)) (Operand.tmp 136), type := 4, pos := "plain.go:108", after := #[{ on := 15, ground := Ground.data }, { on := 27, ground := Ground.data }, { on := 11, ground := Ground.guard }], guard := some (11, true) }) rfl (by kernel_rfl) (by kernel_rfl) (by kernel_rfl) (fun _ _ _ h => h) (Or.inr ⟨by rfl, rfl⟩) (by assumption) ?_
              simp only [Act.put, List.setIfInBounds_toArray, List.set_cons_zero, List.set_cons_succ]
              refine wpAnyH_take (i := 29) (oi := { dst := some 138, op := Op.pick (Operand.tmp 120) (Operand.tmp 137) (Operand.const (Value.bool false)), type := 4, pos := "plain.go:108", after := #[{ on := 11, ground := Ground.data }, { on := 28, ground := Ground.data }], guard := none }) (v := ?v143) rfl (by kernel_rfl) (by kernel_rfl) (by kernel_rfl) (fun _ _ _ h => h) (Or.inl ⟨by rfl, ?h143⟩) (by assumption) ?r143
              case h143 => (intro w0 hSw; (try dsimp only at hSw); go_simp; try (with_reducible rfl))
              simp only [Act.put, List.setIfInBounds_toArray, List.set_cons_zero, List.set_cons_succ]
              refine wpAnyH_done (by kernel_rfl) ?_ _
              obtain ⟨wy, hwy⟩ : ∃ wy, wy = wz.drew := ⟨_, rfl⟩
              rw [← hwy]
              have bY : Below wz.heap.size wz wy := by rw [hwy]; exact (Below.refl _ wz).drew
              have HZ2 := Hid.mk (HZZ.out.below bY)
              obtain ⟨-, y1, y2, y3, y4⟩ := HSS.out _ bY
              clear z1 z2 z3 z4 HZZ HQ HSS HMM bY hwy 
              have z1 := y1
              have z2 := y2
              have z3 := y3
              have z4 := y4
              clear y1 y2 y3 y4
              have HZZ := HZ2
              clear HZ2
              go_wp2_with fail
              have HMM := Hid.mk HA.out.2.2.2.1
              have HQ := Hid.mk (HZZ.out.asks (HW.out) hW0 s (by have := HMM.out; omega))
              rw [← HMM.out] at HQ
              have HSS := Hid.mk (show ∀ w', Below wy.heap.size wy w' → (Below wy.heap.size wy w' ∧ w'.cell? ⟨gb, 1, none⟩ = some (.string s) ∧ w'.cell? ⟨gb, 2, none⟩ = some (.int .i64 N) ∧ w'.cell? ⟨gw, 1, none⟩ = some (.int .i64 e) ∧ w'.cell? ⟨gw, 2, none⟩ = some (.slice va len vc)) from fun w' b => ⟨b, cell_lat b z1, cell_lat b z2, cell_lat b z3, cell_lat b z4⟩)
              refine wp_region_held_drew (S := fun w' => Below wy.heap.size wy w' ∧ w'.cell? ⟨gb, 1, none⟩ = some (.string s) ∧ w'.cell? ⟨gb, 2, none⟩ = some (.int .i64 N) ∧ w'.cell? ⟨gw, 1, none⟩ = some (.int .i64 e) ∧ w'.cell? ⟨gw, 2, none⟩ = some (.slice va len vc)) (by kernel_rfl) ?_ (fun hHeld => ?_)
              · exact ⟨(Below.refl _ wy).drew, z1, z2, z3, z4⟩
              refine wpAnyH_take (i := 0) (oi := { dst := some 139, op := Op.move (Operand.tmp 6), type := 24, pos := "plain.go:112", after := #[], guard := none }) (v := ?v144) rfl (by kernel_rfl) (by kernel_rfl) (by kernel_rfl) (fun _ _ _ h => h) (Or.inl ⟨by rfl, ?h144⟩) (by assumption) ?r144
              case h144 => (intro w0 hSw; (try dsimp only at hSw); go_simp; try (with_reducible rfl))
              simp only [Act.put, List.setIfInBounds_toArray, List.set_cons_zero, List.set_cons_succ]
              refine wpAnyH_take (i := 2) (oi := { dst := some 141, op := Op.move (Operand.tmp 7), type := 45, pos := "plain.go:112", after := #[], guard := none }) (v := ?v145) rfl (by kernel_rfl) (by kernel_rfl) (by kernel_rfl) (fun _ _ _ h => h) (Or.inl ⟨by rfl, ?h145⟩) (by assumption) ?r145
              case h145 => (intro w0 hSw; (try dsimp only at hSw); go_simp; try (with_reducible rfl))
              simp only [Act.put, List.setIfInBounds_toArray, List.set_cons_zero, List.set_cons_succ]
              refine wpAnyH_take (i := 3) (oi := { dst := some 142, op := Op.call { callee := Callee.builtin Builtin.len, args := #[Operand.tmp 141], argTypes := #[45] }, type := 3, pos := "plain.go:112", after := #[{ on := 2, ground := Ground.data }], guard := none }) (v := ?v146) rfl (by kernel_rfl) (by kernel_rfl) (by kernel_rfl) (fun _ _ _ h => h) (Or.inl ⟨by rfl, ?h146⟩) (by assumption) ?r146
              case h146 => (intro w0 hSw; (try dsimp only at hSw); go_simp; try (with_reducible rfl))
              simp only [Act.put, List.setIfInBounds_toArray, List.set_cons_zero, List.set_cons_succ]
              refine wpAnyH_ready (rs := [1]) (by kernel_rfl) (by simp) ?_
              refine AllReadyH.cons rfl (fun K hK => ?_) AllReadyH.nil
              go_simp
              go_wp2_with (go_at_call 18; refine (HQ.out.1 _ (Below.refl _ wy).drew).mono ?_; rintro e' w' ⟨rfl, he'⟩; subst he'; have bL := (Below.refl wy.heap.size wy).drew)
              refine hK.out _ _ ?_ (fun hHeld => ?_)
              · exact HSS.out _ (by assumption)
              clear hK K
              refine wpAnyH_take (i := 4) (oi := { dst := some 143, op := Op.binOp BinOp.neq 3 (Operand.tmp 140) (Operand.tmp 142) 3, type := 4, pos := "plain.go:112", after := #[{ on := 1, ground := Ground.data }, { on := 3, ground := Ground.data }], guard := none }) (v := ?v147) rfl (by kernel_rfl) (by kernel_rfl) (by kernel_rfl) (fun _ _ _ h => h) (Or.inl ⟨by rfl, ?h147⟩) (by assumption) ?r147
              case h147 => (intro w0 hSw; (try dsimp only at hSw); go_simp; try (with_reducible rfl))
              simp only [Act.put, List.setIfInBounds_toArray, List.set_cons_zero, List.set_cons_succ]
              refine wpAnyH_take (i := 5) (oi := { dst := some 144, op := Op.move (Operand.tmp 143), type := 4, pos := "plain.go:112", after := #[{ on := 4, ground := Ground.data }, { on := 1, ground := Ground.chain }], guard := none }) (v := ?v148) rfl (by kernel_rfl) (by kernel_rfl) (by kernel_rfl) (fun _ _ _ h => h) (Or.inl ⟨by rfl, ?h148⟩) (by assumption) ?r148
              case h148 => (intro w0 hSw; (try dsimp only at hSw); go_simp; try (with_reducible rfl))
              simp only [Act.put, List.setIfInBounds_toArray, List.set_cons_zero, List.set_cons_succ]
              refine wpAnyH_take (i := 6) (oi := { dst := some 145, op := Op.move (Operand.tmp 6), type := 24, pos := "plain.go:112", after := #[{ on := 5, ground := Ground.guard }], guard := some (5, false) }) (v := ?v149) rfl (by kernel_rfl) (by kernel_rfl) (by kernel_rfl) (fun _ _ _ h => h) (Or.inl ⟨by rfl, ?h149⟩) (by assumption) ?r149
              case h149 => (intro w0 hSw; (try dsimp only at hSw); go_simp; try (with_reducible rfl))
              simp only [Act.put, List.setIfInBounds_toArray, List.set_cons_zero, List.set_cons_succ]
              refine wpAnyH_take (i := 7) (oi := { dst := some 146, op := Op.fieldAddr 40 (Operand.tmp 9) 1, type := 0, pos := "plain.go:112", after := #[{ on := 5, ground := Ground.guard }], guard := some (5, false) }) (v := ?v150) rfl (by kernel_rfl) (by kernel_rfl) (by kernel_rfl) (fun _ _ _ h => h) (Or.inl ⟨by rfl, ?h150⟩) (by assumption) ?r150
              case h150 => (intro w0 hSw; (try dsimp only at hSw); go_simp; try (with_reducible rfl))
              simp only [Act.put, List.setIfInBounds_toArray, List.set_cons_zero, List.set_cons_succ]
              refine wpAnyH_take (i := 8) (oi := { dst := some 147, op := Op.load 9 (Operand.tmp 146), type := 9, pos := "plain.go:112", after := #[{ on := 7, ground := Ground.data }, { on := 5, ground := Ground.guard }], guard := some (5, false) }) (v := ?v151) rfl (by kernel_rfl) (by kernel_rfl) (by kernel_rfl) (fun _ _ _ h => h) (Or.inl ⟨by rfl, ?h151⟩) (by assumption) ?r151
              case h151 => (intro w0 hSw; (try dsimp only at hSw); go_simp; try (with_reducible rfl))
              simp only [Act.put, List.setIfInBounds_toArray, List.set_cons_zero, List.set_cons_succ]
              refine wpAnyH_take (i := 10) (oi := { dst := some 149, op := Op.move (Operand.tmp 7), type := 45, pos := "plain.go:112", after := #[{ on := 5, ground := Ground.guard }], guard := some (5, false) }) (v := ?v152) rfl (by kernel_rfl) (by kernel_rfl) (by kernel_rfl) (fun _ _ _ h => h) (Or.inl ⟨by rfl, ?h152⟩) (by assumption) ?r152
              case h152 => (intro w0 hSw; (try dsimp only at hSw); go_simp; try (with_reducible rfl))
              simp only [Act.put, List.setIfInBounds_toArray, List.set_cons_zero, List.set_cons_succ]
              refine wpAnyH_take (i := 11) (oi := { dst := some 150, op := Op.fieldAddr 40 (Operand.tmp 9) 1, type := 0, pos := "plain.go:112", after := #[{ on := 5, ground := Ground.guard }], guard := some (5, false) }) (v := ?v153) rfl (by kernel_rfl) (by kernel_rfl) (by kernel_rfl) (fun _ _ _ h => h) (Or.inl ⟨by rfl, ?h153⟩) (by assumption) ?r153
              case h153 => (intro w0 hSw; (try dsimp only at hSw); go_simp; try (with_reducible rfl))
              simp only [Act.put, List.setIfInBounds_toArray, List.set_cons_zero, List.set_cons_succ]
              refine wpAnyH_take (i := 12) (oi := { dst := some 151, op := Op.load 9 (Operand.tmp 150), type := 9, pos := "plain.go:112", after := #[{ on := 11, ground := Ground.data }, { on := 5, ground := Ground.guard }], guard := some (5, false) }) (v := ?v154) rfl (by kernel_rfl) (by kernel_rfl) (by kernel_rfl) (fun _ _ _ h => h) (Or.inl ⟨by rfl, ?h154⟩) (by assumption) ?r154
              case h154 => (intro w0 hSw; (try dsimp only at hSw); go_simp; try (with_reducible rfl))
              simp only [Act.put, List.setIfInBounds_toArray, List.set_cons_zero, List.set_cons_succ]
              refine wpAnyH_ready (rs := [9]) (by kernel_rfl) (by simp) ?_
              refine AllReadyH.cons rfl (fun K hK => ?_) AllReadyH.nil
              go_simp
              go_wp2_with (go_at_call 15; refine (HQ.out.2.1 _ (by assumption)).mono ?_; rintro e' wh ⟨bh, rfl, b5, hbh⟩)
              refine hK.out _ _ ?_ (fun hHeld => ?_)
              · exact HSS.out _ (by assumption)
              clear hK K
              clear bL
              refine wpAnyH_ready (rs := [13]) (by kernel_rfl) (by simp) ?_
              refine AllReadyH.cons rfl (fun K hK => ?_) AllReadyH.nil
              go_simp
              go_wp2_with (go_at_call 26; refine (HQ.out.2.2 _ (by assumption)).mono ?_; rintro e' wo ⟨bo, rfl, b6, hbo⟩; obtain rfl : bh = bo := bool_iff hbh hbo)
              refine hK.out _ _ ?_ (fun hHeld => ?_)
              · exact HSS.out _ (by assumption)
              clear hK K
              clear b5
              refine wpAnyH_take (i := 14) (oi := { dst := some 153, op := Op.binOp BinOp.neq 4 (Operand.tmp 148) (Operand.tmp 152) 4, type := 4, pos := "plain.go:112", after := #[{ on := 9, ground := Ground.data }, { on := 13, ground := Ground.data }, { on := 5, ground := Ground.guard }], guard := some (5, false) }) (v := ?v155) rfl (by kernel_rfl) (by kernel_rfl) (by kernel_rfl) (fun _ _ _ h => h) (Or.inl ⟨by rfl, ?h155⟩) (by assumption) ?r155
              case h155 => (intro w0 hSw; (try dsimp only at hSw); go_simp; try (with_reducible rfl))
              simp only [Act.put, List.setIfInBounds_toArray, List.set_cons_zero, List.set_cons_succ]
              refine wpAnyH_take (i := 15) (oi := { dst := some 154, op := Op.pick (Operand.tmp 144) (Operand.const (Value.bool true)) (Operand.tmp 153), type := 4, pos := "plain.go:112", after := #[{ on := 5, ground := Ground.data }, { on := 14, ground := Ground.data }], guard := none }) (v := ?v156) rfl (by kernel_rfl) (by kernel_rfl) (by kernel_rfl) (fun _ _ _ h => h) (Or.inl ⟨by rfl, ?h156⟩) (by assumption) ?r156
              case h156 => (intro w0 hSw; (try dsimp only at hSw); go_simp; try (with_reducible rfl))
              simp only [Act.put, List.setIfInBounds_toArray, List.set_cons_zero, List.set_cons_succ]
              refine wpAnyH_done (by kernel_rfl) ?_ _
              go_wp2_with fail
              exact ⟨⟨i + 1, T', bs', ms', x', nxtA 5 s A, by push_cast; rfl, hlt, Hid.mk (by have := HZZ.out.below (by assumption); rw [← HMM.out] at this; exact this)⟩, by simp only [intOf]; omega⟩
        as_aux_lemma =>
          have k1 : (K == 1) = false := by simpa using hK1
          have k2 : (K == 2) = false := by simpa using hK2
          have k4 : (K == 4) = false := by simpa using hK4
          have k5 : (K == 5) = false := by simpa using hK5
          clear hK1 hK2 hK4 hK5
          go_wp2_with fail
          obtain ⟨wz, hwz⟩ : ∃ wz, wz = w4.alloc (.cells #[.bool y, .int .i64 e, .slice va len vc, .int .i64 q1, .int .i64 q2, .int .i64 q3, .int .i64 q4] 42) := ⟨_, rfl⟩
          rw [← hwz]
          rw [← hwz] at HGB e0 e1 e2
          have z3 : wz.cell? ⟨w4.heap.size, 1, none⟩ = some (.int .i64 e) := by rw [hwz]; go_simp
          have z4 : wz.cell? ⟨w4.heap.size, 2, none⟩ = some (.slice va len vc) := by rw [hwz]; go_simp
          obtain ⟨gw, hgw⟩ : ∃ gw, gw = w4.heap.size := ⟨_, rfl⟩
          rw [← hgw] at z3 z4 ⊢
          have z1 := e1
          have z2 := e2
          have HZZ := Hid.mk (HZ.out.below HGB.out)
          clear hwz hgw e0 e1 e2 d0 d1 d2
          have HMM := Hid.mk HA.out.2.2.2.1
          have HQ := Hid.mk (HZZ.out.asks (HW.out) hW0 s (by have := HMM.out; omega))
          rw [← HMM.out] at HQ
          have HSS := Hid.mk (show ∀ w', Below wz.heap.size wz w' → (Below wz.heap.size wz w' ∧ w'.cell? ⟨gb, 1, none⟩ = some (.string s) ∧ w'.cell? ⟨gb, 2, none⟩ = some (.int .i64 N) ∧ w'.cell? ⟨gw, 1, none⟩ = some (.int .i64 e) ∧ w'.cell? ⟨gw, 2, none⟩ = some (.slice va len vc)) from fun w' b => ⟨b, cell_lat b z1, cell_lat b z2, cell_lat b z3, cell_lat b z4⟩)
          refine wp_region_held_drew (S := fun w' => Below wz.heap.size wz w' ∧ w'.cell? ⟨gb, 1, none⟩ = some (.string s) ∧ w'.cell? ⟨gb, 2, none⟩ = some (.int .i64 N) ∧ w'.cell? ⟨gw, 1, none⟩ = some (.int .i64 e) ∧ w'.cell? ⟨gw, 2, none⟩ = some (.slice va len vc)) (by kernel_rfl) ?_ (fun hHeld => ?_)
          · exact ⟨(Below.refl _ wz).drew, z1, z2, z3, z4⟩
          refine wpAnyH_take (i := 0) (oi := { dst := some 139, op := Op.move (Operand.tmp 6), type := 24, pos := "plain.go:112", after := #[], guard := none }) (v := ?v246) rfl (by kernel_rfl) (by kernel_rfl) (by kernel_rfl) (fun _ _ _ h => h) (Or.inl ⟨by rfl, ?h246⟩) (by assumption) ?r246
          case h246 => (intro w0 hSw; (try dsimp only at hSw); go_simp; try (with_reducible rfl))
          simp only [Act.put, List.setIfInBounds_toArray, List.set_cons_zero, List.set_cons_succ]
          refine wpAnyH_take (i := 2) (oi := { dst := some 141, op := Op.move (Operand.tmp 7), type := 45, pos := "plain.go:112", after := #[], guard := none }) (v := ?v247) rfl (by kernel_rfl) (by kernel_rfl) (by kernel_rfl) (fun _ _ _ h => h) (Or.inl ⟨by rfl, ?h247⟩) (by assumption) ?r247
          case h247 => (intro w0 hSw; (try dsimp only at hSw); go_simp; try (with_reducible rfl))
          simp only [Act.put, List.setIfInBounds_toArray, List.set_cons_zero, List.set_cons_succ]
          refine wpAnyH_take (i := 3) (oi := { dst := some 142, op := Op.call { callee := Callee.builtin Builtin.len, args := #[Operand.tmp 141], argTypes := #[45] }, type := 3, pos := "plain.go:112", after := #[{ on := 2, ground := Ground.data }], guard := none }) (v := ?v248) rfl (by kernel_rfl) (by kernel_rfl) (by kernel_rfl) (fun _ _ _ h => h) (Or.inl ⟨by rfl, ?h248⟩) (by assumption) ?r248
          case h248 => (intro w0 hSw; (try dsimp only at hSw); go_simp; try (with_reducible rfl))
          simp only [Act.put, List.setIfInBounds_toArray, List.set_cons_zero, List.set_cons_succ]
          refine wpAnyH_ready (rs := [1]) (by kernel_rfl) (by simp) ?_
          refine AllReadyH.cons rfl (fun K hK => ?_) AllReadyH.nil
          go_simp
          go_wp2_with (go_at_call 18; refine (HQ.out.1 _ (Below.refl _ wz).drew).mono ?_; rintro e' w' ⟨rfl, he'⟩; subst he'; have bL := (Below.refl wz.heap.size wz).drew)
          refine hK.out _ _ ?_ (fun hHeld => ?_)
          · exact HSS.out _ (by assumption)
          clear hK K
          refine wpAnyH_take (i := 4) (oi := { dst := some 143, op := Op.binOp BinOp.neq 3 (Operand.tmp 140) (Operand.tmp 142) 3, type := 4, pos := "plain.go:112", after := #[{ on := 1, ground := Ground.data }, { on := 3, ground := Ground.data }], guard := none }) (v := ?v249) rfl (by kernel_rfl) (by kernel_rfl) (by kernel_rfl) (fun _ _ _ h => h) (Or.inl ⟨by rfl, ?h249⟩) (by assumption) ?r249
          case h249 => (intro w0 hSw; (try dsimp only at hSw); go_simp; try (with_reducible rfl))
          simp only [Act.put, List.setIfInBounds_toArray, List.set_cons_zero, List.set_cons_succ]
          refine wpAnyH_take (i := 5) (oi := { dst := some 144, op := Op.move (Operand.tmp 143), type := 4, pos := "plain.go:112", after := #[{ on := 4, ground := Ground.data }, { on := 1, ground := Ground.chain }], guard := none }) (v := ?v250) rfl (by kernel_rfl) (by kernel_rfl) (by kernel_rfl) (fun _ _ _ h => h) (Or.inl ⟨by rfl, ?h250⟩) (by assumption) ?r250
          case h250 => (intro w0 hSw; (try dsimp only at hSw); go_simp; try (with_reducible rfl))
          simp only [Act.put, List.setIfInBounds_toArray, List.set_cons_zero, List.set_cons_succ]
          refine wpAnyH_take (i := 6) (oi := { dst := some 145, op := Op.move (Operand.tmp 6), type := 24, pos := "plain.go:112", after := #[{ on := 5, ground := Ground.guard }], guard := some (5, false) }) (v := ?v251) rfl (by kernel_rfl) (by kernel_rfl) (by kernel_rfl) (fun _ _ _ h => h) (Or.inl ⟨by rfl, ?h251⟩) (by assumption) ?r251
          case h251 => (intro w0 hSw; (try dsimp only at hSw); go_simp; try (with_reducible rfl))
          simp only [Act.put, List.setIfInBounds_toArray, List.set_cons_zero, List.set_cons_succ]
          refine wpAnyH_take (i := 7) (oi := { dst := some 146, op := Op.fieldAddr 40 (Operand.tmp 9) 1, type := 0, pos := "plain.go:112", after := #[{ on := 5, ground := Ground.guard }], guard := some (5, false) }) (v := ?v252) rfl (by kernel_rfl) (by kernel_rfl) (by kernel_rfl) (fun _ _ _ h => h) (Or.inl ⟨by rfl, ?h252⟩) (by assumption) ?r252
          case h252 => (intro w0 hSw; (try dsimp only at hSw); go_simp; try (with_reducible rfl))
          simp only [Act.put, List.setIfInBounds_toArray, List.set_cons_zero, List.set_cons_succ]
          refine wpAnyH_take (i := 8) (oi := { dst := some 147, op := Op.load 9 (Operand.tmp 146), type := 9, pos := "plain.go:112", after := #[{ on := 7, ground := Ground.data }, { on := 5, ground := Ground.guard }], guard := some (5, false) }) (v := ?v253) rfl (by kernel_rfl) (by kernel_rfl) (by kernel_rfl) (fun _ _ _ h => h) (Or.inl ⟨by rfl, ?h253⟩) (by assumption) ?r253
          case h253 => (intro w0 hSw; (try dsimp only at hSw); go_simp; try (with_reducible rfl))
          simp only [Act.put, List.setIfInBounds_toArray, List.set_cons_zero, List.set_cons_succ]
          refine wpAnyH_take (i := 10) (oi := { dst := some 149, op := Op.move (Operand.tmp 7), type := 45, pos := "plain.go:112", after := #[{ on := 5, ground := Ground.guard }], guard := some (5, false) }) (v := ?v254) rfl (by kernel_rfl) (by kernel_rfl) (by kernel_rfl) (fun _ _ _ h => h) (Or.inl ⟨by rfl, ?h254⟩) (by assumption) ?r254
          case h254 => (intro w0 hSw; (try dsimp only at hSw); go_simp; try (with_reducible rfl))
          simp only [Act.put, List.setIfInBounds_toArray, List.set_cons_zero, List.set_cons_succ]
          refine wpAnyH_take (i := 11) (oi := { dst := some 150, op := Op.fieldAddr 40 (Operand.tmp 9) 1, type := 0, pos := "plain.go:112", after := #[{ on := 5, ground := Ground.guard }], guard := some (5, false) }) (v := ?v255) rfl (by kernel_rfl) (by kernel_rfl) (by kernel_rfl) (fun _ _ _ h => h) (Or.inl ⟨by rfl, ?h255⟩) (by assumption) ?r255
          case h255 => (intro w0 hSw; (try dsimp only at hSw); go_simp; try (with_reducible rfl))
          simp only [Act.put, List.setIfInBounds_toArray, List.set_cons_zero, List.set_cons_succ]
          refine wpAnyH_take (i := 12) (oi := { dst := some 151, op := Op.load 9 (Operand.tmp 150), type := 9, pos := "plain.go:112", after := #[{ on := 11, ground := Ground.data }, { on := 5, ground := Ground.guard }], guard := some (5, false) }) (v := ?v256) rfl (by kernel_rfl) (by kernel_rfl) (by kernel_rfl) (fun _ _ _ h => h) (Or.inl ⟨by rfl, ?h256⟩) (by assumption) ?r256
          case h256 => (intro w0 hSw; (try dsimp only at hSw); go_simp; try (with_reducible rfl))
          simp only [Act.put, List.setIfInBounds_toArray, List.set_cons_zero, List.set_cons_succ]
          refine wpAnyH_ready (rs := [9]) (by kernel_rfl) (by simp) ?_
          refine AllReadyH.cons rfl (fun K hK => ?_) AllReadyH.nil
          go_simp
          go_wp2_with (go_at_call 15; refine (HQ.out.2.1 _ (by assumption)).mono ?_; rintro e' wh ⟨bh, rfl, b5, hbh⟩)
          refine hK.out _ _ ?_ (fun hHeld => ?_)
          · exact HSS.out _ (by assumption)
          clear hK K
          clear bL
          refine wpAnyH_ready (rs := [13]) (by kernel_rfl) (by simp) ?_
          refine AllReadyH.cons rfl (fun K hK => ?_) AllReadyH.nil
          go_simp
          go_wp2_with (go_at_call 26; refine (HQ.out.2.2 _ (by assumption)).mono ?_; rintro e' wo ⟨bo, rfl, b6, hbo⟩; obtain rfl : bh = bo := bool_iff hbh hbo)
          refine hK.out _ _ ?_ (fun hHeld => ?_)
          · exact HSS.out _ (by assumption)
          clear hK K
          clear b5
          refine wpAnyH_take (i := 14) (oi := { dst := some 153, op := Op.binOp BinOp.neq 4 (Operand.tmp 148) (Operand.tmp 152) 4, type := 4, pos := "plain.go:112", after := #[{ on := 9, ground := Ground.data }, { on := 13, ground := Ground.data }, { on := 5, ground := Ground.guard }], guard := some (5, false) }) (v := ?v257) rfl (by kernel_rfl) (by kernel_rfl) (by kernel_rfl) (fun _ _ _ h => h) (Or.inl ⟨by rfl, ?h257⟩) (by assumption) ?r257
          case h257 => (intro w0 hSw; (try dsimp only at hSw); go_simp; try (with_reducible rfl))
          simp only [Act.put, List.setIfInBounds_toArray, List.set_cons_zero, List.set_cons_succ]
          refine wpAnyH_take (i := 15) (oi := { dst := some 154, op := Op.pick (Operand.tmp 144) (Operand.const (Value.bool true)) (Operand.tmp 153), type := 4, pos := "plain.go:112", after := #[{ on := 5, ground := Ground.data }, { on := 14, ground := Ground.data }], guard := none }) (v := ?v258) rfl (by kernel_rfl) (by kernel_rfl) (by kernel_rfl) (fun _ _ _ h => h) (Or.inl ⟨by rfl, ?h258⟩) (by assumption) ?r258
          case h258 => (intro w0 hSw; (try dsimp only at hSw); go_simp; try (with_reducible rfl))
          simp only [Act.put, List.setIfInBounds_toArray, List.set_cons_zero, List.set_cons_succ]
          refine wpAnyH_done (by kernel_rfl) ?_ _
          go_wp2_with fail
          exact ⟨⟨i + 1, T', bs', ms', x', nxtA K s A, by push_cast; rfl, hlt, Hid.mk (by have := HZZ.out.below (by assumption); rw [← HMM.out] at this; exact this)⟩, by simp only [intOf]; omega⟩
      · have i1 : ¬ (i : Int) < (ln : Int) := by omega
        have hend := begun_any wr (HW.out wr HJ.out.ot.be)
        go_wp2_with (go_at_call 9; refine hend.mono ?_; rintro e w' ⟨rfl, b'⟩)
        go_ret
        exact ⟨rfl, chain HJ.out.ot.be b' (Nat.le_refl _)⟩
  · have hw' : isW wd = false := by simpa using hw
    have hnew := fun W => new_no wd W hw'
    clear hw hw'
    go_enter Tryd.func5, Tryd.ntmps5
    go_wp2_with fail
    refine HB.out.mono ?_
    rintro e w1 ⟨rfl, b1⟩
    go_wp2_with (go_at_call 10; refine (hnew _).mono ?_; rintro e w' ⟨rfl, rfl⟩)
    go_ret
    exact ⟨rfl, b1⟩
end Go.Proofs.YtnnbcdfpbdmgdaaDoor
