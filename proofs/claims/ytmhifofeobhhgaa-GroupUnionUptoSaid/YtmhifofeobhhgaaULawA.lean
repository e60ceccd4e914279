/-
  DERIVED. The law: a union is as the document's.
-/
import Derived.Test.YtmhifofeobhhgaaULawB
set_option linter.unusedVariables false
set_option linter.unusedSimpArgs false
namespace Go.Proofs.Ytmhifofeobhhgaa
open Go.RowKit Go.Proofs.UnionMath
/-- Both first unions beside each other. -/
theorem CS.of {w w2 w3 W : World} {ids : List Int} {fg fc n : Nat} {pa ra : Option Addr} (hF : iE.Row w2 (.slice (some ⟨fg, 0, none⟩) (n + 1) fc) (ids ++ [-7])) (hb : Below w.heap.size w w2) (f0 : w.heap.size ≤ fg)
    (hv : (∃ T p, nwE [] ids = (0, T) ∧ pa = some ⟨p, 0, none⟩ ∧ PUI w2.heap.size w3.heap.size w3 T (fun k => k) p) ∨ ((nwE [] ids).1 ≠ 0 ∧ pa = none)) (b3 : Below w2.heap.size w2 w3)
    (hy : (∃ T p, nwE [] ids = (0, T) ∧ ra = some ⟨p, 0, none⟩ ∧ RUI (w3.alloc (.cells #[.pointer pa] 24)).heap.size W.heap.size W T (fun k => k) p) ∨ ((nwE [] ids).1 ≠ 0 ∧ ra = none)) (b4 : Below (w3.alloc (.cells #[.pointer pa] 24)).heap.size (w3.alloc (.cells #[.pointer pa] 24)) W) :
    (ra = none ∧ pa = none) ∨ ∃ rp p lo hi S, ra = some ⟨rp, 0, none⟩ ∧ pa = some ⟨p, 0, none⟩ ∧ CS w W fg fc n lo hi w3.heap.size rp S (ids ++ [-7]) ∧ ∀ z ∈ ids, 0 ≤ z ∧ z ≤ 281474976710656 := by
  rcases hy with ⟨T, rp, e1, rfl, hr⟩ | ⟨e1, rfl⟩
  · rcases hv with ⟨T', p, e2, rfl, hp⟩ | ⟨e2, rfl⟩
    · have e3 := e1
      rw [e2] at e3
      injection e3 with _ e3
      subst e3
      have bA : Below w3.heap.size w3 (w3.alloc (.cells #[Pt p] 24)) := (Below.refl _ w3).alloc (Nat.le_refl _) _
      have bW : Below w3.heap.size w3 W := chain bA b4 (Nat.le_refl _)
      have bb : Below w2.heap.size w2 W := chain b3 bW (Nat.le_refl _)
      have hsz : (w3.alloc (.cells #[Pt p] 24)).heap.size = w3.heap.size + 1 := by simp
      have hbx : W.heap[w3.heap.size]? = some (.cells #[Pt p] 24 (0, 0)) := (b4.block _ (by rw [hsz]; omega)).trans (heap_alloc_last w3 _)
      have hs5 : w3.heap.size + 1 ≤ W.heap.size := by have := b4.size; simpa using this
      obtain ⟨k1, k2, k3, k4⟩ := nwE_ok ids [] T' .nil (fun z hz => by simp at hz) e2
      refine .inr ⟨rp, p, w2.heap.size, W.heap.size, T', rfl, rfl, ⟨El.Row.below hF bb, ⟨p, w3.heap.size, w3.heap.size + 1, hp.kept (F := fun _ => False) (.below bW) (fun _ _ _ h => h), hr.wide (by rw [hsz]; exact Nat.le_refl _) (Nat.le_refl _), hbx, Nat.le_refl _, by omega, b3.size, hs5⟩, chain hb bb (Nat.le_refl _), Nat.le_refl _, f0, row_lt hF rfl⟩, fun z hz => k2 z ((k3 z).2 (.inr hz))⟩
    · rw [e1] at e2; exact absurd rfl e2
  · rcases hv with ⟨T', p', e2, rfl, hp⟩ | ⟨e2, rfl⟩
    · rw [e2] at e1; exact absurd rfl e1
    · exact .inl ⟨rfl, rfl⟩
set_option maxHeartbeats 8000000 in
set_option maxRecDepth 100000 in
theorem law_union (w : World) (la sa : Option Addr) (cap sc n m : Nat) (ids : List Int) (L : List Sp) (hA : iE.At w la ids) (hn : ids.length = n) (hnl : n ≤ 1048576) (hL : sE.At w sa L) (hm : L.length = m) (hml : m ≤ 1048576) (hI : ∀ s ∈ L, I64 s.a ∧ I64 s.b) :
    Calls Try.prog 3 #[.slice la n cap, .slice sa m sc] w fun e w' => e = .returned (.bool true) ∧ Below w.heap.size w w' := by
  obtain ⟨v1, w1, hap1, r1, s1, o1⟩ := El.appL iOk w [] ids (.slice none 0 0) (El.Row.nil iE _) la cap hA (by rw [hn]; simp [iE]; omega) (by rw [hn]; simp; omega)
  rw [List.nil_append] at r1
  rw [hn] at hap1
  have b1 : Below w.heap.size w w1 := s1.toBelow (fun _ _ h => by cases h) (Nat.le_refl _)
  have hv1 : ∀ b, v1.ownBlock = some b → w.heap.size ≤ b := fun b hb => by
    rcases o1 b hb with q | q
    · cases q
    · exact q
  obtain ⟨v2, w2, hap2, r2, s2, o2⟩ := El.app1 iOk w1 ids v1 r1 (-7) (by rw [hn]; simp [iE]; omega) (by rw [hn]; omega)
  have b2 : Below w.heap.size w w2 := b1.trans (s2.toBelow (fun b hb q => by have := hv1 b q; omega) b1.size)
  have hv2 : ∀ b, v2.ownBlock = some b → w.heap.size ≤ b := fun b hb => by
    rcases o2 b hb with q | q
    · exact hv1 b q
    · exact Nat.le_trans b1.size q
  have hl2 : (ids ++ [-7]).length = n + 1 := by rw [List.length_append, hn]; rfl
  obtain ⟨fg, fc, e2, -⟩ := i_cell r2 n (by rw [hl2]; omega)
  rw [hl2] at e2
  subst e2
  have hfc : n ≤ fc := by
    obtain ⟨a0, c0, e0, hc0⟩ := r2.form
    injection e0 with e1 e2 e3
    rw [hl2] at hc0
    omega
  have hA2 : iE.At w2 (some ⟨fg, 0, none⟩) ids := by
    obtain ⟨a', c', e, h⟩ := El.Row.lat r2
    injection e with e1 e2 e3
    subst e1
    have := i_take h n
    rw [List.take_left' hn] at this
    exact this
  have hap2 : (Builtin.append_ #[22, 22] 22 #[v1, .slice (some ⟨w1.heap.size, 0, none⟩) 1 1]).run Try.prog (w1.alloc (.cells #[.int .i64 (-7)] 3)) = .ok (.slice (some ⟨fg, 0, none⟩) (n + 1) fc) w2 := hap2
  have hP := new_any (some ⟨fg, 0, none⟩) fc ids w2 hA2 (fun a e => by cases e; exact row_lt r2 rfl) (by rw [hn]; exact hnl)
  rw [hn] at hP
  have HL := Hid.mk (And.intro hL (And.intro hm (And.intro hml hI)))
  have HA := Hid.mk (And.intro hA (And.intro hn (And.intro r2 (And.intro b2 (hv2 fg rfl)))))
  clear hL hm hml hI hA hn r1 s1 o1 b1 hv1 r2 s2 o2 b2 hv2 hl2 hA2
  go_enter Try.func3, Try.ntmps3
  go_upto_region 4 with (first
    | (at_builtin; refine wpList_append_eq rfl _ _ 22 22 rfl _ _ _ _ rfl rfl hap1 ?_; clear hap1)
    | (at_builtin; refine wpList_append_eq rfl _ _ 22 22 rfl _ _ _ _ rfl rfl hap2 ?_; clear hap2)
    | (go_at_call 4; refine hP.mono ?_; clear hP; intro e w3 hO; obtain ⟨pa, rfl, b3, hv⟩ := hO.one; have HV := Hid.mk (And.intro hv b3); clear hO hv b3)
    | fail)
  obtain ⟨w4, hw4⟩ : ∃ w4, w4 = w3.alloc (.cells #[.pointer pa] 24) := ⟨_, rfl⟩
  rw [← hw4]
  have b4 : Below w.heap.size w w4 := by
    rw [hw4]
    exact (chain HA.out.2.2.2.1 HV.out.2 (Nat.le_refl _)).alloc (chain HA.out.2.2.2.1 HV.out.2 (Nat.le_refl _)).size _
  have hR := rnew_any la cap ids w4 (HA.out.1.below b4) (by rw [HA.out.2.1]; exact hnl)
  rw [HA.out.2.1] at hR
  have HW4 := Hid.mk hw4
  clear hw4 b4
  go_upto_region 5 with (first
    | (go_at_call 5; refine hR.mono ?_; clear hR; intro e W hO; obtain ⟨ra, rfl, b5, hy⟩ := hO.one; have HY := Hid.mk (And.intro hy b5); clear hO hy b5)
    | fail)
  rename_i K2 a2 K3 a3
  have HC := Hid.mk a2
  clear a2
  have hb5 := HY.out.2
  have hy5 := HY.out.1
  rw [HW4.out] at hb5 hy5
  have hcs := CS.of HA.out.2.2.1 HA.out.2.2.2.1 HA.out.2.2.2.2 HV.out.1 HV.out.2 hy5 hb5
  have bA : Below w3.heap.size w3 (w3.alloc (.cells #[.pointer pa] 24)) := (Below.refl _ w3).alloc (Nat.le_refl _) _
  have bW : Below w2.heap.size w2 W := chain (chain HV.out.2 bA (Nat.le_refl _)) hb5 (Nat.le_refl _)
  have hbx : W.heap[w3.heap.size]? = some (.cells #[.pointer pa] 24 (0, 0)) := (hb5.block _ (by simp)).trans (heap_alloc_last w3 _)
  have q0 : W.cell? ⟨w3.heap.size, 0, none⟩ = some (.pointer pa) := by simp [World.cell?, hbx]
  have hFW := El.Row.below HA.out.2.2.1 bW
  have q1 := (i_cell' hFW n (by rw [List.length_append, HA.out.2.1]; simp)).1
  have hq7 : (ids ++ [-7])[n]'(by rw [List.length_append, HA.out.2.1]; simp) = -7 := by
    rw [List.getElem_append_right (by rw [HA.out.2.1]; exact Nat.le_refl _)]; simp
  rw [hq7] at q1
  have HF := Hid.mk (And.intro hFW (chain HA.out.2.2.2.1 bW (Nat.le_refl _)))
  clear hFW hq7 hbx bA bW hy5 hb5 HV HY HW4
  obtain ⟨c, hc⟩ : ∃ c, c = (nwE [] ids).1 := ⟨_, rfl⟩
  rw [← hc]
  clear hc
  have hlt2 : (n : Int) < ((n : Int) + 1) := by omega
  rcases hcs with ⟨rfl, rfl⟩ | ⟨rp, p, lo, hi, S, rfl, rfl, hCS, hbd⟩
  · go_wp2_with (first | (go_at_call 6; refine (num_any _ _).mono ?_; rintro e w6 ⟨rfl, hw6⟩; replace hw6 := hw6.symm; subst hw6))
    exact HC.out _ _ (law_b w _ la sa none cap sc n m fg fc w3.heap.size ids L HF.out.1 HF.out.2 (.inl rfl) HA.out.1 HA.out.2.1 hnl HL.out.1 HL.out.2.1 HL.out.2.2.1 HL.out.2.2.2)
  · have HX := Hid.mk (And.intro hCS hbd)
    clear hCS hbd
    go_wp2_with (first | (go_at_call 6; refine (num_any _ _).mono ?_; rintro e w6 ⟨rfl, hw6⟩; replace hw6 := hw6.symm; subst hw6))
    exact HC.out _ _ (law_b w _ la sa (some ⟨rp, 0, none⟩) cap sc n m fg fc w3.heap.size ids L HF.out.1 HF.out.2 (.inr ⟨rp, lo, hi, S, rfl, HX.out.1, HX.out.2⟩) HA.out.1 HA.out.2.1 hnl HL.out.1 HL.out.2.1 HL.out.2.2.1 HL.out.2.2.2)
end Go.Proofs.Ytmhifofeobhhgaa
