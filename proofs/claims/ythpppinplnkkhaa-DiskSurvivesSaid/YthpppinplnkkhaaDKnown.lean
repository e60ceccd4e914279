/-
  DERIVED. DiskSurvives: the list of what is known: at, drop.
-/
import Derived.Test.YthpppinplnkkhaaDFun
set_option linter.unusedVariables false
set_option linter.unusedSimpArgs false
set_option linter.unnecessarySimpa false
namespace Go.Proofs.Ythpppinplnkkhaa
open Go.RowKit Go.Maps Go.Proofs.DiskMath
theorem enc_ba (x : ByteArray) : encStr x.data.toList = .string x := by simp [encStr]
theorem less_lt : ∀ a b : List UInt8, Op.bytesLess a b = decide (a < b)
  | [], [] => by simp [Op.bytesLess]
  | [], _ :: _ => by simp [Op.bytesLess]
  | _ :: _, [] => by simp [Op.bytesLess]
  | a :: r, b :: s => by
    rw [Op.bytesLess, less_lt r s]
    by_cases h : a < b
    · simp [h, List.cons_lt_cons_iff]
    · by_cases e : a = b
      · subst e; simp
      · simp [h, e, List.cons_lt_cons_iff]
theorem row_below {w w' : World} {base n size : Nat} {e : TypeId} {v : Value} {xs : List Value} (h : w.ownsRow base e size v n xs) (b : Below w.heap.size w w') : w'.ownsRow base e size v n xs := by
  rcases h with ⟨h1, h2 | ⟨g, cap, cur, h2, h3, h4, h5⟩⟩
  · exact ⟨h1, .inl h2⟩
  · exact ⟨h1, .inr ⟨g, cap, cur, h2, h3, (b.block g (Array.getElem?_eq_some_iff.1 h4).1).trans h4, h5⟩⟩
theorem own_form {w : World} {base n size : Nat} {e : TypeId} {v : Value} {xs : List Value} (h : w.ownsRow base e size v n xs) : ∃ a cap, v = .slice a n cap := by
  rcases h.2 with ⟨rfl, rfl⟩ | ⟨g, cap, cur, rfl, _⟩
  · exact ⟨none, 0, rfl⟩
  · exact ⟨_, cap, rfl⟩
/-- What is known of a file, as three cells. -/
def kC (f : Fl) : List Value := [encStr f.nm, encStr f.da, .int .i64 f.du]
def cellsK (K : List Fl) : List Value := K.flatMap kC
theorem cellsK_snoc (K : List Fl) (f : Fl) : cellsK (K ++ [f]) = cellsK K ++ kC f := by simp [cellsK]
theorem cellsK_len (K : List Fl) : (cellsK K).length = K.length * 3 := by
  induction K with
  | nil => rfl
  | cons e r ih => simp [cellsK, kC] at *; omega
theorem cellsK_at : ∀ (K : List Fl) (i : Nat) (hi : i < K.length), (cellsK K)[i * 3]? = some (encStr (K[i]).nm) ∧ (cellsK K)[i * 3 + 1]? = some (encStr (K[i]).da) ∧ (cellsK K)[i * 3 + 2]? = some (.int .i64 (K[i]).du)
  | [], i, hi => by cases hi
  | f :: r, 0, hi => ⟨rfl, rfl, rfl⟩
  | f :: r, i + 1, hi => by
    have := cellsK_at r i (by simpa using hi)
    have e1 : cellsK (f :: r) = encStr f.nm :: encStr f.da :: .int .i64 f.du :: cellsK r := rfl
    rw [e1, show (i + 1) * 3 = i * 3 + 3 by omega]
    exact this
theorem Try.infoKn : (Try.prog.info? 34).map (fun i => (i.zero, i.size, i.bytes)) = some (some (.agg #[.string ⟨#[]⟩, .string ⟨#[]⟩, .int .i64 0]), 3, 40) := by kernel_rfl
theorem cell_three (w : World) (x y z : Value) (t : TypeId) : ∀ j u, ([x, y, z] : List Value)[j]? = some u → (w.alloc (.cells #[x, y, z] t)).cell? ((⟨w.heap.size, 0, none⟩ : Addr).add j) = some u := by
  intro j u hu
  have hj : (⟨w.heap.size, 0, none⟩ : Addr).add j = ⟨w.heap.size, j, none⟩ := by unfold Addr.add; split <;> simp_all
  have := heap_alloc_new w (.cells #[x, y, z] t)
  rw [hj]
  match j, hu with
  | 0, hu => simp at hu; subst hu; simp only [World.cell?, this]; rfl
  | 1, hu => simp at hu; subst hu; simp only [World.cell?, this]; rfl
  | 2, hu => simp at hu; subst hu; simp only [World.cell?, this]; rfl
/-- The list, in memory of the call's own. -/
def KL (B : Nat) (W : World) (v : Value) (K : List Fl) : Prop := W.ownsRow B 34 3 v K.length (cellsK K)
theorem KL.cell {B : Nat} {W : World} {v : Value} {K : List Fl} (h : KL B W v K) (i : Nat) (hi : i < K.length) : ∃ g cap, v = .slice (some ⟨g, 0, none⟩) K.length cap ∧ W.cell? ⟨g, i * 3, none⟩ = some (.string ⟨(K[i]).nm.toArray⟩) ∧ W.cell? ⟨g, i * 3 + 1, none⟩ = some (.string ⟨(K[i]).da.toArray⟩) ∧ W.cell? ⟨g, i * 3 + 2, none⟩ = some (.int .i64 (K[i]).du) := by
  rcases h.2 with ⟨h0, hn⟩ | ⟨g, cap, cur, h0, _⟩
  · omega
  · subst h0
    obtain ⟨k0, k1, k2⟩ := cellsK_at K i hi
    have a0 := h.cells (g := g) rfl _ _ k0
    have a1 := h.cells (g := g) rfl _ _ k1
    have a2 := h.cells (g := g) rfl _ _ k2
    have ad : ∀ j, (⟨g, 0, none⟩ : Addr).add j = ⟨g, j, none⟩ := fun j => by unfold Addr.add; split <;> simp_all
    rw [ad] at a0 a1 a2
    exact ⟨g, cap, rfl, a0, a1, a2⟩
/-- Where a name stands. -/
def atK (K : List Fl) (n : List UInt8) : Int := match K.findIdx? (fun f => f.nm == n) with | some i => (i : Int) | none => -1
theorem atK_take {K : List Fl} {n : List UInt8} {i : Nat} (hi : i < K.length) (h : ∀ j (hj : j < i), ((K[j]'(by omega)).nm == n) = false) (he : (K[i].nm == n) = true) : atK K n = i := by
  unfold atK
  have : K.findIdx? (fun f => f.nm == n) = some i := by
    rw [List.findIdx?_eq_some_iff_getElem]
    exact ⟨hi, he, fun j hj => by simpa using h j hj⟩
  rw [this]
theorem atK_none {K : List Fl} {n : List UInt8} (h : ∀ j (hj : j < K.length), ((K[j]).nm == n) = false) : atK K n = -1 := by
  unfold atK
  have : K.findIdx? (fun f => f.nm == n) = none := by
    rw [List.findIdx?_eq_none_iff]
    intro x hx
    obtain ⟨j, hj, rfl⟩ := List.getElem_of_mem hx
    simpa using h j hj
  rw [this]
set_option maxHeartbeats 4000000 in
set_option maxRecDepth 100000 in
theorem at_any {B : Nat} {v : Value} {K : List Fl} (s : ByteArray) (w : World) (h : KL B w v K) (hl : K.length < 4611686018427387904) : Calls Try.prog 24 #[v, .string s] w fun r w' => r = .returned (.int .i64 (atK K s.data.toList)) ∧ w' = w := by
  obtain ⟨a, cap, hv⟩ := own_form h
  obtain ⟨x, hx⟩ : ∃ x, x = atK K s.data.toList := ⟨_, rfl⟩
  rw [← hx]
  have HX := Hid.mk hx
  clear hx
  rw [hv]
  go_enter Try.func24, Try.ntmps24
  go_wp2
  go_loopw [5] (fun u wr => ∃ i : Nat, u = .int .i64 i ∧ i ≤ K.length ∧ Hid (∀ j (hj : j < K.length), j < i → ((K[j]).nm == s.data.toList) = false) ∧ wr = w) (fun u _ => K.length - (intOf u).toNat)
  case atStart => exact ⟨0, rfl, Nat.zero_le _, fun j hj h0 => by omega, rfl⟩
  case round =>
    obtain ⟨i, rfl, hi, HJ, rfl⟩ := hrel
    by_cases hlt : i < K.length
    · obtain ⟨g, cp, hv2, q0, q1, q2⟩ := h.cell i hlt
      rw [hv] at hv2
      simp only [Value.slice.injEq] at hv2
      obtain ⟨rfl, -, rfl⟩ := hv2
      cases hq : (K[i].nm == s.data.toList)
      · have gq : ((⟨(K[i]).nm.toArray⟩ : ByteArray).toList == s.toList) = false := by rw [ByteArray.toList_eq, ByteArray.toList_eq]; exact hq
        have HJ2 : Hid (∀ j (hj : j < K.length), j < i + 1 → ((K[j]).nm == s.data.toList) = false) := fun j hj h1 => by
          by_cases e1 : j = i
          · subst e1; exact hq
          · exact HJ.out j hj (by omega)
        generalize (⟨(K[i]).nm.toArray⟩ : ByteArray) = S at *
        clear hq HJ
        go_wp2
        refine ⟨⟨i + 1, rfl, hlt, HJ2, trivial⟩, by simp only [intOf]; omega⟩
      · have gq : ((⟨(K[i]).nm.toArray⟩ : ByteArray).toList == s.toList) = true := by rw [ByteArray.toList_eq, ByteArray.toList_eq]; exact hq
        have HI : Hid (x = (i : Int)) := HX.out.trans (atK_take hlt (fun j hj => HJ.out j (by omega) hj) hq)
        generalize (⟨(K[i]).nm.toArray⟩ : ByteArray) = S at *
        clear hq HJ
        go_wp2
        go_ret
        exact ⟨ret_int HI.out.symm, rfl⟩
    · have HI : Hid (x = -1) := HX.out.trans (atK_none (fun j hj => HJ.out j hj (by omega)))
      clear HJ
      go_wp2
      go_ret
      exact ⟨ret_int HI.out.symm, rfl⟩
set_option maxHeartbeats 4000000 in
set_option maxRecDepth 100000 in
theorem drop_any {B : Nat} {v : Value} {K : List Fl} (s : ByteArray) (w : World) (h : KL B w v K) (hl : K.length ≤ 8192) (R : Ending → World → Prop)
    (h1 : ∀ v' w', KL w.heap.size w' v' (delF K s.data.toList) → Below w.heap.size w w' → R (.returned v') w') : Calls Try.prog 25 #[v, .string s] w R := by
  obtain ⟨a, cap, hv⟩ := own_form h
  obtain ⟨i0, hi0, hz0, hz1, hz2⟩ := info_parts Try.infoKn
  have HR := Hid.mk h1
  clear h1
  rw [hv]
  go_enter Try.func25, Try.ntmps25
  go_wp2
  go_loopw [5, 6] (fun o u wr => ∃ i : Nat, u = .int .i64 i ∧ i ≤ K.length ∧ KL w.heap.size wr o (delF (K.take i) s.data.toList) ∧ Below w.heap.size w wr) (fun _ u _ => K.length - (intOf u).toNat)
  case atStart => exact ⟨0, rfl, Nat.zero_le _, World.ownsRow_nil _ _ _ _, Below.refl _ _⟩
  case round =>
    obtain ⟨i, rfl, hi, hk, hb⟩ := hrel
    by_cases hlt : i < K.length
    · have hw : KL B wr v K := row_below h hb
      obtain ⟨g, cp, hv2, q0, q1, q2⟩ := hw.cell i hlt
      rw [hv] at hv2
      simp only [Value.slice.injEq] at hv2
      obtain ⟨rfl, -, rfl⟩ := hv2
      have htk : K.take (i + 1) = K.take i ++ [K[i]] := List.take_succ_eq_append_getElem hlt
      have hdl : (delF (K.take i) s.data.toList).length ≤ i := Nat.le_trans (List.length_filter_le _ _) (by rw [List.length_take]; omega)
      cases hq : (K[i].nm == s.data.toList)
      · have gq : ((⟨(K[i]).nm.toArray⟩ : ByteArray).toList == s.toList) = false := by rw [ByteArray.toList_eq, ByteArray.toList_eq]; exact hq
        have HD : Hid (delF (K.take (i + 1)) s.data.toList = delF (K.take i) s.data.toList ++ [K[i]]) := by
          show _ = _
          rw [htk]; unfold delF; rw [List.filter_append]; simp [hq]
        have HKC : Hid (kC K[i] = [.string ⟨(K[i]).nm.toArray⟩, .string ⟨(K[i]).da.toArray⟩, .int .i64 (K[i]).du]) := rfl
        clear htk hq
        generalize (⟨(K[i]).nm.toArray⟩ : ByteArray) = S at *
        generalize (⟨(K[i]).da.toArray⟩ : ByteArray) = T at *
        go_wp2_with (at_builtin; refine wpList_append_own _ rfl _ _ 26 rfl w.heap.size 34 i0 _ 3 40 Try.underlying26 hi0 hz0 hz1 hz2 rfl (by decide) _ _ _ rfl (World.ownsRow.alloc hk _) ⟨wr.heap.size, 0, none⟩ 1 1 [.string S, .string T, .int .i64 (K[i]).du] rfl rfl (cell_three wr _ _ _ _) (by simp [Value.oneCell']) (by unfold maxLen; omega) (by omega) (by have := hb.size; simp; omega) ?_; intro v7 w7 ho7 hg7 hnil7)
        refine ⟨⟨i + 1, rfl, hlt, ?_, (hb.alloc hb.size _).grown hg7 (by have := hb.size; simp; omega) (fun k hk2 => (World.ownsRow.lt hk k hk2).1)⟩, by simp only [intOf]; omega⟩
        unfold KL
        rw [HD.out, cellsK_snoc, List.length_append, HKC.out]
        exact ho7
      · have gq : ((⟨(K[i]).nm.toArray⟩ : ByteArray).toList == s.toList) = true := by rw [ByteArray.toList_eq, ByteArray.toList_eq]; exact hq
        have HD : Hid (delF (K.take (i + 1)) s.data.toList = delF (K.take i) s.data.toList) := by
          show _ = _
          rw [htk]; unfold delF; rw [List.filter_append]; simp [hq]
        clear htk hq
        generalize (⟨(K[i]).nm.toArray⟩ : ByteArray) = S at *
        go_wp2
        refine ⟨⟨i + 1, rfl, hlt, ?_, hb⟩, by simp only [intOf]; omega⟩
        rw [HD.out]; exact hk
    · have hR := Hid.mk (HR.out _ wr (by rw [List.take_of_length_le (by omega)] at hk; exact hk) hb)
      clear HR
      go_wp2
      exact hR.out
end Go.Proofs.Ythpppinplnkkhaa
