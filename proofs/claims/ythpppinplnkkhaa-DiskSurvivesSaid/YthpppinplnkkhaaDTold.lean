/-
  DERIVED. DiskSurvives: the list of what is known: told.
-/
import Derived.Test.YthpppinplnkkhaaDKnown
set_option linter.unusedVariables false
set_option linter.unusedSimpArgs false
set_option linter.unnecessarySimpa false
namespace Go.Proofs.Ythpppinplnkkhaa
open Go.RowKit Go.Maps Go.Proofs.DiskMath
/-- What told leaves. -/
structure ToldTo (B : Nat) (w w' : World) (v v' : Value) (K' : List Fl) : Prop where
  row : KL B w' v' K'
  stay : Stay (fun k => v.ownBlock = some k) w w'
theorem KL.mono {B B' : Nat} {W : World} {v : Value} {K : List Fl} (h : KL B W v K) (hb : B' ≤ B) : KL B' W v K := by
  rcases h with ⟨h1, h2 | ⟨g, cap, cur, h2, h3, h4⟩⟩
  · exact ⟨h1, .inl h2⟩
  · exact ⟨h1, .inr ⟨g, cap, cur, h2, Nat.le_trans hb h3, h4⟩⟩
theorem cellsK_set0 : ∀ (K : List Fl) (i : Nat) (hi : i < K.length) (x : List UInt8), (cellsK K).set (i * 3 + 1) (encStr x) = cellsK (K.set i { K[i] with da := x })
  | [], i, hi, x => by cases hi
  | f :: r, 0, hi, x => rfl
  | f :: r, i + 1, hi, x => by
    have := cellsK_set0 r i (by simpa using hi) x
    have e1 : cellsK (f :: r) = encStr f.nm :: encStr f.da :: .int .i64 f.du :: cellsK r := rfl
    rw [e1, show (i + 1) * 3 + 1 = (i * 3 + 1) + 3 by omega]
    simp only [List.set_cons_succ, List.getElem_cons_succ]
    rw [this]; rfl
theorem cellsK_set1 : ∀ (K : List Fl) (i : Nat) (hi : i < K.length) (x : Nat), (cellsK K).set (i * 3 + 2) (.int .i64 x) = cellsK (K.set i { K[i] with du := x })
  | [], i, hi, x => by cases hi
  | f :: r, 0, hi, x => rfl
  | f :: r, i + 1, hi, x => by
    have := cellsK_set1 r i (by simpa using hi) x
    have e1 : cellsK (f :: r) = encStr f.nm :: encStr f.da :: .int .i64 f.du :: cellsK r := rfl
    rw [e1, show (i + 1) * 3 + 2 = (i * 3 + 2) + 3 by omega]
    simp only [List.set_cons_succ, List.getElem_cons_succ]
    rw [this]; rfl
theorem KL.setDa {B : Nat} {W : World} {g cap n : Nat} {K : List Fl} (h : KL B W (.slice (some ⟨g, 0, none⟩) n cap) K) (i : Nat) (hi : i < K.length) (x : List UInt8) (X : ByteArray) (hX : x = X.data.toList) : KL B (W.setCell ⟨g, i * 3 + 1, none⟩ (.string X)) (.slice (some ⟨g, 0, none⟩) n cap) (K.set i { K[i] with da := x }) := by
  have hn : n = K.length := by
    rcases h.2 with ⟨h0, _⟩ | ⟨g', cap', cur, h0, _⟩
    · simp at h0
    · simp only [Value.slice.injEq] at h0; exact h0.2.1
  subst hn
  subst hX
  have e1 : Value.string X = encStr X.data.toList := by unfold encStr; simp
  unfold KL at *
  rw [← cellsK_set0 K i hi, List.length_set, e1]
  exact (World.ownsRow.stored h _ _).1
theorem KL.setDu {B : Nat} {W : World} {g cap n : Nat} {K : List Fl} (h : KL B W (.slice (some ⟨g, 0, none⟩) n cap) K) (i : Nat) (hi : i < K.length) (x : Nat) (X : Int) (hX : (x : Int) = X) : KL B (W.setCell ⟨g, i * 3 + 2, none⟩ (.int .i64 X)) (.slice (some ⟨g, 0, none⟩) n cap) (K.set i { K[i] with du := x }) := by
  have hn : n = K.length := by
    rcases h.2 with ⟨h0, _⟩ | ⟨g', cap', cur, h0, _⟩
    · simp at h0
    · simp only [Value.slice.injEq] at h0; exact h0.2.1
  subst hn
  subst hX
  unfold KL at *
  rw [← cellsK_set1 K i hi x, List.length_set]
  exact (World.ownsRow.stored h _ _).1
set_option maxHeartbeats 4000000 in
set_option maxRecDepth 100000 in
theorem told_append {B : Nat} {v : Value} {K : List Fl} (s : Stp) (hdo : s.do_ = 2) (w : World) (h : KL B w v K) (hl : K.length ≤ 8192) (i : Nat) (hi : i < K.length) (hat : atK K s.nm.data.toList = i)
    (hd : (K[i]).da.length + s.da.size ≤ 268435456) (R : Ending → World → Prop)
    (h1 : ∀ v' w', ToldTo B w w' v v' (K.set i { K[i] with da := (K[i]).da ++ s.da.data.toList }) → R (.returned (.tuple #[v', .bool true])) w') : Calls Try.prog 11 #[v, .agg (stpC s)] w R := by
  unfold stpC
  obtain ⟨g, cap, hv, q0, q1, q2⟩ := h.cell i hi
  have hg : g < w.heap.size := (World.ownsRow.lt h g (by rw [hv]; rfl)).2
  rw [hv, hdo]
  rw [hv] at h h1
  have HR := Hid.mk h1
  clear h1 hv v
  go_enter Try.func11, Try.ntmps11
  go_wp2_with fail
  refine (at_any s.nm _ (World.ownsRow.alloc h _) (by omega)).mono ?_
  rintro r w' ⟨rfl, rfl⟩
  rw [hat]
  have q3 : (w.alloc (.cells #[.int .i64 2, .string s.nm, .string s.to, .string s.da, .int .i64 s.at_, .int .i64 s.n, .bool s.dn, .slice s.ca s.cs.length s.cc] 29)).frozen? ⟨g, i * 3 + 1, none⟩ = false := World.ownsRow.frozenAt (World.ownsRow.alloc h _) _
  have HT : Hid (∀ w', ToldTo B w w' (.slice (some ⟨g, 0, none⟩) K.length cap) (.slice (some ⟨g, 0, none⟩) K.length cap) (K.set i { K[i] with da := (K[i]).da ++ s.da.data.toList }) → R (.returned (.tuple #[.slice (some ⟨g, 0, none⟩) K.length cap, .bool true])) w') := fun w' hw => HR.out _ w' hw
  have HS : Hid ((K[i]).da ++ s.da.data.toList = ((⟨(K[i]).da.toArray⟩ : ByteArray) ++ s.da).data.toList) := by
    show _ = _
    simp
  have HD : ¬ (9223372036854775807 < (⟨(K[i]).da.toArray⟩ : ByteArray).size + s.da.size) := by show ¬ (9223372036854775807 < (K[i]).da.length + s.da.size); omega
  clear HR
  generalize hT : (⟨(K[i]).da.toArray⟩ : ByteArray) = T at *
  go_wp2
  go_region
  all_goals
    go_wp2
    exact HT.out _ ⟨World.ownsRow.drew (World.ownsRow.alloc (KL.setDa h i hi _ _ HS.out) _), by refine Stay.drew (Stay.alloc (Stay.setCell (Stay.refl _ w) (fun _ => ?_) _) _); rfl⟩
set_option maxHeartbeats 4000000 in
set_option maxRecDepth 100000 in
theorem told_sync {B : Nat} {v : Value} {K : List Fl} (s : Stp) (hdo : s.do_ = 3) (w : World) (h : KL B w v K) (hB : B ≤ w.heap.size) (hl : K.length ≤ 8192) (i : Nat) (hi : i < K.length) (hat : atK K s.nm.data.toList = i)
    (hd : (K[i]).da.length ≤ 268435456) (R : Ending → World → Prop)
    (h1 : ∀ v' w', ToldTo B w w' v v' (K.set i { K[i] with du := (K[i]).da.length }) → R (.returned (.tuple #[v', .bool true])) w') : Calls Try.prog 11 #[v, .agg (stpC s)] w R := by
  unfold stpC
  obtain ⟨g, cap, hv, q0, q1, q2⟩ := h.cell i hi
  have hg : g < w.heap.size := (World.ownsRow.lt h g (by rw [hv]; rfl)).2
  rw [hv, hdo]
  rw [hv] at h h1
  have HR := Hid.mk h1
  clear h1 hv v
  go_enter Try.func11, Try.ntmps11
  go_wp2_with fail
  refine (at_any s.nm _ (World.ownsRow.alloc h _) (by omega)).mono ?_
  rintro r w' ⟨rfl, rfl⟩
  rw [hat]
  have q3 : (w.alloc (.cells #[.int .i64 3, .string s.nm, .string s.to, .string s.da, .int .i64 s.at_, .int .i64 s.n, .bool s.dn, .slice s.ca s.cs.length s.cc] 29)).frozen? ⟨g, i * 3 + 2, none⟩ = false := World.ownsRow.frozenAt (World.ownsRow.alloc h _) _
  have HS : Hid ((⟨(K[i]).da.toArray⟩ : ByteArray).size = (K[i]).da.length) := rfl
  have HD : ((⟨(K[i]).da.toArray⟩ : ByteArray).size ≤ 268435456) := hd
  generalize hT : (⟨(K[i]).da.toArray⟩ : ByteArray) = T at *
  go_wp2
  exact HR.out _ _ ⟨World.ownsRow.alloc (KL.setDu h i hi _ _ (by rw [HS.out])) _, by refine (Stay.alloc (Stay.setCell (Stay.refl _ w) (fun _ => ?_) _) _); rfl⟩
set_option maxHeartbeats 4000000 in
set_option maxRecDepth 100000 in
theorem told_delete {B : Nat} {v : Value} {K : List Fl} (s : Stp) (hdo : s.do_ = 6) (w : World) (h : KL B w v K) (hB : B ≤ w.heap.size) (hl : K.length ≤ 8192) (i : Nat) (hi : i < K.length) (hat : atK K s.nm.data.toList = i)
    (R : Ending → World → Prop)
    (h1 : ∀ v' w', ToldTo B w w' v v' (delF K s.nm.data.toList) → R (.returned (.tuple #[v', .bool true])) w') : Calls Try.prog 11 #[v, .agg (stpC s)] w R := by
  unfold stpC
  obtain ⟨g, cap, hv, q0, q1, q2⟩ := h.cell i hi
  have hg : g < w.heap.size := (World.ownsRow.lt h g (by rw [hv]; rfl)).2
  rw [hv, hdo]
  rw [hv] at h h1
  have HR := Hid.mk h1
  clear h1 hv v
  go_enter Try.func11, Try.ntmps11
  go_wp2_with fail
  refine (at_any s.nm _ (World.ownsRow.alloc h _) (by omega)).mono ?_
  rintro r w' ⟨rfl, rfl⟩
  rw [hat]
  go_wp2_with fail
  refine drop_any s.nm _ (World.ownsRow.alloc h _) hl _ (fun v' w' hk hb => ?_)
  obtain ⟨a', cap', hv'⟩ := own_form hk
  have HT := Hid.mk (HR.out v' w' ⟨KL.mono hk (by simp; omega), (Stay.refl _ w |>.alloc _).trans (Stay.below hb)⟩)
  clear HR hb
  subst hv'
  go_wp2
  exact HT.out
end Go.Proofs.Ythpppinplnkkhaa
