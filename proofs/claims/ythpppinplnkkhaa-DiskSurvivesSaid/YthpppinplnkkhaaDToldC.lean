/-
  DERIVED. DiskSurvives: the list of what is known: told.
-/
import Derived.Test.YthpppinplnkkhaaDTold
set_option linter.unusedVariables false
set_option linter.unusedSimpArgs false
set_option linter.unnecessarySimpa false
namespace Go.Proofs.Ythpppinplnkkhaa
open Go.RowKit Go.Maps Go.Proofs.DiskMath
theorem KL.setBoth {B : Nat} {W : World} {g cap n : Nat} {K : List Fl} (h : KL B W (.slice (some ⟨g, 0, none⟩) n cap) K) (i : Nat) (hi : i < K.length) (x : List UInt8) (X : ByteArray) (hX : x = X.data.toList) (y : Nat) (Y : Int) (hY : (y : Int) = Y) : KL B ((W.setCell ⟨g, i * 3 + 1, none⟩ (.string X)).setCell ⟨g, i * 3 + 2, none⟩ (.int .i64 Y)) (.slice (some ⟨g, 0, none⟩) n cap) (K.set i { K[i] with da := x, du := y }) := by
  have h1 := KL.setDu (KL.setDa h i hi x X hX) i (by simpa using hi) y Y hY
  simpa using h1
set_option maxHeartbeats 4000000 in
set_option maxRecDepth 100000 in
theorem told_cut {B : Nat} {v : Value} {K : List Fl} (s : Stp) (hdo : s.do_ = 4) (w : World) (h : KL B w v K) (hB : B ≤ w.heap.size) (hl : K.length ≤ 8192) (i : Nat) (hi : i < K.length) (hat : atK K s.nm.data.toList = i)
    (m : Nat) (hm : s.n = m) (hm2 : m ≤ (K[i]).da.length) (hd : (K[i]).da.length ≤ 268435456) (hu : (K[i]).du ≤ (K[i]).da.length) (R : Ending → World → Prop)
    (h1 : ∀ v' w', ToldTo B w w' v v' (K.set i { K[i] with da := (K[i]).da.take m, du := min (K[i]).du m }) → R (.returned (.tuple #[v', .bool true])) w') : Calls Try.prog 11 #[v, .agg (stpC s)] w R := by
  unfold stpC
  obtain ⟨g, cap, hv, q0, q1, q2⟩ := h.cell i hi
  have hg : g < w.heap.size := (World.ownsRow.lt h g (by rw [hv]; rfl)).2
  rw [hv, hdo]
  rw [hv] at h h1
  have HR := Hid.mk h1
  clear h1 hv v
  go_enter Try.func11, Try.ntmps11
  go_wp2_with fail
  refine (at_any s.nm _ (World.ownsRow.alloc h _) (by omega)).mono ?_
  rintro r w' ⟨rfl, rfl⟩
  rw [hat]
  have q3 : w.frozen? ⟨g, i * 3 + 2, none⟩ = false := World.ownsRow.frozenAt h _
  have q4 : w.frozen? ⟨g, i * 3 + 1, none⟩ = false := World.ownsRow.frozenAt h _
  have HD : ((⟨(K[i]).da.toArray⟩ : ByteArray).size ≤ 268435456) := hd
  have HD2 : (m ≤ (⟨(K[i]).da.toArray⟩ : ByteArray).size) := hm2
  have HS : Hid ((K[i]).da.take m = ((⟨(K[i]).da.toArray⟩ : ByteArray).extract 0 m).data.toList) := by
    show _ = _
    simp
  generalize hT : (⟨(K[i]).da.toArray⟩ : ByteArray) = T at *
  generalize hx : (K[i]).du = x at *
  have g1 : ¬ ((m : Int) < 0) := by omega
  have g2 : ¬ (T.size < m) := by omega
  go_wp2
  go_region
  all_goals
    go_wp2
    go_region
  all_goals
    by_cases hxm : x ≤ m
    · have hq : ¬ ((m : Int) < (x : Int)) := by omega
      have e1 : min x m = (K[i]).du := by omega
      rw [e1] at HR
      go_wp2
      go_region
      all_goals
        go_wp2
        refine HR.out _ _ ⟨?_, ?_⟩
        · exact World.ownsRow.alloc (KL.setDa h i hi _ _ HS.out) _
        · refine Stay.drew (Stay.drew <| Stay.drew (Stay.alloc (Stay.setCell (Stay.refl _ w) (fun _ => ?_) _) _)); rfl
    · have hq : ((m : Int) < (x : Int)) := by omega
      have e1 : min x m = m := by omega
      rw [e1] at HR
      go_wp2
      go_region
      all_goals
        go_wp2
        refine HR.out _ _ ⟨?_, ?_⟩
        · exact World.ownsRow.alloc (KL.setBoth h i hi _ _ HS.out _ _ rfl) _
        · refine Stay.drew (Stay.drew <| Stay.drew (Stay.alloc (Stay.setCell (Stay.setCell (Stay.refl _ w) (fun _ => ?_) _) (fun _ => ?_) _) _)) <;> rfl
end Go.Proofs.Ythpppinplnkkhaa
