/-
  DERIVED. The law's fed: feeds and sources for every row of lists.
-/
import Derived.Test.YtchikfabfhjkgaaFFed
set_option linter.unusedVariables false
set_option linter.unusedSimpArgs false
namespace Go.Proofs.Ytchikfabfhjkgaa.Fd
open Go.RowKit
set_option maxHeartbeats 4000000 in
set_option maxRecDepth 100000 in
theorem fed_any (R : List (List En)) (la : Option Addr) (lc : Nat) (w : World) (h : GL w la R) (hk : R.length ≤ 1024) :
    Calls Try.prog 16 #[.slice la R.length lc] w fun r w' => ∃ bs fv sv, r = .returned (.tuple #[fv, sv]) ∧ bs.length = R.length ∧ FedI R w bs bs fv sv w' := by
  have HL := Hid.mk (And.intro h hk)
  clear h hk
  go_enter Try.func16, Try.ntmps16
  go_wp2
  go_loopw [4, 5, 6] (fun fv sv iv wr => ∃ bs, iv = .int .i64 (bs.length : Nat) ∧ bs.length ≤ R.length ∧ FedI R w bs bs fv sv wr) (fun _ _ iv _ => R.length - (intOf iv).toNat)
  case atStart => exact ⟨[], rfl, Nat.zero_le _, ⟨⟨rfl, .inl ⟨rfl, rfl⟩⟩, ⟨rfl, .inl ⟨rfl, rfl⟩⟩, (fun k hk => by cases hk), (fun k hk => by cases hk), (fun j b hj => by simp at hj), List.nodup_nil, Below.refl _ _⟩⟩
  case round =>
    obtain ⟨bs, rfl, hp, hI⟩ := hrel
    obtain ⟨fa, fc, hfv, -⟩ := slice_form hI.fo
    obtain ⟨sa, sc, hsv, -⟩ := slice_form hI.so
    subst hfv
    subst hsv
    obtain ⟨p, hpe⟩ : ∃ p, p = bs.length := ⟨_, rfl⟩
    rw [← hpe] at hp
    by_cases hlt : p < R.length
    · obtain ⟨r, hr⟩ : ∃ r, R[p]? = some r := ⟨_, List.getElem?_eq_getElem hlt⟩
      obtain ⟨lb, lo, a, c, rfl, ⟨g0, g1, g2, g3, g4⟩, hL, hrl⟩ := HL.out.1.at' p r hr
      have hpk : p < 1024 := by have := HL.out.2; omega
      have x0 := cell_lat hI.bl g0
      have x1 := cell_lat hI.bl g1
      have x2 := cell_lat hI.bl g2
      have x3 := cell_lat hI.bl g3
      have x4 := cell_lat hI.bl g4
      have j1 : (p : Int) < (R.length : Int) := by omega
      have j0 : 0 ≤ (p : Int) := by omega
      have hw3 : IntKind.i64.wrap ((p : Int) + 1) = (p : Int) + 1 := by rw [IntKind.wrap_i64]; omega
      have step := Hid.mk (hI.made (c := c) (by rw [← hpe]; exact hr) hL hrl (by rw [← hpe]; exact hpk) _ rfl)
      have H2 := Hid.mk (And.intro hpe (And.intro hpk (And.intro hp g2)))
      rw [← hpe] at step
      have hmf : ∀ (fn : Fn) (first cap : Array Value) (w : World), (Instr.makeFunc fn first cap).run Try.prog w = .ok (.func fn first cap) w := fun _ _ _ _ => rfl
      have hsz : ∀ o, (wr.alloc o).heap.size = wr.heap.size + 1 := fun o => by simp
      rw [← hpe]
      clear hI hL hrl hr hpk hpe g0 g1 g2 g3 g4 hp hlt
      obtain ⟨a', c', w3, hap, hI3⟩ := step.out
      rw [hsz] at hap
      clear step hsz
      have y2 := cell_lat hI3.bl H2.out.2.2.2
      obtain ⟨a'', c'', w5, hap2, hI5⟩ := hI3.sourced (by rw [← H2.out.1]; exact H2.out.2.1)
      rw [← H2.out.1] at hap2 hI5
      replace hI5 := Hid.mk hI5
      clear hI3
      go_wp2_with (at_builtin; first | (refine wpList_append_eq rfl _ _ _ _ rfl _ _ _ _ rfl rfl hap ?_; clear hap) | (refine wpList_append_eq rfl _ _ _ _ rfl _ _ _ _ rfl rfl hap2 ?_; clear hap2))
      have hp1 := H2.out.1
      refine ⟨⟨bs ++ [(wr.heap.size, r)], ival (by simp; omega), by simp; omega, hI5.out⟩, by simp only [intOf]; omega⟩
    · have j1 : (R.length : Int) ≤ (p : Int) := by omega
      have hpR : bs.length = R.length := by omega
      have fin : Hid (bs.length = R.length ∧ FedI R w bs bs (.slice fa p fc) (.slice sa p sc) wr) := Hid.mk ⟨hpR, by rw [hpe]; exact hI⟩
      rw [← hpe]
      clear hI hp hlt hpR hpe
      go_wp2
      go_ret2
      exact ⟨bs, _, _, rfl, fin.out⟩
end Go.Proofs.Ytchikfabfhjkgaa.Fd
