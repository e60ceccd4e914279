/-
  DERIVED. DiskQuiet's walk.
-/
import Derived.Test.YthpppinplnkkhaaDBegun
set_option linter.unusedVariables false
set_option linter.unusedSimpArgs false
set_option linter.unnecessarySimpa false
namespace Go.Proofs.Ythpppinplnkkhaa
open Go.RowKit Go.Maps Go.Proofs.DiskMath
/-- A script in memory. -/
structure Scr (W : World) (a : Option Addr) (ss : List Stp) : Prop where
  at_ : ∀ i (hi : i < ss.length), ∃ b o, a = some ⟨b, o, none⟩ ∧ ∀ k (hk : k < 8), W.cell? ⟨b, o + i * 8 + k, none⟩ = (stpC ss[i])[k]?
  cuts : ∀ i (hi : i < ss.length), CutsAt W (ss[i]).ca (ss[i]).cs
theorem ow_cuts {w W : World} {p mb : Nat} {es : List Ent} {c : Ctl} {a : Option Addr} {ss : List Stp} (h : Ow w W p mb es c) (hsc : ∀ W, Below w.heap.size w W → Scr W a ss) (i : Nat) (hi : i < ss.length) : ∀ W', Stay (Foot p mb es) W W' → CutsAt W' (ss[i]).ca (ss[i]).cs := fun W' hW =>
  (hsc W' (h.bel.trans (hW.toBelow (fun k hk hF => by have := h.own k hF; omega) h.bel.size))).cuts i hi
theorem full_lose {f : Fl} (h : f.du = f.da.length) (k : Int) (sp : UInt8) : loseF f k sp = f := by
  unfold loseF
  rw [h]
  have e0 : min k.toNat (f.da.length - f.da.length) = 0 := by omega
  rw [e0]
  unfold loseL
  obtain ⟨a, b, c⟩ := f
  simp only at h
  simp [h]
theorem full_cut {f : Fl} (h : f.du = f.da.length) (cs : List (ByteArray × Int × UInt8)) : cutF cs f = f := by
  induction cs with
  | nil => rfl
  | cons c r ih =>
    show cutF r _ = _
    dsimp only
    split
    · rw [full_lose h]; exact ih
    · exact ih
theorem lose_full {f : Fl} (h : f.du ≤ f.da.length) : (loseF f 0 0).du = (loseF f 0 0).da.length := by
  have := loseL_len f.da f.du (min (0 : Int).toNat (f.da.length - f.du)) 0 (by omega)
  unfold loseF; dsimp only; omega
theorem crashed {w : World} {p mb : Nat} {es es' : List Ent} {c : Ctl} {cs : List (ByteArray × Int × UInt8)} (h : DK w p mb es c) (hf : es'.map fl = ((es.map fl).map (cutF cs)).map (fun f => loseF f 0 0)) : ∀ f ∈ es'.map fl, f.du = f.da.length := fun f hfm => by
  rw [hf, List.map_map] at hfm
  obtain ⟨g, hg, rfl⟩ := List.mem_map.1 hfm
  obtain ⟨e, he, rfl⟩ := List.mem_map.1 hg
  exact lose_full (cutF_len cs (fl e) (h.hf e he).du).2
theorem crash_same {es es' : List Ent} {cs : List (ByteArray × Int × UInt8)} (h : ∀ f ∈ es.map fl, f.du = f.da.length) (hf : es'.map fl = ((es.map fl).map (cutF cs)).map (fun f => loseF f 0 0)) : es'.map fl = es.map fl := by
  rw [hf, List.map_map]
  conv => rhs; rw [← List.map_id (es.map fl)]
  refine List.map_congr_left fun f hfm => ?_
  show loseF (cutF cs f) 0 0 = f
  rw [full_cut (h f hfm), full_lose (h f hfm)]
theorem okE_two (c : Ctl) : okE c = 0 ∨ okE c = 45 := by unfold okE; split <;> simp
theorem crash_nil_ow {w W : World} {p mb : Nat} {es : List Ent} {c : Ctl} (h : Ow w W p mb es c) : Calls Try.prog 8 #[Pt p, .slice none 0 0] W (fun r w' => r = .returned (.tuple #[]) ∧ ∃ es', Ow w w' p mb es' (crashC c) ∧ Hid (es'.map fl = ((es.map fl).map (cutF [])).map (fun f => loseF f 0 0)) ∧ Hid (∀ f ∈ es'.map fl, f.du = f.da.length)) :=
  crash_any none [] 0 W h.dk (fun W' _ j hj => by cases hj) (by decide) (fun j hj => by cases hj) _ (fun w' es' st hf => ⟨rfl, es', h.step st, hf, crashed h.dk hf⟩)
theorem neq_self (S : ByteArray) : (S.toList != S.toList) = false := by simp
end Go.Proofs.Ythpppinplnkkhaa
