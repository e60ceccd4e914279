/-
  DERIVED. Manifests: which ones go.
-/
import Derived.WalkKit
set_option linter.unusedVariables false
set_option linter.unusedSimpArgs false
namespace Go.Proofs.YtkoannkecojhmaaGreatDoor
/-- A run's numbers. -/
structure Ru where
  num : Int
  lo : Int
  hi : Int
  cnt : Int
/-- A manifest. -/
structure Mf where
  w : Int
  ch : Int
  md : Int
  seq : Int
  nx : Int
  jn : Int
  rs : List Ru
def wdB (w : Int) : Bool := decide (64 ≤ w ∧ w ≤ 1024 ∧ w % 64 = 0)
def mdB (md : Int) : Bool := decide (md = 1 ∨ md = 2)
def ctB (w ch md : Int) : Bool := if md = 2 then decide (ch = 0) else decide (w / 32 ≤ ch ∧ ch ≤ w / 8)
/-- Each number is one of its own, given out already. -/
def numd (nx : Int) : List Int → List Ru → Bool
  | _, [] => true
  | tk, r :: rs => decide (r.num ∉ tk ∧ 1 ≤ r.num ∧ r.num ≤ nx - 1) && numd nx (r.num :: tk) rs
/-- Each run is behind the one ahead of it. -/
def foll (seq : Int) : Int → List Ru → Bool
  | _, [] => true
  | b, r :: rs => decide (1 ≤ r.cnt ∧ r.cnt ≤ 2097152 ∧ b ≤ r.lo ∧ r.lo < r.hi ∧ r.hi ≤ seq) && foll seq r.hi rs
/-- The numbers go. -/
def nbB (m : Mf) : Bool :=
  decide (0 ≤ m.seq ∧ m.seq ≤ 1152921504606846976) && decide (2 ≤ m.nx ∧ m.nx ≤ 1099511627776) && decide (1 ≤ m.jn ∧ m.jn ≤ m.nx - 1) && decide (m.rs.length ≤ 24)
/-- What Check answers. -/
def chE (m : Mf) : Int :=
  if wdB m.w = false then 10 else if mdB m.md = false then 81 else if ctB m.w m.ch m.md = false then 12 else
  if (nbB m && numd m.nx [m.jn] m.rs && foll m.seq 0 m.rs) = true then 0 else 80
/-- The same, run by run. -/
def runs1 (m : Mf) : List Int → Int → List Ru → Bool
  | _, _, [] => true
  | tk, b, r :: rs => decide (r.num ∉ tk ∧ 1 ≤ r.num ∧ r.num ≤ m.nx - 1 ∧ 1 ≤ r.cnt ∧ r.cnt ≤ 2097152 ∧ b ≤ r.lo ∧ r.lo < r.hi ∧ r.hi ≤ m.seq) && runs1 m (r.num :: tk) r.hi rs
theorem runs1_eq (m : Mf) : ∀ (rs : List Ru) (tk : List Int) (b : Int), runs1 m tk b rs = (numd m.nx tk rs && foll m.seq b rs)
  | [], _, _ => rfl
  | r :: rs, tk, b => by
    simp only [runs1, numd, foll, runs1_eq m rs]
    by_cases h1 : r.num ∉ tk ∧ 1 ≤ r.num ∧ r.num ≤ m.nx - 1
    · by_cases h2 : 1 ≤ r.cnt ∧ r.cnt ≤ 2097152 ∧ b ≤ r.lo ∧ r.lo < r.hi ∧ r.hi ≤ m.seq
      · rw [decide_eq_true h1, decide_eq_true h2, decide_eq_true ⟨h1.1, h1.2.1, h1.2.2, h2⟩]; simp
      · rw [decide_eq_false h2, decide_eq_false (fun h => h2 h.2.2.2)]; simp
    · rw [decide_eq_false h1, decide_eq_false (fun h => h1 ⟨h.1, h.2.1, h.2.2.1⟩)]; simp
end Go.Proofs.YtkoannkecojhmaaGreatDoor
