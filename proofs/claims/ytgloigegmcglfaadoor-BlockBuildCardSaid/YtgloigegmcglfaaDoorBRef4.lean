/-
  DERIVED. The document's own parting of texts: what is put into each block; texts one behind the other.
-/
import Derived.Test.YtgloigegmcglfaaDoorBRef1
import Derived.Test.YtgloigegmcglfaaDoorBWide
set_option linter.unusedVariables false
set_option linter.unusedSimpArgs false
namespace Go.Proofs.YtgloigegmcglfaaDoor
open Go.RowKit Go.Proofs.SealMath
/-- A text as a cell. -/
def TV (t : List UInt8) : Value := .string ⟨t.toArray⟩
theorem pkA_map {T : Type} (f : T → List UInt8) : ∀ (r : List T) (a : Nat) (cur : List T), pkA (fun t => t) a (cur.map f) (r.map f) = (pkA f a cur r).map fun p => (p.1, p.2.map f) := by
  have hln : ∀ l : List T, ln (fun t => t) (l.map f) = ln f l := fun l => by
    unfold ln; congr 1
    induction l with
    | nil => rfl
    | cons x l ih => simp [ih]
  intro r
  induction r with
  | nil => intro a cur; cases cur <;> simp [pkA]
  | cons x r ih =>
    intro a cur
    rw [List.map_cons, pkA, pkA, hln]
    split
    · rw [List.map_cons, ← ih, List.length_map]; rfl
    · rw [← ih]; simp
theorem pk_map {T : Type} (f : T → List UInt8) (l : List T) : pk (fun t => t) (l.map f) = (pk f l).map fun p => (p.1, p.2.map f) := pkA_map f l 0 []
/-- A text of a list that lies in memory. -/
structure TAt (w : World) (v : Value) (ts : List (List UInt8)) : Prop where
  row : w.ownsRow 0 9 1 v ts.length (ts.map TV)
theorem TAt.kept {F : Nat → Prop} {w w' : World} {v : Value} {ts : List (List UInt8)} (h : TAt w v ts) (s : Stay F w w') (hn : ∀ k, v.ownBlock = some k → ¬ F k) : TAt w' v ts := ⟨row_kept h.row s hn⟩
theorem TAt.form {w : World} {v : Value} {ts : List (List UInt8)} (h : TAt w v ts) : ∃ a cap, v = .slice a ts.length cap ∧ ts.length ≤ cap ∧ ∀ j (hj : j < ts.length), ∃ g, a = some ⟨g, 0, none⟩ ∧ w.cell? ⟨g, j, none⟩ = some (TV ts[j]) := by
  rcases h.row.2 with ⟨rfl, h0⟩ | ⟨g, cap, cur, rfl, h3, h4, h5, h6⟩
  · exact ⟨none, 0, by rw [h0], by omega, fun j hj => by omega⟩
  · refine ⟨_, cap, rfl, h5, fun j hj => ⟨g, rfl, ?_⟩⟩
    have h7 := h.row.cells (g := g) rfl j (TV ts[j]) (by rw [List.getElem?_map, List.getElem?_eq_getElem hj]; rfl)
    have e1 : (⟨g, 0, none⟩ : Addr).add j = ⟨g, j, none⟩ := by unfold Addr.add; split <;> simp_all
    rw [e1] at h7; exact h7
theorem take_flat (ts : List (List UInt8)) (a k : Nat) (h : a + k < ts.length) : ((ts.drop a).take (k + 1)).flatten = ((ts.drop a).take k).flatten ++ ts[a + k] := by
  have h1 : k < (ts.drop a).length := by simp; omega
  rw [List.take_succ_eq_append_getElem h1]
  simp
theorem flat_le (ts : List (List UInt8)) : ∀ k, (ts.take k).flatten.length ≤ ts.flatten.length := fun k => by
  have : ts.flatten = (ts.take k).flatten ++ (ts.drop k).flatten := by rw [← List.flatten_append, List.take_append_drop]
  rw [this, List.length_append]; omega
set_option maxRecDepth 100000 in
set_option maxHeartbeats 1000000 in
theorem joined_any (ts : List (List UInt8)) (v : Value) (a n : Nat) (w : World) (h : TAt w v ts) (han : a + n ≤ ts.length) (hl : ts.length ≤ 4194304) (hs : ((ts.drop a).take n).flatten.length ≤ 65536) :
    Calls Tryd.prog 41 #[v, .int .i64 a, .int .i64 n] w fun r w' => r = .returned (.string ⟨((ts.drop a).take n).flatten.toArray⟩) ∧ Below w.heap.size w w' := by
  obtain ⟨va, cap, rfl, hcap, hc⟩ := h.form
  have H := Hid.mk h
  have HC := Hid.mk hc
  clear h hc
  go_enter Tryd.func41, Tryd.ntmps41
  have hw3 : IntKind.i64.wrap ((a : Int) + (n : Int)) = (a : Int) + n := by rw [IntKind.wrap_i64]; omega
  go_wp2
  go_loopw [7, 8] (fun bv iv wr => ∃ k : Nat, k ≤ n ∧ iv = .int .i64 ((a + k : Nat) : Int) ∧ wr.ownsRow 0 5 1 bv ((ts.drop a).take k).flatten.length (((ts.drop a).take k).flatten.map BV) ∧ (∀ j, bv.ownBlock = some j → w.heap.size ≤ j) ∧ Below w.heap.size w wr) (fun _ iv _ => a + n - (intOf iv).toNat)
  case atStart => exact ⟨0, Nat.zero_le _, rfl, ⟨rfl, .inl ⟨rfl, rfl⟩⟩, (fun j h => by cases h), Below.refl _ _⟩
  case round =>
    obtain ⟨k, hk, rfl, hrow, hlo, hb⟩ := hrel
    by_cases hlt : k < n
    · have hak : a + k < ts.length := by omega
      obtain ⟨g, hg, hcg⟩ := HC.out (a + k) hak
      subst hg
      have hcw := cell_lat hb hcg
      have hfl := take_flat ts a k hak
      have hle : ((ts.drop a).take (k + 1)).flatten.length ≤ 65536 := by
        have h1 := flat_le ((ts.drop a).take n) (k + 1)
        rw [List.take_take, Nat.min_eq_left (by omega)] at h1
        omega
      obtain ⟨X, hX⟩ : ∃ X, X = ts[a + k] := ⟨_, rfl⟩
      rw [← hX] at hcw hfl
      obtain ⟨L, hL⟩ : ∃ L, L = ((ts.drop a).take k).flatten := ⟨_, rfl⟩
      rw [← hL] at hrow hfl
      have hXs : (⟨X.toArray⟩ : ByteArray).size = X.length := by show X.toArray.size = _; simp
      obtain ⟨v', W4, hr4, ho4, s4, hloc4⟩ := append_str2 wr 29 _ L hrow ⟨X.toArray⟩ (by rw [hfl, List.length_append] at hle; rw [hXs]; omega)
      obtain ⟨ba, bc, hbv, -⟩ := slice_form hrow
      rw [hbv] at hr4
      have i1 : ((a + k : Nat) : Int) < (a : Int) + (n : Int) := by omega
      have i2 : ((a + k : Nat) : Int) < (ts.length : Int) := by omega
      have HL := Hid.mk (And.intro hfl (And.intro ho4 (And.intro s4 (And.intro hloc4 (And.intro hlo hbv)))))
      have HB := Hid.mk (And.intro hb hrow)
      have hcw' : wr.cell? ⟨g, a + k, none⟩ = some (.string ⟨X.toArray⟩) := hcw
      clear hX hL hcw hcg hfl ho4 s4 hloc4 hlo hb hrow hw3
      have hw3 : IntKind.i64.wrap ((a : Int) + (n : Int)) = (a : Int) + n := by rw [IntKind.wrap_i64]; omega
      rw [hbv]
      clear hbv
      go_wp2_with (at_builtin; refine wpList_append_eq rfl _ _ _ _ rfl _ _ _ _ rfl rfl hr4 ?_)
      clear hw3
      refine ⟨⟨k + 1, hlt, ival (by omega), ?_, fun j hj => ?_, ?_⟩, by simp only [intOf]; omega⟩
      · rw [HL.out.1]; exact HL.out.2.1
      · rcases HL.out.2.2.2.1 j hj with h1 | h1
        · exact HL.out.2.2.2.2.1 j h1
        · have := HB.out.1.size; omega
      · exact HB.out.1.trans (HL.out.2.2.1.toBelow (fun j hj e => by have := HL.out.2.2.2.2.1 j e; omega) HB.out.1.size)
    · have e1 : k = n := by omega
      subst e1
      have hcv := conv_own _ hrow
      obtain ⟨ba, bc, hbv, -⟩ := slice_form hrow
      have HB := Hid.mk hb
      obtain ⟨L, hL⟩ : ∃ L, L = ((ts.drop a).take k).flatten := ⟨_, rfl⟩
      rw [← hL] at hcv hbv
      rw [hbv] at hcv ⊢
      have HLL := Hid.mk hL
      clear hL hrow hb hbv hs
      go_wp2
      go_ret
      rw [← HLL.out]
      exact ⟨rfl, HB.out⟩
end Go.Proofs.YtgloigegmcglfaaDoor
