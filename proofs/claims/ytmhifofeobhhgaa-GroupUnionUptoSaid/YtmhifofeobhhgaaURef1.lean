/-
  DERIVED. The document's own union: where an id stands, joining.
-/
import Derived.Test.YtmhifofeobhhgaaUJoin2
set_option linter.unusedVariables false
set_option linter.unusedSimpArgs false
namespace Go.Proofs.Ytmhifofeobhhgaa
open Go.RowKit Go.Proofs.UnionMath
/-- Of each id the least of its group. -/
def lL (S : List Int) (R : Nat → Nat) : List Int := (List.range S.length).map (fun k => S.getD (R k) 0)
theorem lL_len (S : List Int) (R : Nat → Nat) : (lL S R).length = S.length := by simp [lL]
theorem lL_get (S : List Int) (R : Nat → Nat) (i : Nat) (h : i < (lL S R).length) : (lL S R)[i] = S.getD (R i) 0 := by simp [lL]
/-- The document's union in memory. -/
structure RU (w : World) (p : Nat) (iv lv : Value) (S : List Int) (R : Nat → Nat) : Prop where
  ids : Ids S
  box : w.heap[p]? = some (.cells #[iv, lv] 50 (0, 0))
  row : iE.Row w iv S
  lst : iE.Row w lv (lL S R)
  ap : ∀ k, lv.ownBlock = some k → ¬ iv.ownBlock = some k
  top : ∀ i, i < S.length → R i ≤ i ∧ R (R i) = R i
theorem RU.cells {w : World} {p : Nat} {iv lv : Value} {S : List Int} {R : Nat → Nat} (h : RU w p iv lv S R) : w.cell? ⟨p, 0, none⟩ = some iv ∧ w.cell? ⟨p, 1, none⟩ = some lv := by
  have hb := h.box
  constructor <;> simp [World.cell?, hb]
theorem RU.kept {w w' : World} {p : Nat} {iv lv : Value} {S : List Int} {R : Nat → Nat} {F : Nat → Prop} (h : RU w p iv lv S R) (s : Stay F w w') (h1 : ¬ F p) (h2 : ∀ k, iv.ownBlock = some k → ¬ F k) (h3 : ∀ k, lv.ownBlock = some k → ¬ F k) : RU w' p iv lv S R := by
  have hb := h.box
  exact ⟨h.ids, (s.block p (Array.getElem?_eq_some_iff.1 hb).1 h1).trans hb, row_kept h.row s h2, row_kept h.lst s h3, h.ap, h.top⟩
theorem RU.below {w w' : World} {p : Nat} {iv lv : Value} {S : List Int} {R : Nat → Nat} (h : RU w p iv lv S R) (b : Below w.heap.size w w') : RU w' p iv lv S R := h.kept (F := fun _ => False) (.below b) (fun h => h) (fun _ _ h => h) (fun _ _ h => h)
theorem RU.drew {w : World} {p : Nat} {iv lv : Value} {S : List Int} {R : Nat → Nat} (h : RU w p iv lv S R) : RU w.drew p iv lv S R := h.below (b_drew w)
theorem RU.nebox {w : World} {p : Nat} {iv lv : Value} {S : List Int} {R : Nat → Nat} (h : RU w p iv lv S R) {v : Value} {X : List Int} (hr : iE.Row w v X) : ¬ v.ownBlock = some p := fun e => by
  obtain ⟨cur, hc⟩ := row_block hr e
  have hb := h.box
  rw [hc] at hb
  injection hb with hb; injection hb with _ hb; revert hb; decide
theorem plc_val {S : List Int} (h : S.Pairwise (· < ·)) {z : Int} : (∃ (i : Nat) (hi : i < S.length), S[i] = z ∧ (plc S z).getD (-1) = (i : Int)) ∨ (z ∉ S ∧ (plc S z).getD (-1) = -1) := by
  by_cases g : z ∈ S
  · obtain ⟨i, hi, rfl⟩ := List.mem_iff_getElem.1 g
    exact .inl ⟨i, hi, rfl, by rw [plc_some h hi]; rfl⟩
  · exact .inr ⟨g, by rw [plc_none g]; rfl⟩
set_option maxHeartbeats 4000000 in
set_option maxRecDepth 100000 in
theorem rat_any (p : Nat) (iv : Value) (S : List Int) (z : Int) (w : World) (hI : Ids S) (c0 : w.cell? ⟨p, 0, none⟩ = some iv) (hr : iE.Row w iv S) :
    Calls Try.prog 16 #[Pt p, .int .i64 z] w fun e w' => e = .returned (.int .i64 ((plc S z).getD (-1))) ∧ w' = w := by
  obtain ⟨ai, ci, hiv, -⟩ := hr.form
  obtain ⟨n, hn⟩ : ∃ n, S.length = n := ⟨_, rfl⟩
  rw [hn] at hiv
  subst hiv
  have hfew := hI.few
  rw [hn] at hfew
  obtain ⟨A, hA⟩ : ∃ A, A = (plc S z).getD (-1) := ⟨_, rfl⟩
  rw [← hA]
  have HA := Hid.mk hA
  have HR := Hid.mk (And.intro hr (And.intro hn hI))
  clear hr hn hA hI
  go_enter Try.func16, Try.ntmps16
  go_wp2
  go_loopw [5] (fun u wr => wr = w ∧ ∃ i : Nat, u = .int .i64 i ∧ i ≤ n ∧ Hid (∀ j (h : j < S.length), j < i → S[j] ≠ z)) (fun u _ => n - (intOf u).toNat)
  case atStart => exact ⟨rfl, 0, rfl, Nat.zero_le _, fun j h hj => by omega⟩
  case round =>
    obtain ⟨hw, i, rfl, hin, HB⟩ := hrel
    have hw' := hw.symm
    clear hw
    subst hw'
    by_cases hlt : i < n
    · have hlt' : (i : Int) < (n : Int) := by omega
      have hil : i < S.length := by rw [HR.out.2.1]; exact hlt
      obtain ⟨g, cap, e, k0, -⟩ := i_cell HR.out.1 i hil
      injection e with e1 e2 e3
      subst e1
      have wi : IntKind.i64.wrap ((i : Int) + 1) = ((i + 1 : Nat) : Int) := i64_in _ (by omega) (by omega)
      obtain ⟨x, hx⟩ : ∃ x, x = S[i] := ⟨_, rfl⟩
      rw [← hx] at k0
      by_cases hz : x = z
      · have HQ : Hid (A = (i : Int)) := Hid.mk (by rw [HA.out, ← hz, hx, plc_some HR.out.2.2.up hil]; rfl)
        have hzb : (x == z) = true := by simpa using hz
        clear hx hz e2 e3 hlt hil
        go_wp2
        go_ret
        exact ⟨by rw [HQ.out]; rfl, rfl⟩
      · have hzb : (x == z) = false := by simpa using hz
        have HN : Hid (∀ j (h : j < S.length), j < i + 1 → S[j] ≠ z) := fun j h hj => by
          by_cases q : j = i
          · subst q; rw [← hx]; exact hz
          · exact HB.out j h (by omega)
        clear hx e2 e3 hlt hil
        go_wp2
        go_roundw
        case rel => exact ⟨trivial, i + 1, by go_num, by omega, HN⟩
        case measure => simp [intOf]; omega
    · have hlt' : ¬ (i : Int) < (n : Int) := by omega
      have HQ : Hid (A = -1) := Hid.mk (by
        rw [HA.out, plc_none]
        · rfl
        · intro hm
          obtain ⟨j, hj, e⟩ := List.mem_iff_getElem.1 hm
          exact HB.out j hj (by have := HR.out.2.1; omega) e)
      clear hlt
      go_wp2
      go_ret
      exact ⟨by rw [HQ.out]; rfl, rfl⟩
end Go.Proofs.Ytmhifofeobhhgaa
