/-
  DERIVED. Join, of all numbers: the program's and the document's.
-/
import Derived.Test.YtfjbabiobobboaaVRef
import Derived.Test.YtfjbabiobobboaaMathD
import Derived.OwnWalk
set_option linter.unusedVariables false
set_option linter.unusedSimpArgs false
namespace Go.Proofs.Ytfjbabiobobboaa
open Go.RowKit Go.Proofs.BitMath
def zF (Z : List Int) (j : Nat) : Int := Z.getD j 0
def vldB (X M : Nat) (Z : List Int) (n : Nat) : Bool := (List.range n).all (fun j => decide (0 ≤ zF Z j) && decide (zF Z j < 2 ^ btC X M j))
theorem vldB_iff {X M : Nat} {Z : List Int} {n : Nat} : vldB X M Z n = true ↔ ∀ j, j < n → valid X M (zF Z) j := by
  unfold vldB valid
  rw [List.all_eq_true]
  simp
/-- What Join answers. -/
def jnE (x m : Int) (Z : List Int) : Int := if cc x m = 0 then (if (Z.length : Int) = m ∧ vldB x.toNat m.toNat Z m.toNat = true then 0 else 13) else cc x m
def jnT (x m : Int) (Z : List Int) : List UInt8 := if jnE x m Z = 0 then joinL x.toNat m.toNat (zF Z) (List.range m.toNat) else []
theorem jn_yes {X M : Nat} {Z : List Int} (ok : OkC X M) (hl : Z.length = M) (hv : vldB X M Z M = true) : jnE X M Z = 0 ∧ jnT X M Z = joinL X M (zF Z) (List.range M) := by
  have h1 : jnE X M Z = 0 := by unfold jnE; rw [if_pos (cc_of ok), if_pos ⟨by omega, by simpa using hv⟩]
  refine ⟨h1, ?_⟩
  unfold jnT; rw [if_pos h1]; simp
theorem jn_no {X M : Nat} {Z : List Int} (ok : OkC X M) (h : ¬ (Z.length = M ∧ vldB X M Z M = true)) : jnE X M Z = 13 ∧ jnT X M Z = [] := by
  have h1 : jnE X M Z = 13 := by
    unfold jnE; rw [if_pos (cc_of ok), if_neg (fun e => h ⟨by omega, by simpa using e.2⟩)]
  refine ⟨h1, ?_⟩
  unfold jnT; rw [h1]; rfl
theorem jn_cc {x m : Int} {Z : List Int} (h : ¬ cc x m = 0) : jnE x m Z = cc x m ∧ jnT x m Z = [] := by
  have h1 : jnE x m Z = cc x m := by unfold jnE; rw [if_neg h]
  refine ⟨h1, ?_⟩
  unfold jnT; rw [h1, if_neg h]
theorem zF_at {Z : List Int} {j : Nat} (hj : j < Z.length) : zF Z j = Z[j] := by unfold zF; simp [List.getD, hj]
set_option maxRecDepth 100000 in
theorem join_all (x m : Int) (Z : List Int) (hZ : ∀ z ∈ Z, -9223372036854775808 ≤ z ∧ z ≤ 9223372036854775807) (la : Option Addr) (ca : Nat) (w : World) (ha : EI.At w la Z) : Calls Try.prog 15 #[.int .i64 x, .int .i64 m, .slice la Z.length ca] w fun e w' => ∃ t : ByteArray, e = .returned (.tuple #[.string t, .int .i64 (jnE x m Z)]) ∧ t.data.toList = jnT x m Z ∧ Below w.heap.size w w' := by
  by_cases h : cc x m = 0
  · obtain ⟨X, M, rfl, rfl, ok⟩ := cc_nat h
    by_cases hl : Z.length = M
    · have hp := ok.pos
      obtain ⟨g, off, e1, -⟩ := intAt ha 0 (by omega)
      subst e1
      have hz : ∀ j, j < M → w.cell? ⟨g, off + j, none⟩ = some (.int .i64 (zF Z j)) := fun j hj => by
        obtain ⟨g', off', e2, h2⟩ := intAt ha j (by omega)
        simp only [Option.some.injEq, Addr.mk.injEq] at e2
        obtain ⟨rfl, rfl, -⟩ := e2
        rw [zF_at (by omega)]; exact h2
      have hg : g < w.heap.size := World.block_lt_of_cell? w _ (hz 0 hp)
      have hb : ∀ j, j < M → -9223372036854775808 ≤ zF Z j ∧ zF Z j ≤ 9223372036854775807 := fun j hj => by
        rw [zF_at (by omega)]; exact hZ _ (List.getElem_mem _)
      rw [hl]
      refine (join_yes X M g off ca (zF Z) w ok hg hz hb).mono ?_
      rintro e w' ⟨⟨t, hv, ht, rfl⟩ | ⟨hv, rfl⟩, b⟩
      · obtain ⟨k1, k2⟩ := jn_yes ok hl (vldB_iff.2 hv)
        exact ⟨t, by rw [k1], by rw [k2]; exact ht, b⟩
      · obtain ⟨k1, k2⟩ := jn_no ok (fun e => hv (vldB_iff.1 e.2))
        exact ⟨⟨#[]⟩, by rw [k1], by rw [k2], b⟩
    · obtain ⟨k1, k2⟩ := jn_no ok (fun e => hl e.1)
      refine (join_len X M la Z.length ca w ok hl).mono ?_
      rintro e w' ⟨rfl, b⟩
      exact ⟨⟨#[]⟩, by rw [k1], by rw [k2], b⟩
  · obtain ⟨k1, k2⟩ := jn_cc (Z := Z) h
    have hc := fun W => checkChunks_any x m W
    rw [k1, k2]
    obtain ⟨y, hy⟩ : ∃ y, y = cc x m := ⟨_, rfl⟩
    rw [← hy] at hc h ⊢
    have h3 : (y != 0) = true := by simpa using h
    clear k1 k2 hy ha
    go_enter Try.func15, Try.ntmps15
    go_wp2_with (go_at_call 18; refine (hc _).mono ?_; clear hc; rintro e w' ⟨rfl, rfl⟩)
    refine bodyPost_ret (v := .tuple #[.string ⟨#[]⟩, .int .i64 y]) (by simp [results, Try.results15, go_sem]) rfl ⟨⟨#[]⟩, rfl, rfl, ?_⟩
    first
      | exact (((Below.refl _ _).alloc (Nat.le_refl _) _).alloc (by simp) _).alloc (by simp; omega) _
      | exact ((Below.refl _ _).alloc (Nat.le_refl _) _).alloc (by simp) _
      | exact (Below.refl _ _).alloc (Nat.le_refl _) _
end Go.Proofs.Ytfjbabiobobboaa
