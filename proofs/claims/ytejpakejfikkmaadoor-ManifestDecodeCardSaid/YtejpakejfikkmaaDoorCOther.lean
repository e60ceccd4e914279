/-
  DERIVED. The law's other.
-/
import Derived.Test.YtejpakejfikkmaaDoorCSev2
import Derived.Test.YtejpakejfikkmaaDoorCRef4
set_option linter.unusedVariables false
set_option linter.unusedSimpArgs false
namespace Go.Proofs.YtejpakejfikkmaaDoor
open Go.RowKit Go.Proofs.SealMath
def nM : Mf := ⟨64, 2, 1, 9, 9, 3, [⟨1, 0, 4, 2⟩, ⟨2, 4, 9, 1⟩]⟩
theorem nM_ok : chE nM = 0 := by decide
set_option maxHeartbeats 4000000 in
set_option maxRecDepth 100000 in
theorem other_any (w : World) : Calls Tryd.prog 4 #[] w fun e w' => ∃ g, e = .returned (.tuple #[.string (enT nM), .agg (mfC nM (some ⟨g, 0, none⟩) 2).toArray]) ∧ LAt w' (some ⟨g, 0, none⟩) nM.rs ∧ w.heap.size ≤ g ∧ Below w.heap.size w w' := by
  obtain ⟨W1, h1⟩ : ∃ W1, W1 = w.alloc (.cells #[.int .i64 0, .int .i64 0, .int .i64 0, .int .i64 0, .int .i64 0, .int .i64 0, .slice none 0 0] 26) := ⟨_, rfl⟩
  obtain ⟨W2, h2⟩ : ∃ W2, W2 = W1.alloc (.cells (mfC nM (some ⟨w.heap.size + 1 + 1, 0, none⟩) 2).toArray 26) := ⟨_, rfl⟩
  obtain ⟨W3, h3⟩ : ∃ W3, W3 = W2.alloc (.cells (nM.rs.flatMap ruC).toArray 36) := ⟨_, rfl⟩
  have b1 : Below w.heap.size w W1 := by rw [h1]; exact (Below.refl _ w).alloc (Nat.le_refl _) _
  have b2 : Below W1.heap.size W1 W2 := by rw [h2]; exact (Below.refl _ W1).alloc (Nat.le_refl _) _
  have b3 : Below W2.heap.size W2 W3 := by rw [h3]; exact (Below.refl _ W2).alloc (Nat.le_refl _) _
  have s1 : W1.heap.size = w.heap.size + 1 := by rw [h1]; simp
  have s2 : W2.heap.size = w.heap.size + 1 + 1 := by rw [h2]; simp [s1]
  have s3 : W3.heap.size = w.heap.size + 1 + 1 + 1 := by rw [h3]; simp [s2]
  have z1 : Zr W1 w.heap.size := by rw [h1]; exact heap_alloc_last w _
  have z3 : Zr W3 w.heap.size := (b3.block _ (by omega)).trans ((b2.block _ (by omega)).trans z1)
  have m2 : SAt W2 (w.heap.size + 1) (mfC nM (some ⟨w.heap.size + 1 + 1, 0, none⟩) 2) := by rw [h2, ← s1]; exact SAt.new W1 _ _
  have m3 := m2.lat b3
  have l3 : LAt W3 (some ⟨w.heap.size + 1 + 1, 0, none⟩) nM.rs := ⟨fun _ => ⟨_, _, rfl, fun j x hx => by
    have h := heap_alloc_last W2 (.cells (nM.rs.flatMap ruC).toArray 36)
    rw [← h3, s2] at h
    rw [cell_of_row _ _ _ _ _ (0, 0) h, Nat.zero_add]
    simpa using hx⟩⟩
  have hen := rencode_any nM _ 2 W3 l3 (by decide) (by decide)
  rw [nM_ok] at hen
  have hW : ((w.alloc (.cells #[.int .i64 0, .int .i64 0, .int .i64 0, .int .i64 0, .int .i64 0, .int .i64 0, .slice none 0 0] 26)).alloc (.cells (mfC nM (some ⟨w.heap.size + 1 + 1, 0, none⟩) 2).toArray 26)).alloc (.cells (nM.rs.flatMap ruC).toArray 36) = W3 := by rw [h3, h2, h1]
  have bA := chain b1 (chain b2 b3 (Nat.le_refl _)) (Nat.le_refl _)
  have HH := Hid.mk (And.intro hW (And.intro bA (And.intro z3 (And.intro m3 (And.intro l3 s3)))))
  clear h1 h2 h3 b1 b2 b3 s1 s2 s3 z1 z3 m2 m3 l3 hW bA
  have hmf : (mfC nM (some ⟨w.heap.size + 1 + 1, 0, none⟩) 2) = [.int .i64 64, .int .i64 2, .int .i64 1, .int .i64 9, .int .i64 9, .int .i64 3, .slice (some ⟨w.heap.size + 1 + 1, 0, none⟩) 2 2] := rfl
  have hrs : nM.rs.flatMap ruC = [.int .i64 1, .int .i64 0, .int .i64 4, .int .i64 2, .int .i64 2, .int .i64 4, .int .i64 9, .int .i64 1] := rfl
  rw [hmf] at hen HH
  rw [hrs] at HH
  clear hmf hrs
  obtain ⟨TX, hTX⟩ : ∃ TX, TX = enT nM := ⟨_, rfl⟩
  rw [← hTX] at hen ⊢
  clear hTX
  go_enter Tryd.func4, Tryd.ntmps4
  go_wp2_with fail
  rw [HH.out.1]
  refine hen.mono ?_
  clear hen
  rintro e w4 ⟨rfl, b4⟩
  have bw4 := chain HH.out.2.1 b4 (Nat.le_refl _)
  have Z4 : Zr w4 w.heap.size := (b4.block _ (by have := HH.out.2.2.2.2.2; omega)).trans HH.out.2.2.1
  have M4 := HH.out.2.2.2.1.lat b4
  have L4 := HH.out.2.2.2.2.1.below b4
  have t0 := M4 0 _ rfl
  have t1 := M4 1 _ rfl
  have t2 := M4 2 _ rfl
  have t3 := M4 3 _ rfl
  have t4 := M4 4 _ rfl
  have t5 := M4 5 _ rfl
  have t6 := M4 6 _ rfl
  obtain ⟨c0, c1, c2, c3, c4, c5, c6, cf⟩ := zr_cells Z4
  have FN := Hid.mk (And.intro bw4 (And.intro Z4 L4))
  clear bw4 Z4 L4 M4 b4 HH
  go_wp2
  go_region_held (fun w' => w'.cell? ⟨w.heap.size + 1, 0, none⟩ = some (.int .i64 64) ∧ w'.cell? ⟨w.heap.size + 1, 1, none⟩ = some (.int .i64 2) ∧ w'.cell? ⟨w.heap.size + 1, 2, none⟩ = some (.int .i64 1) ∧ w'.cell? ⟨w.heap.size + 1, 3, none⟩ = some (.int .i64 9) ∧ w'.cell? ⟨w.heap.size + 1, 4, none⟩ = some (.int .i64 9) ∧ w'.cell? ⟨w.heap.size + 1, 5, none⟩ = some (.int .i64 3) ∧ w'.cell? ⟨w.heap.size + 1, 6, none⟩ = some (.slice (some ⟨w.heap.size + 1 + 1, 0, none⟩) 2 2))
    (go_keep) (fail)
  rename_i hH
  clear hH t0 t1 t2 t3 t4 t5 t6 c0 c1 c2 c3 c4 c5 c6 cf
  obtain ⟨W5, hW5, st5, o0, o1, o2, o3, o4, o5, o6⟩ := fin7 FN.out.2.1 (.int .i64 64) (.int .i64 2) (.int .i64 1) (.int .i64 9) (.int .i64 9) (.int .i64 3) (.slice (some ⟨w.heap.size + 1 + 1, 0, none⟩) 2 2)
  unfold set7 at hW5
  rw [hW5]
  clear hW5
  have F5 := Hid.mk st5
  clear st5
  go_wp2
  refine bodyPost_ret (v := .tuple #[.string TX, .agg #[.int .i64 64, .int .i64 2, .int .i64 1, .int .i64 9, .int .i64 9, .int .i64 3, .slice (some ⟨w.heap.size + 1 + 1, 0, none⟩) 2 2]]) (by simp [results, Tryd.results4, go_sem, o0, o1, o2, o3, o4, o5, o6]; try rfl) rfl ?_
  have b5 : Below w.heap.size w W5.drew := (FN.out.1.trans (F5.out.toBelow (B := w.heap.size) (fun k hk h => by (have h' : k = w.heap.size := h; omega)) FN.out.1.size)).drew
  refine ⟨w.heap.size + 1 + 1, rfl, ⟨fun hn => ?_⟩, by omega, b5⟩
  obtain ⟨g, off, e, hr⟩ := FN.out.2.2.at' hn
  cases e
  refine ⟨_, _, rfl, fun j x hx => ?_⟩
  have h := hr j x hx
  have hb := F5.out.block (w.heap.size + 1 + 1) (World.block_lt_of_cell? w4 _ h) (fun h' => by (have h'' : w.heap.size + 1 + 1 = w.heap.size := h'; omega))
  rw [← h]
  show W5.cell? _ = w4.cell? _
  simp only [World.cell?, hb]
end Go.Proofs.YtejpakejfikkmaaDoor
