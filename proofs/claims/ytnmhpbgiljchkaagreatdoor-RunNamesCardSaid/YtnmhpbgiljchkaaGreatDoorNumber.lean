/-
  DERIVED. number: the number that n bits make.
-/
import Derived.Test.YtnmhpbgiljchkaaGreatDoorPlaces
namespace Go.Proofs.YtnmhpbgiljchkaaGreatDoor
open Go.RowKit Go.Shelf Go.Proofs.BitMath
attribute [local go_sem] Oper.semAt_some
/-- The number that the bits at these places make, the first the highest. -/
def numN (l : List UInt8) (js : List Nat) : Nat := js.foldl (fun v j => 2 * v + bitL l j) 0
theorem numN_snoc (l : List UInt8) (js : List Nat) (j : Nat) : numN l (js ++ [j]) = 2 * numN l js + bitL l j := by simp [numN]
theorem numG_lt (l : List UInt8) (js : List Nat) : ∀ v, js.foldl (fun v j => 2 * v + bitL l j) v < (v + 1) * 2 ^ js.length := by
  induction js with
  | nil => intro v; simp
  | cons j js ih =>
    intro v
    have h1 := ih (2 * v + bitL l j)
    have h2 := bitL_le l j
    have h3 : (2 * v + bitL l j + 1) * 2 ^ js.length ≤ (2 * (v + 1)) * 2 ^ js.length := Nat.mul_le_mul_right _ (by omega)
    simp only [List.foldl_cons, List.length_cons, Nat.pow_succ]
    have h4 : (2 * (v + 1)) * 2 ^ js.length = (v + 1) * (2 ^ js.length * 2) := by rw [Nat.mul_comm 2 (v + 1), Nat.mul_assoc, Nat.mul_comm 2]
    omega
theorem numN_lt (l : List UInt8) (js : List Nat) : numN l js < 2 ^ js.length := by
  have := numG_lt l js 0; simpa [numN] using this
theorem pow_bd (k : Nat) (h : k < 64) : 2 ^ k ≤ 9223372036854775808 := by
  have : 2 ^ k ≤ 2 ^ 63 := Nat.pow_le_pow_right (by omega) (by omega)
  simpa using this
theorem addr_ne {a b : Addr} (h : a.block ≠ b.block) : a ≠ b := fun e => h (congrArg Addr.block e)
theorem or_one (v : Nat) (h : v < 9223372036854775808) : bits .or .u64 ((v : Int) * 2) 1 = 2 * (v : Int) + 1 := by
  have h1 := u64_or_nat (v * 2) 1 (by omega) (by omega)
  have h2 : v * 2 ||| 1 = v * 2 + 1 := by
    have := Nat.two_pow_add_eq_or_of_lt (i := 1) (b := 1) (by omega) v
    rw [Nat.mul_comm v 2]; simpa using this.symm
  rw [h2] at h1
  have e : ((v : Int) * 2) = ((v * 2 : Nat) : Int) := by omega
  rw [e, show (1 : Int) = ((1 : Nat) : Int) from rfl, h1]; omega
set_option maxRecDepth 100000 in
set_option maxHeartbeats 2000000 in
theorem number_any (s : ByteArray) (fr cnt : Nat) (w : World) (hs : s.size ≤ 140737488351232) (hc : cnt ≤ 64) (hb : fr + cnt ≤ 8 * s.size) :
    Calls Tryz.prog 76 #[.string s, .int .i64 fr, .int .i64 cnt] w fun e w' => e = .returned (.int .u64 (numN s.data.toList ((List.range cnt).map (fr + ·)))) ∧ Below w.heap.size w w' := by
  refine (callsIn_wide (n := 9)).1 ?_
  refine callsIn_of_wp_marks Tryz.func76 rfl trivial ?_ rfl
  simp only [Tryz.ntmps76, List.size_toArray, List.length_cons, List.length_nil, Nat.reduceAdd, Nat.reduceSub, Array.replicate_succ, Array.replicate_zero, List.push_toArray, List.append_toArray, List.nil_append, List.cons_append]
  gi_wp2_with fail
  refine ⟨trivial, ?_⟩
  refine (callsIn_wide.2 (places_any _ _ _)).mono ?_
  rintro e w' ⟨rfl, rfl⟩
  gi_wp2_with fail
  have hB0 : Below w.heap.size w ((((w.alloc (.cells #[.string s] 9)).alloc (.cells #[.int .u64 0] 99)).alloc (.cells #[.int .i64 fr] 3)).alloc (.cells #[.int .i64 cnt] 3)) :=
    ((((Below.refl _ w).alloc (Nat.le_refl _) _).alloc (by simp) _).alloc (by simp; omega) _).alloc (by simp; omega) _
  have c0 : ((((w.alloc (.cells #[.string s] 9)).alloc (.cells #[.int .u64 0] 99)).alloc (.cells #[.int .i64 fr] 3)).alloc (.cells #[.int .i64 cnt] 3)).cell? ⟨w.heap.size, 0, none⟩ = some (.string s) := by go_simp
  have c1 : ((((w.alloc (.cells #[.string s] 9)).alloc (.cells #[.int .u64 0] 99)).alloc (.cells #[.int .i64 fr] 3)).alloc (.cells #[.int .i64 cnt] 3)).cell? ⟨w.heap.size + 1, 0, none⟩ = some (.int .u64 0) := by go_simp
  have f1 : ((((w.alloc (.cells #[.string s] 9)).alloc (.cells #[.int .u64 0] 99)).alloc (.cells #[.int .i64 fr] 3)).alloc (.cells #[.int .i64 cnt] 3)).frozen? ⟨w.heap.size + 1, 0, none⟩ = false := by go_simp
  have c2 : ((((w.alloc (.cells #[.string s] 9)).alloc (.cells #[.int .u64 0] 99)).alloc (.cells #[.int .i64 fr] 3)).alloc (.cells #[.int .i64 cnt] 3)).cell? ⟨w.heap.size + 1 + 1, 0, none⟩ = some (.int .i64 fr) := by go_simp
  have c3 : ((((w.alloc (.cells #[.string s] 9)).alloc (.cells #[.int .u64 0] 99)).alloc (.cells #[.int .i64 fr] 3)).alloc (.cells #[.int .i64 cnt] 3)).cell? ⟨w.heap.size + 1 + 1 + 1, 0, none⟩ = some (.int .i64 cnt) := by go_simp
  have sz : ((((w.alloc (.cells #[.string s] 9)).alloc (.cells #[.int .u64 0] 99)).alloc (.cells #[.int .i64 fr] 3)).alloc (.cells #[.int .i64 cnt] 3)).heap.size = w.heap.size + 4 := by simp
  generalize ((((w.alloc (.cells #[.string s] 9)).alloc (.cells #[.int .u64 0] 99)).alloc (.cells #[.int .i64 fr] 3)).alloc (.cells #[.int .i64 cnt] 3)) = W0 at *
  refine wpIn_rangeFunc_ownF rfl (by omega) (gf := 107) (lb := #[.pointer (some ⟨w.heap.size + 1 + 1 + 1, 0, none⟩), .pointer (some ⟨w.heap.size + 1 + 1, 0, none⟩)]) rfl trivial (enters_of Tryz.func107 (by kernel_rfl) rfl)
    (places_stops (fun j => j < 8 * s.size) fr cnt (w.heap.size + 1 + 1) (w.heap.size + 1 + 1 + 1) _ W0 c2 c3 (by omega) (fun i hi => by omega)) keepB_t (keepB_b (by omega)) (Below.refl _ _) (fun _ => rfl)
    (fun pre W => (W.cell? ⟨w.heap.size, 0, none⟩ = some (.string s) ∧ W.cell? ⟨w.heap.size + 1, 0, none⟩ = some (.int .u64 (numN s.data.toList (vals pre))) ∧ W.frozen? ⟨w.heap.size + 1, 0, none⟩ = false) ∧ Below w.heap.size w W)
    (fun _ _ _ => False)
    (OwnFrom.and (Own.from (fun s A B row hs hg hr => ⟨cell_kept hs.1 hg hr, cell_kept hs.2.1 hg hr, (frozen_kept hs.2.1 hg hr).trans hs.2.2⟩) _) (ownFrom_below (Nat.le_refl _) (by omega)))
    (fun _ _ _ _ _ hs _ _ => hs)
    ⟨⟨c0, c1, f1⟩, hB0⟩
    (fun x => { tmps := #[.string s, .int .i64 fr, .int .i64 cnt, .pointer (some ⟨w.heap.size, 0, none⟩), undef, undef, .int .u64 0, .pointer (some ⟨w.heap.size + 1, 0, none⟩), .int .i64 (x.1 / 8 : Nat), .int .u8 (mkN x.1), .int .i64 fr, .int .i64 cnt, .func (.func 107) #[] #[.pointer (some ⟨w.heap.size + 1 + 1 + 1, 0, none⟩), .pointer (some ⟨w.heap.size + 1 + 1, 0, none⟩)], .int .i64 (x.1 / 8 : Nat), .int .u8 (mkN x.1), undef, undef, undef, undef, undef, undef, undef, undef, undef, undef, undef], defers := [] }) ?assign ?body ?done ?stop
  case assign =>
    intro l x W K hK
    simp only [encP]
    gi_wp2
    exact hK
  case body =>
    rintro l pre ⟨j, hj⟩ W ⟨⟨hc, hv, hf⟩, hB⟩ hl
    have h8 : j / 8 < s.size := by omega
    have hbl := numN_lt s.data.toList (vals pre)
    rw [vals_length] at hbl
    have hbp := pow_bd pre.length (by omega)
    have hsn := numN_snoc s.data.toList (vals pre) j
    have HS : Hid (numN s.data.toList (vals (pre ++ [⟨j, hj⟩])) = 2 * numN s.data.toList (vals pre) + bitL s.data.toList j) := by
      show _ = _; rw [vals_snoc]; exact hsn
    have hvb : numN s.data.toList (vals pre) < 9223372036854775808 := by omega
    clear hsn hbl hbp c0 c1 f1 c2 c3 hB0
    generalize numN s.data.toList (vals pre) = v at *
    have hle := bt_le (s[j / 8]).toNat (7 - j % 8)
    have HB : Hid (bitL s.data.toList j = bt (s[j / 8]).toNat (7 - j % 8)) := by
      show bitL _ _ = _; unfold bitL; rw [getD_of (by simpa using h8)]; rfl
    have ha := u8_and_nat (s[j / 8]).toNat (mkN j) (s[j / 8]).toNat_lt (mkN_lt j)
    have hz : (s[j / 8]).toNat &&& mkN j = 0 ↔ bt (s[j / 8]).toNat (7 - j % 8) = 0 := and_bt_zero (s[j / 8]).toNat (7 - j % 8)
    have ho := or_one v hvb
    have hnb : w.heap.size + 1 ≠ w.heap.size + 1 + 1 := by omega
    by_cases hb0 : bt (s[j / 8]).toNat (7 - j % 8) = 0
    · have he : ((((s[j / 8]).toNat &&& mkN j : Nat) : Int) != 0) = false := by rw [bne_eq_false_iff_eq, hz.2 hb0]; rfl
      have HC : Hid (bitL s.data.toList j = 0) := by show _ = _; rw [HB.out, hb0]
      clear hz hb0 hle
      gi_wp2
      exact ⟨KeepsOthers.setCell _ _ _, heap_setCell_other W ⟨w.heap.size + 1, 0, none⟩ _ _ (by simp), ⟨(World.cell?_setCell_other _ _ _ _ (addr_ne (by simp))).trans hc, (World.cell?_setCell_same _ _ _ hv).trans (congrArg some (ival (by rw [HS.out, HC.out]; omega))), (World.frozen?_setCell _ _ _ _).trans hf⟩, hB.setCell (p := ⟨w.heap.size + 1, 0, none⟩) (by simp) _⟩
    · have he : ((((s[j / 8]).toNat &&& mkN j : Nat) : Int) != 0) = true := by rw [bne_iff_ne]; intro h; exact hb0 (hz.1 (by omega))
      have HC : Hid (bitL s.data.toList j = 1) := by show _ = _; rw [HB.out]; omega
      clear hz hb0 hle
      gi_wp2
      have hv2 := World.cell?_setCell_same W ⟨w.heap.size + 1, 0, none⟩ (.int .u64 ((v : Int) * 2)) hv
      exact ⟨(KeepsOthers.setCell _ _ _).trans (KeepsOthers.setCell _ _ _), (heap_setCell_other _ ⟨w.heap.size + 1, 0, none⟩ _ _ (by simp)).trans (heap_setCell_other W ⟨w.heap.size + 1, 0, none⟩ _ _ (by simp)), ⟨(World.cell?_setCell_other _ _ _ _ (addr_ne (by simp))).trans ((World.cell?_setCell_other _ _ _ _ (addr_ne (by simp))).trans hc), (World.cell?_setCell_same _ _ _ hv2).trans (congrArg some (ival (by rw [HS.out, HC.out]; omega))), (World.frozen?_setCell _ _ _ _).trans ((World.frozen?_setCell _ _ _ _).trans hf)⟩, (hB.setCell (p := ⟨w.heap.size + 1, 0, none⟩) (by simp) _).setCell (p := ⟨w.heap.size + 1, 0, none⟩) (by simp) _⟩
  case done =>
    rintro D ys W hD hys ⟨⟨hc, hv, _⟩, hB⟩ hK
    rw [hys] at hv
    gi_wp2
    refine ⟨by simp, .inl ⟨_, _, rfl, run_takeDeferred hK, ?_⟩⟩
    exact ⟨_, results_tmp rfl _ _ _, rfl, hB.trans (belowK_b (w := w) (Nat.le_refl _) W D _ _ (by omega) hK rfl rfl)⟩
  case stop =>
    rintro D c pre W _ _ h _
    exact h.elim
end Go.Proofs.YtnmhpbgiljchkaaGreatDoor
