/-
  DERIVED. Numbers that are read one behind the other.
-/
import Derived.Test.YtkoannkecojhmaaGreatDoorCVar
import Derived.Test.YtkoannkecojhmaaGreatDoorCEnc2
import Derived.Test.YtkoannkecojhmaaGreatDoorCApp
set_option linter.unusedVariables false
set_option linter.unusedSimpArgs false
namespace Go.Proofs.YtkoannkecojhmaaGreatDoor
open Go.RowKit Go.Proofs.SealMath
/-- n numbers of at most most, from a place on: they, and the place behind them. -/
def rd (b : ByteArray) (most : Nat) : Nat → Nat → Except Int (List Nat × Nat)
  | 0, a => .ok ([], a)
  | n + 1, a => if (vA b a).2.2 ≠ 0 then .error (vA b a).2.2 else if most < (vA b a).1 then .error 80 else (rd b most n (vA b a).2.1).map fun p => ((vA b a).1 :: p.1, p.2)
def rdA : Except Int (List Nat × Nat) → Int
  | .ok p => p.2
  | .error _ => 0
def rdE : Except Int (List Nat × Nat) → Int
  | .ok _ => 0
  | .error e => e
theorem map_map (pre : List Nat) (x : Nat) (r : Except Int (List Nat × Nat)) : (r.map fun p => (x :: p.1, p.2)).map (fun p => (pre ++ p.1, p.2)) = r.map (fun p => ((pre ++ [x]) ++ p.1, p.2)) := by
  cases r with
  | error e => rfl
  | ok p => simp [Except.map]
/-- A block whose first cells are numbers. -/
def Nb (w : World) (g : Nat) (t : TypeId) (zs : List Int) (rest : List Value) : Prop := w.heap[g]? = some (.cells (zs.map IV ++ rest).toArray t (0, 0))
theorem Nb.cell {w : World} {g : Nat} {t : TypeId} {zs : List Int} {rest : List Value} (h : Nb w g t zs rest) (k : Nat) (hk : k < zs.length) : w.cell? ⟨g, k, none⟩ = some (.int .i64 zs[k]) := by
  rw [cell_of_row _ _ k _ _ _ h]
  simp [hk, IV, List.getElem?_append_left]
theorem Nb.free {w : World} {g : Nat} {t : TypeId} {zs : List Int} {rest : List Value} (h : Nb w g t zs rest) (k : Nat) : w.frozen? ⟨g, k, none⟩ = false := by
  simp [World.frozen?, show w.heap[g]? = _ from h]
theorem Nb.set {w : World} {g : Nat} {t : TypeId} {zs : List Int} {rest : List Value} (h : Nb w g t zs rest) (k : Nat) (hk : k < zs.length) (x : Int) : Nb (w.setCell ⟨g, k, none⟩ (.int .i64 x)) g t (zs.set k x) rest := by
  unfold Nb
  rw [heap_setCell_same w g k _ _ _ h]
  congr 2
  apply Array.toList_inj.1
  simp [List.set_append, hk, List.map_set, IV]
/-- What is kept while numbers are read. -/
def RR (w : World) (b : ByteArray) (most g : Nat) (t : TypeId) (zs0 : List Int) (rest : List Value) (R : Except Int (List Nat × Nat)) (av u : Value) (wr : World) : Prop :=
  ∃ (i a : Nat) (pre : List Nat), u = .int .i64 i ∧ av = .int .i64 a ∧ i ≤ zs0.length ∧ a ≤ b.size ∧ pre.length = i ∧ Hid (R = (rd b most (zs0.length - i) a).map fun p => (pre ++ p.1, p.2)) ∧ Nb wr g t (pre.map (fun (n : Nat) => (n : Int)) ++ zs0.drop i) rest ∧ Stay (fun k => k = g) w wr
set_option maxHeartbeats 4000000 in
set_option maxRecDepth 100000 in
theorem cread_any (b : ByteArray) (a most g q c : Nat) (t : TypeId) (zs0 : List Int) (rest : List Value) (w : World) (hN : Nb w g t zs0 rest) (hq : RowAt w q 0 (ptsV g zs0.length)) (hqg : q ≠ g) (ha : a ≤ b.size) (hb : b.size < 4611686018427387904) (hm : most ≤ 1152921504606846976) (hl : zs0.length ≤ 100) :
    Calls Tryz.prog 105 #[.string b, .int .i64 a, .int .u64 most, .slice (some ⟨q, 0, none⟩) zs0.length c] w fun e w' => e = .returned (.tuple #[.int .i64 (rdA (rd b most zs0.length a)), .int .i64 (rdE (rd b most zs0.length a))]) ∧ Stay (fun k => k = g) w w' ∧
      (∃ zs : List Int, zs.length = zs0.length ∧ Nb w' g t zs rest ∧ ∀ l p, rd b most zs0.length a = .ok (l, p) → zs = l.map (fun (n : Nat) => (n : Int)) ∧ p ≤ b.size) := by
  obtain ⟨R, hR⟩ : ∃ R, R = rd b most zs0.length a := ⟨_, rfl⟩
  rw [← hR]
  have HR : Hid (R = (rd b most (zs0.length - 0) a).map fun p => (([] : List Nat) ++ p.1, p.2)) := by
    show _ = _
    rw [Nat.sub_zero, hR]
    cases rd b most zs0.length a <;> rfl
  have HN := Hid.mk hN
  have HQ := Hid.mk hq
  clear hR hN hq
  go_enter Tryz.func105, Tryz.ntmps105
  go_wp2
  go_loopw [1, 17] (fun av u wr => RR w b most g t zs0 rest R av u wr) (fun _ u _ => zs0.length - (intOf u).toNat)
  case atStart => exact ⟨0, a, [], rfl, rfl, Nat.zero_le _, ha, rfl, HR, HN.out, .refl _ _⟩
  case round =>
    obtain ⟨i, a, pre, rfl, rfl, hi, ha, hpre, HR, nb, st⟩ := hrel
    by_cases hlt : i < zs0.length
    · have fq : w.cell? ⟨q, i, none⟩ = some (.pointer (some ⟨g, i, none⟩)) := by have := HQ.out i _ (ptsV_at g zs0.length i hlt); simpa using this
      have cq : wr.cell? ⟨q, i, none⟩ = some (.pointer (some ⟨g, i, none⟩)) := by
        have := st.block q (World.block_lt_of_cell? w _ fq) hqg
        unfold World.cell? at fq ⊢; simp only at fq ⊢; rw [this]; exact fq
      have hll : (pre.map (fun (n : Nat) => (n : Int)) ++ zs0.drop i).length = zs0.length := by rw [List.length_append, List.length_map, List.length_drop]; omega
      obtain ⟨cgv, cg⟩ : ∃ x : Int, wr.cell? ⟨g, i, none⟩ = some (.int .i64 x) := ⟨_, nb.cell i (by omega)⟩
      have fg := nb.free i
      have cv := var_any b a wr hb
      obtain ⟨v, nx, er, hv⟩ : ∃ v nx er, vA b a = (v, nx, er) := ⟨_, _, _, rfl⟩
      have hr := HR.out
      rw [show zs0.length - i = (zs0.length - (i + 1)) + 1 by omega, rd, hv] at hr
      rw [hv] at cv
      simp only at hr cv
      have hvo := vA_only b a v nx
      rw [hv] at hvo
      have HS := Hid.mk st
      have HNb := Hid.mk nb
      clear HR hv fq HQ HN nb st
      by_cases he : er = 0
      · subst he
        obtain ⟨v64, -, -, hnx⟩ := hvo rfl
        clear hvo
        rw [if_neg (by simp)] at hr
        by_cases hbig : most < v
        · rw [if_pos hbig] at hr
          have h1 : R = .error 80 := hr
          subst h1
          clear hr cg
          go_wp2_with (go_at_call 114; refine cv.mono ?_; rintro e w' ⟨rfl, rfl⟩; clear cv)
          go_ret2
          exact ⟨rfl, HS.out, _, hll, HNb.out, fun l p h => by cases h⟩
        · rw [if_neg hbig, map_map] at hr
          have HR2 := Hid.mk hr
          have nb2 := Hid.mk (HNb.out.set i (by omega) v)
          have hset : (pre.map (fun (n : Nat) => (n : Int)) ++ zs0.drop i).set i (v : Int) = (pre ++ [v]).map (fun (n : Nat) => (n : Int)) ++ zs0.drop (i + 1) := by
            rw [List.set_append_right _ _ (by rw [List.length_map]; omega), List.length_map, hpre, Nat.sub_self, List.drop_eq_getElem_cons hlt, List.set_cons_zero]
            simp
          rw [hset] at nb2
          have HP : Hid ((pre ++ [v]).length = i + 1) := by show _ = _; rw [List.length_append, hpre]; rfl
          clear hr hset hpre
          go_wp2_with (go_at_call 114; refine cv.mono ?_; rintro e w' ⟨rfl, rfl⟩; clear cv)
          exact ⟨⟨i + 1, nx, pre ++ [v], rfl, rfl, hlt, hnx, HP.out, HR2, nb2.out, HS.out.setCell (fun _ => rfl) _⟩, by simp only [intOf]; omega⟩
      · have h1 : R = .error er := by rw [hr, if_pos he]; rfl
        have he' : (er != 0) = true := by simpa [bne_iff_ne] using he
        subst h1
        clear hr hvo he cg
        go_wp2_with (go_at_call 114; refine cv.mono ?_; rintro e w' ⟨rfl, rfl⟩; clear cv)
        go_ret2
        exact ⟨rfl, HS.out, _, hll, HNb.out, fun l p h => by cases h⟩
    · have e : i = zs0.length := by omega
      subst e
      have h1 : R = .ok (pre, a) := by
        rw [HR.out, Nat.sub_self]; simp [rd, Except.map]
      rw [List.drop_eq_nil_of_le (Nat.le_refl _), List.append_nil] at nb
      subst h1
      have HNb := Hid.mk nb
      clear HR HQ HN nb
      go_wp2
      go_ret2
      exact ⟨rfl, st, _, by rw [List.length_map]; exact hpre, HNb.out, fun l p h => by cases h; exact ⟨rfl, ha⟩⟩
end Go.Proofs.YtkoannkecojhmaaGreatDoor
