/-
  DERIVED. sign: the laws' helper vector.
-/
import Derived.Test.YtmdmjjobhkpojaaQLaw0
set_option linter.unusedVariables false
set_option linter.unusedSimpArgs false
namespace Go.Proofs.Ytmdmjjobhkpojaa
open Go.RowKit Go.Shelf Go.Proofs.BitMath Go.Proofs.FloatMath
def zfit (most : Int) (p : Zp) : Zp := (fitI p.1 most, fitI p.2 most)
/-- Parts brought within bounds, so many of them. -/
def vecL (v : List Zp) (n : Nat) (most : Int) : List Zp := (List.range n).map fun k => zfit most (v.getD k (0, 0))
theorem vecL_len (v : List Zp) (n : Nat) (most : Int) : (vecL v n most).length = n := by simp [vecL]
theorem vecL_succ (v : List Zp) (n : Nat) (most : Int) : vecL v (n + 1) most = vecL v n most ++ [zfit most (v.getD n (0, 0))] := by simp [vecL, List.range_succ]
theorem vecL_bd (v : List Zp) (n : Nat) (most : Int) (h : 0 ≤ most) : ∀ p ∈ vecL v n most, p.1.natAbs ≤ most.natAbs ∧ p.2.natAbs ≤ most.natAbs := by
  intro p hp
  obtain ⟨k, -, rfl⟩ := List.mem_map.1 hp
  exact ⟨fitI_bd _ _ h, fitI_bd _ _ h⟩
theorem zfit_zero (most : Int) : zfit most (0, 0) = (0, 0) := by simp [zfit, fitI]
set_option maxRecDepth 100000 in
set_option maxHeartbeats 4000000 in
theorem vector_any (la : Option Addr) (c : Nat) (v : List Zp) (n : Nat) (most : Int) (w : World) (hv : zE.At w la v) (hl : v.length < 4611686018427387904) (hn : n ≤ 40) (hmo : 0 ≤ most) (hmo2 : most ≤ 1048576) :
    Calls Try.prog 9 #[.slice la v.length c, .int .i64 n, .int .i64 most] w (NewZ w (vecL v n most)) := by
  obtain ⟨N, en⟩ : ∃ N, v.length = N := ⟨_, rfl⟩
  rw [en] at hl ⊢
  have EN := Hid.mk en
  have HV := Hid.mk hv
  clear en hv
  go_enter Try.func9, Try.ntmps9
  go_wp2
  go_loopw [7, 8] (fun o f wr => ∃ (i : Nat), i ≤ n ∧ f = .int .i64 i ∧ GroZ w (vecL v i most) o wr) (fun _ f _ => n - (intOf f).toNat)
  case atStart => exact ⟨0, Nat.zero_le _, rfl, GroZ.start w⟩
  case round =>
    obtain ⟨i, hi, rfl, hG⟩ := hrel
    have HG := Hid.mk hG
    by_cases hlt : i < n
    · have hlt' : (i : Int) < (n : Int) := by omega
      have hsc := vecL_succ v i most
      by_cases hin : i < N
      · have hin' : (i : Int) < (N : Int) := by omega
        have hlv : i < v.length := by rw [EN.out]; exact hin
        obtain ⟨g, off, rfl, hr⟩ := HV.out.at' (fun e => by rw [e] at hlv; simp at hlv)
        obtain ⟨q0, q1⟩ := z_cells hr i hlv
        have hgl : g < w.heap.size := World.block_lt_of_cell? w _ q0
        rw [getD_at hlv] at hsc
        obtain ⟨p, ep⟩ : ∃ p, v[i] = p := ⟨_, rfl⟩
        have EP := Hid.mk ep
        rw [ep] at hsc q0 q1
        have x0 := (hG.bel.cell (p := ⟨g, off + i * 2, none⟩) hgl).trans q0
        have x1 := (hG.bel.cell (p := ⟨g, off + i * 2 + 1, none⟩) hgl).trans q1
        have hgw : g < wr.heap.size := Nat.lt_of_lt_of_le hgl hG.bel.size
        have bA : Below wr.heap.size wr (wr.alloc (.cells #[.int .i64 0, .int .i64 0] 30)) := (Below.refl _ wr).alloc (Nat.le_refl _) _
        have y0 := cell_lat bA x0
        have y1 := cell_lat bA x1
        have HS := Hid.mk hsc
        clear hsc hG q0 q1 ep hr
        go_wp2_with fail
        refine wp_region_held_drew (S := fun w' => w'.cell? ⟨g, off + i * 2, none⟩ = some (.int .i64 p.1) ∧ w'.cell? ⟨g, off + i * 2 + 1, none⟩ = some (.int .i64 p.2)) (by kernel_rfl) ?_ (fun hHeld => ?_)
        · exact ⟨y0, y1⟩
        refine wpAnyH_take (i := 0) (oi := { dst := some 20, op := Op.move (Operand.tmp 0), type := 23, pos := "plain.go:20", after := #[], guard := none }) (v := ?vv0) rfl (by kernel_rfl) (by kernel_rfl) (by kernel_rfl) (fun _ _ _ h => h) (Or.inl ⟨by rfl, ?hv0⟩) (by assumption) ?rv0
        case hv0 => (intro w0 hSw; (try dsimp only at hSw); go_simp; try (with_reducible rfl))
        simp only [Act.put, List.setIfInBounds_toArray, List.set_cons_zero, List.set_cons_succ]
        refine wpAnyH_take (i := 1) (oi := { dst := some 21, op := Op.move (Operand.tmp 8), type := 3, pos := "plain.go:20", after := #[], guard := none }) (v := ?vv1) rfl (by kernel_rfl) (by kernel_rfl) (by kernel_rfl) (fun _ _ _ h => h) (Or.inl ⟨by rfl, ?hv1⟩) (by assumption) ?rv1
        case hv1 => (intro w0 hSw; (try dsimp only at hSw); go_simp; try (with_reducible rfl))
        simp only [Act.put, List.setIfInBounds_toArray, List.set_cons_zero, List.set_cons_succ]
        refine wpAnyH_take (i := 2) (oi := { dst := some 22, op := Op.indexAddr 23 (Operand.tmp 20) (Operand.tmp 21), type := 0, pos := "plain.go:20", after := #[{ on := 0, ground := Ground.data }, { on := 1, ground := Ground.data }], guard := none }) (v := ?vv2) rfl (by kernel_rfl) (by kernel_rfl) (by kernel_rfl) (fun _ _ _ h => h) (Or.inl ⟨by rfl, ?hv2⟩) (by assumption) ?rv2
        case hv2 => (intro w0 hSw; (try dsimp only at hSw); go_simp; try (with_reducible rfl))
        simp only [Act.put, List.setIfInBounds_toArray, List.set_cons_zero, List.set_cons_succ]
        refine wpAnyH_take (i := 3) (oi := { dst := some 23, op := Op.fieldAddr 30 (Operand.tmp 22) 0, type := 0, pos := "plain.go:20", after := #[{ on := 2, ground := Ground.data }], guard := none }) (v := ?vv3) rfl (by kernel_rfl) (by kernel_rfl) (by kernel_rfl) (fun _ _ _ h => h) (Or.inl ⟨by rfl, ?hv3⟩) (by assumption) ?rv3
        case hv3 => (intro w0 hSw; (try dsimp only at hSw); go_simp; try (with_reducible rfl))
        simp only [Act.put, List.setIfInBounds_toArray, List.set_cons_zero, List.set_cons_succ]
        refine wpAnyH_take (i := 4) (oi := { dst := some 24, op := Op.load 3 (Operand.tmp 23), type := 3, pos := "plain.go:20", after := #[{ on := 3, ground := Ground.data }], guard := none }) (v := ?vv4) rfl (by kernel_rfl) (by kernel_rfl) (by kernel_rfl) (fun _ _ _ h => h) (Or.inl ⟨by rfl, ?hv4⟩) (by assumption) ?rv4
        case hv4 => (intro w0 hSw; (try dsimp only at hSw); go_simp; try (with_reducible rfl))
        simp only [Act.put, List.setIfInBounds_toArray, List.set_cons_zero, List.set_cons_succ]
        refine wpAnyH_take (i := 5) (oi := { dst := some 25, op := Op.move (Operand.tmp 2), type := 3, pos := "plain.go:20", after := #[], guard := none }) (v := ?vv5) rfl (by kernel_rfl) (by kernel_rfl) (by kernel_rfl) (fun _ _ _ h => h) (Or.inl ⟨by rfl, ?hv5⟩) (by assumption) ?rv5
        case hv5 => (intro w0 hSw; (try dsimp only at hSw); go_simp; try (with_reducible rfl))
        simp only [Act.put, List.setIfInBounds_toArray, List.set_cons_zero, List.set_cons_succ]
        refine wpAnyH_take (i := 7) (oi := { dst := some 27, op := Op.move (Operand.tmp 0), type := 23, pos := "plain.go:20", after := #[], guard := none }) (v := ?vv7) rfl (by kernel_rfl) (by kernel_rfl) (by kernel_rfl) (fun _ _ _ h => h) (Or.inl ⟨by rfl, ?hv7⟩) (by assumption) ?rv7
        case hv7 => (intro w0 hSw; (try dsimp only at hSw); go_simp; try (with_reducible rfl))
        simp only [Act.put, List.setIfInBounds_toArray, List.set_cons_zero, List.set_cons_succ]
        refine wpAnyH_take (i := 8) (oi := { dst := some 28, op := Op.move (Operand.tmp 8), type := 3, pos := "plain.go:20", after := #[], guard := none }) (v := ?vv8) rfl (by kernel_rfl) (by kernel_rfl) (by kernel_rfl) (fun _ _ _ h => h) (Or.inl ⟨by rfl, ?hv8⟩) (by assumption) ?rv8
        case hv8 => (intro w0 hSw; (try dsimp only at hSw); go_simp; try (with_reducible rfl))
        simp only [Act.put, List.setIfInBounds_toArray, List.set_cons_zero, List.set_cons_succ]
        refine wpAnyH_take (i := 9) (oi := { dst := some 29, op := Op.indexAddr 23 (Operand.tmp 27) (Operand.tmp 28), type := 0, pos := "plain.go:20", after := #[{ on := 7, ground := Ground.data }, { on := 8, ground := Ground.data }], guard := none }) (v := ?vv9) rfl (by kernel_rfl) (by kernel_rfl) (by kernel_rfl) (fun _ _ _ h => h) (Or.inl ⟨by rfl, ?hv9⟩) (by assumption) ?rv9
        case hv9 => (intro w0 hSw; (try dsimp only at hSw); go_simp; try (with_reducible rfl))
        simp only [Act.put, List.setIfInBounds_toArray, List.set_cons_zero, List.set_cons_succ]
        refine wpAnyH_take (i := 10) (oi := { dst := some 30, op := Op.fieldAddr 30 (Operand.tmp 29) 1, type := 0, pos := "plain.go:20", after := #[{ on := 9, ground := Ground.data }], guard := none }) (v := ?vv10) rfl (by kernel_rfl) (by kernel_rfl) (by kernel_rfl) (fun _ _ _ h => h) (Or.inl ⟨by rfl, ?hv10⟩) (by assumption) ?rv10
        case hv10 => (intro w0 hSw; (try dsimp only at hSw); go_simp; try (with_reducible rfl))
        simp only [Act.put, List.setIfInBounds_toArray, List.set_cons_zero, List.set_cons_succ]
        refine wpAnyH_take (i := 11) (oi := { dst := some 31, op := Op.load 3 (Operand.tmp 30), type := 3, pos := "plain.go:20", after := #[{ on := 10, ground := Ground.data }], guard := none }) (v := ?vv11) rfl (by kernel_rfl) (by kernel_rfl) (by kernel_rfl) (fun _ _ _ h => h) (Or.inl ⟨by rfl, ?hv11⟩) (by assumption) ?rv11
        case hv11 => (intro w0 hSw; (try dsimp only at hSw); go_simp; try (with_reducible rfl))
        simp only [Act.put, List.setIfInBounds_toArray, List.set_cons_zero, List.set_cons_succ]
        refine wpAnyH_take (i := 12) (oi := { dst := some 32, op := Op.move (Operand.tmp 2), type := 3, pos := "plain.go:20", after := #[], guard := none }) (v := ?vv12) rfl (by kernel_rfl) (by kernel_rfl) (by kernel_rfl) (fun _ _ _ h => h) (Or.inl ⟨by rfl, ?hv12⟩) (by assumption) ?rv12
        case hv12 => (intro w0 hSw; (try dsimp only at hSw); go_simp; try (with_reducible rfl))
        simp only [Act.put, List.setIfInBounds_toArray, List.set_cons_zero, List.set_cons_succ]
        refine wpAnyH_ready (rs := [6]) (by kernel_rfl) (by simp) ?_
        refine AllReadyH.cons rfl (fun K0 hK0 => ?_) AllReadyH.nil
        go_simp
        go_at_call 10
        refine (fit_any _ _ _ hmo hmo2).mono ?_
        rintro e w5 ⟨rfl, rfl⟩
        refine hK0.out _ _ ?_ (fun hHeld => ?_)
        · exact ⟨y0, y1⟩
        clear hK0 K0
        refine wpAnyH_ready (rs := [13]) (by kernel_rfl) (by simp) ?_
        refine AllReadyH.cons rfl (fun K0 hK0 => ?_) AllReadyH.nil
        go_simp
        go_at_call 10
        refine (fit_any _ _ _ hmo hmo2).mono ?_
        rintro e w5 ⟨rfl, rfl⟩
        refine hK0.out _ _ ?_ (fun hHeld => ?_)
        · exact ⟨y0, y1⟩
        clear hK0 K0
        refine wpAnyH_take (i := 14) (oi := { dst := some 34, op := Op.build 30 #[(0, Operand.tmp 26), (1, Operand.tmp 33)], type := 30, pos := "plain.go:20", after := #[{ on := 6, ground := Ground.data }, { on := 13, ground := Ground.data }], guard := none }) (v := ?vv14) rfl (by kernel_rfl) (by kernel_rfl) (by kernel_rfl) (fun _ _ _ h => h) (Or.inl ⟨by rfl, ?hv14⟩) (by assumption) ?rv14
        case hv14 => (intro w0 hSw; (try dsimp only at hSw); go_simp; try (with_reducible rfl))
        simp only [Act.put, List.setIfInBounds_toArray, List.set_cons_zero, List.set_cons_succ]
        refine wpAnyH_ready (rs := [15]) (by kernel_rfl) (by simp) ?_
        refine AllReadyH.cons rfl (fun K0 hK0 => ?_) AllReadyH.nil
        go_simp
        refine hK0.out _ _ ?_ (fun hHeld => ?_)
        · exact ⟨cell_lat ((Below.refl _ wr).alloc (Nat.le_refl _) _).drew x0, cell_lat ((Below.refl _ wr).alloc (Nat.le_refl _) _).drew x1⟩
        clear hK0 K0
        refine wpAnyH_done (by kernel_rfl) ?_ _
        have bB : Below wr.heap.size wr (wr.alloc (.cells #[.int .i64 (fitI p.1 most), .int .i64 (fitI p.2 most)] 30)).drew := ((Below.refl _ wr).alloc (Nat.le_refl _) _).drew
        have hG1 := HG.out.later bB
        obtain ⟨o', W', hap, hG2⟩ := hG1.push (by rw [vecL_len]; omega) (zfit most p)
        rw [← HS.out] at hG2
        have HG2 := Hid.mk hG2
        simp only [heap_drew, World.size_alloc, zfit] at hap
        clear hG1 hG2 hHeld bA bB
        go_wp2_with (at_builtin; refine wpList_append_eq rfl _ _ _ _ rfl _ _ _ _ rfl rfl hap ?_; clear hap)
        go_roundw
        case rel => exact ⟨i + 1, hlt, by go_num, HG2.out⟩
        case measure => simp [intOf]; omega
      · have hin' : ¬ (i : Int) < (N : Int) := by omega
        have e0 : v.getD i (0, 0) = (0, 0) := by rw [List.getD_eq_getElem?_getD, List.getElem?_eq_none (by rw [EN.out]; omega)]; rfl
        rw [e0, zfit_zero] at hsc
        have hG1 := hG.later ((Below.refl _ wr).alloc (Nat.le_refl _) (.cells #[.int .i64 0, .int .i64 0] 30))
        obtain ⟨o', W', hap, hG2⟩ := hG1.push (by rw [vecL_len]; omega) (0, 0)
        rw [← hsc] at hG2
        have HG2 := Hid.mk hG2
        simp only [World.size_alloc] at hap
        clear hG hG1 hG2 hsc e0
        go_wp2_with (at_builtin; refine wpList_append_eq rfl _ _ _ _ rfl _ _ _ _ rfl rfl hap ?_; clear hap)
        go_roundw
        case rel => exact ⟨i + 1, hlt, by go_num, HG2.out⟩
        case measure => simp [intOf]; omega
    · have e : i = n := by omega
      rw [e] at hG
      have HG3 := Hid.mk (And.intro hG.row (And.intro hG.new hG.bel))
      clear e hG HG
      go_wp2
      go_ret
      exact ⟨_, rfl, HG3.out⟩
end Go.Proofs.Ytmdmjjobhkpojaa
