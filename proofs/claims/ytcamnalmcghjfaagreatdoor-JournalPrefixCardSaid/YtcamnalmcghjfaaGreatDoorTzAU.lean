/-
  DERIVED. JPre0, JApp, as one text.
-/
import Derived.Test.YtcamnalmcghjfaaGreatDoorTzAP
import Derived.Test.YtcamnalmcghjfaaGreatDoorTzAT
import Derived.Test.YtcamnalmcghjfaaGreatDoorTzAH
import Derived.Test.YtcamnalmcghjfaaGreatDoorTzAM
set_option linter.unusedVariables false
set_option linter.unusedSimpArgs false
namespace Go.Proofs.YtcamnalmcghjfaaGreatDoor
open Go.RowKit Go.Proofs.SealMath Go.Proofs.DiskMath
def upQ (u : Up) : Uq := (u.s, u.k, u.i, ⟨u.c.toArray⟩)
theorem plU_map (L : List Up) (a : Nat) : (plU a L).map uQ = L.map upQ := by
  have h := congrArg (List.map upQ) (plU_fst L a)
  rw [List.map_map] at h
  exact h
theorem jc9 {n : Nat} (h : n ≤ 1152921504606846976) : jcE 9 n 64 = 0 := by
  have h1 : nmB 9 = true := by decide
  have h2 : isW 64 = true := by decide
  unfold jcE
  rw [if_pos h1, if_pos h2, if_pos (by omega)]
/-- Updates that may be written, with numbers one behind the other behind n. -/
structure GN (n : Nat) (L : List Up) : Prop where
  g : ∀ u ∈ L, Gu u
  n : ∀ (i : Nat) (u : Up), L[i]? = some u → u.s = n + i + 1
theorem GN.take {n : Nat} {L : List Up} (h : GN n L) (m : Nat) : GN n (L.take m) :=
  ⟨fun u hu => h.g u (List.mem_of_mem_take hu), fun i u hu => h.n i u (by
    rw [List.getElem?_take] at hu
    split at hu
    · exact hu
    · cases hu)⟩
theorem GN.nil (n : Nat) : GN n [] := ⟨fun u hu => (by cases hu), fun i u hu => (by simp at hu)⟩
theorem GN.snoc {n : Nat} {L : List Up} (h : GN n L) {u : Up} (hu : Gu u) (hs : u.s = n + L.length + 1) : GN n (L ++ [u]) := by
  refine ⟨fun v hv => ?_, fun i v hv => ?_⟩
  · rcases List.mem_append.1 hv with h1 | h1
    · exact h.g v h1
    · rw [List.mem_singleton.1 h1]; exact hu
  · rcases Nat.lt_or_ge i L.length with hi | hi
    · rw [List.getElem?_append_left hi] at hv; exact h.n i v hv
    · have hl := (List.getElem?_eq_some_iff.1 hv).1
      have e : i = L.length := by simp at hl; omega
      subst e
      rw [List.getElem?_append_right (Nat.le_refl _)] at hv
      simp at hv
      rw [← hv]; exact hs
theorem ok_plN {n : Nat} {L : List Up} (h : GN n L) : okU n (plU 0 L) := fun i z hz => h.n i z.1 (plU_at L 0 i z hz)
theorem lk_told {n : Nat} {L : List Up} (hn : n ≤ 1152921504606846976) (h : GN n L) (X : ByteArray) (hX : ups X 64 0 = plU 0 L) : lkL X n 64 = plU 0 L ∧ lkE X n 64 = 0 := by
  have h2 : okB (n : Int).toNat (ups X 64 0) = true := by
    rw [hX, Int.toNat_natCast]
    exact (okB_iff _ _).2 (ok_plN h)
  unfold lkL lkE
  rw [if_pos (jc9 hn), if_pos (jc9 hn), if_pos h2, if_pos h2]
  exact ⟨hX, rfl⟩
/-- Behind a power cut: a beginning of all, with what was durable; what stands behind it is no frame. -/
theorem lk_cut {n : Nat} {all : List Up} (hn : n ≤ 1152921504606846976) (h : GN n all) (s k : Nat) (sp : UInt8) (hs : s ≤ all.length) (hk : (flU (all.take s)).length + k ≤ (flU all).length) (D : List UInt8) (hD : D = Dk.loseL (flU all) (flU (all.take s)).length k sp) :
    ∃ m, s ≤ m ∧ m ≤ all.length ∧ lkL ⟨D.toArray⟩ n 64 = plU 0 (all.take m) ∧ lkE ⟨D.toArray⟩ n 64 = 0 ∧ (flU (all.take m)).length ≤ D.length ∧ D.take (flU (all.take m)).length = flU (all.take m) := by
  obtain ⟨m, h1, h2, h3, T, h6⟩ := told_cut all s k sp h.g hs hk ⟨D.toArray⟩ hD
  obtain ⟨h4, h5⟩ := lk_told hn (h.take m) _ h3
  have h7 : D = flU (all.take m) ++ T := h6
  exact ⟨m, h1, h2, h4, h5, by rw [h7, List.length_append]; omega, by rw [h7, List.take_left]⟩
end Go.Proofs.YtcamnalmcghjfaaGreatDoor
set_option linter.unusedVariables false
set_option linter.unusedSimpArgs false
namespace Go.Proofs.YtcamnalmcghjfaaGreatDoor
open Go.RowKit Go.Proofs.SealMath Go.Proofs.DiskMath
theorem nm9 : nmT 9 = ⟨#[106, 57]⟩ := by kernel_rfl
theorem nm9b : (nmT 9).data.toList = [106, 57] := by rw [nm9]
theorem isNm9 : Dk.isNm (nmT 9).data.toList = true := by rw [nm9b]; decide
/-- The disk has the one file of these bytes. -/
structure JS (W : World) (p mb : Nat) (e : Ent) (c : Dk.Ctl) (D : List UInt8) : Prop where
  dk : Dk.DK W p mb [e] c
  nm : e.nm = (nmT 9).data.toList
  da : e.da = D
  cap : c.cap = 16777216
/-- A journal's cells. -/
abbrev jV (p : Nat) (age la sy : Int) : Array Value := #[Pt p, .int .i64 age, .string ⟨#[106, 57]⟩, .int .i64 64, .int .i64 la, .int .i64 sy]
theorem JS.find {W : World} {p mb : Nat} {e : Ent} {c : Dk.Ctl} {D : List UInt8} (h : JS W p mb e c D) : findE [e] (nmT 9).data.toList = some e := by unfold findE; simp [h.nm]
theorem JS.fd {W : World} {p mb : Nat} {e : Ent} {c : Dk.Ctl} {D : List UInt8} (h : JS W p mb e c D) (ho : c.off = false) : Dk.fdE [e] c (nmT 9).data.toList = 0 := by
  unfold Dk.fdE Dk.ckE
  rw [h.find, ho, isNm9]; rfl
theorem JS.keep {W W' : World} {p mb : Nat} {e : Ent} {c : Dk.Ctl} {D : List UInt8} {F : Nat → Prop} (h : JS W p mb e c D) (s : Stay F W W') (hF : ∀ k, Dk.Foot p mb [e] k → ¬ F k) : JS W' p mb e c D := ⟨h.dk.kept s hF, h.nm, h.da, h.cap⟩
theorem JS.below {W W' : World} {p mb : Nat} {e : Ent} {c : Dk.Ctl} {D : List UInt8} (h : JS W p mb e c D) (s : Below W.heap.size W W') : JS W' p mb e c D := h.keep (F := fun _ => False) (.below s) (fun _ _ hf => hf)
/-- What the disk's Append makes of the one file. -/
theorem dapp {W : World} {p mb : Nat} {e : Ent} {c : Dk.Ctl} {D : List UInt8} (t : ByteArray) (h : JS W p mb e c D) (ho : c.off = false) (hb : D.length + t.size ≤ 16777216) :
    Calls Tryz.prog 32 #[Pt p, .string ⟨#[106, 57]⟩, .string t] W fun r W' => r = .returned (.int .i64 (Dk.okE c)) ∧ Stay (Dk.Foot p mb [e]) W W' ∧ ∃ e', JS W' p mb e' (Dk.tick c) (D ++ t.data.toList) ∧ e'.du = e.du ∧ ∀ k, Dk.Foot p mb [e'] k → Dk.Foot p mb [e] k ∨ W.heap.size ≤ k := by
  rw [← nm9]
  have hz : t.size = t.data.toList.length := by simp
  have hd := h.da
  have hdl : e.da.length = D.length := by rw [hd]
  refine Dk.append_any (nmT 9) t W h.dk (by unfold maxLen; omega) _ (fun e0 => absurd (h.fd ho) e0) (fun x he _ hl => ?_) (fun x he _ _ hl => ?_) (fun x he _ _ _ W' v' hs => ?_)
  · rw [h.find] at he; cases he
    omega
  · rw [h.find] at he; cases he
    have h1 : used [e] = e.da.length := by simp [used]
    rw [h1, h.cap] at hl
    omega
  · rw [h.find] at he; cases he
    have e1 : modE [e] { e with da := e.da ++ t.data.toList, v := v' } = [{ e with da := e.da ++ t.data.toList, v := v' }] := by
      unfold modE; simp
    rw [e1] at hs
    exact ⟨rfl, hs.stay, _, ⟨hs.dk, h.nm, by rw [hd], h.cap⟩, rfl, hs.foot⟩
set_option maxHeartbeats 8000000 in
set_option maxRecDepth 100000 in
theorem app_do {w : World} {p mb j bu bj : Nat} {e : Ent} {c : Dk.Ctl} {D : List UInt8} {age sy : Int} {la : Nat} {u : Up} (h : JS w p mb e c D) (ho : c.off = false) (hj : w.heap[j]? = some (.cells (jV p age la sy) 72 (0, 0))) (hjf : ¬ Dk.Foot p mb [e] j) (hbj : w.heap[bj]? = some (.cells #[Pt j] 26 (0, 0))) (hbf : ¬ Dk.Foot p mb [e] bj)
    (hbu : w.heap[bu]? = some (.cells (upV u) 32 (0, 0))) (huf : ¬ Dk.Foot p mb [e] bu) (ht : Tab w) (hu : Gu u) (hs : u.s = la + 1) (hsz : D.length + 42 ≤ 16777216) (hla : la ≤ 1152921504606846976) :
    Calls Tryz.prog 29 #[Pt bu, Pt bj] w fun r w' => ∃ v : Int, r = .returned (.int .i64 v) ∧ (v = Dk.okE c ∧ (∃ e', JS w' p mb e' (Dk.tick c) (D ++ frU u) ∧ e'.du = e.du ∧ ∀ k, Dk.Foot p mb [e'] k → Dk.Foot p mb [e] k ∨ w.heap.size ≤ k) ∧ w'.heap[j]? = some (.cells (jV p age (if v = 0 then (u.s : Int) else la) sy) 72 (0, 0)) ∧ Stay (fun k => Dk.Foot p mb [e] k ∨ k = j) w w') := by
  have hwr := write_any u.s u.k u.i ⟨u.c.toArray⟩ w ht
  have hk := hu.k
  have hfb : fitB u.k (⟨u.c.toArray⟩ : ByteArray).size 64 = true := by rw [show (⟨u.c.toArray⟩ : ByteArray).size = u.c.length by rw [ba_len]]; exact hu.f
  have hsz2 : (⟨u.c.toArray⟩ : ByteArray).size = u.c.length := by rw [ba_len]
  have hf8 : (u.k = 1 ∧ 8 ≤ u.c.length ∧ u.c.length ≤ 128 ∧ u.c.length % 8 = 0) ∨ (u.k = 2 ∧ u.c.length = 0) := (fit_n hu.k (by decide) hu.f).1
  have e0 : wE u.s u.k u.i (⟨u.c.toArray⟩ : ByteArray).size = 0 := by rw [hsz2]; exact wE_up hu.k hu.s hu.i hf8
  have e1 : wT u.s u.k u.i ⟨u.c.toArray⟩ = frU u := by unfold wT; rw [if_pos e0]; rfl
  rw [e0, e1] at hwr
  obtain ⟨T, hT⟩ : ∃ T : ByteArray, T = ⟨(frU u).toArray⟩ := ⟨_, rfl⟩
  rw [← hT] at hwr
  have hTl : T.data.toList = frU u := by rw [hT]
  have hTs : T.size ≤ 42 := by rw [ba_len, hTl]; exact (frU_len hu).2
  have hfit := fun (V : World) => fits_any u.s u.k u.i ⟨u.c.toArray⟩ 64 V
  rw [hfb] at hfit
  obtain ⟨us, uk, ui, uc⟩ := u
  dsimp only [upV] at hbu hwr hfit hs hTl
  have HU := Hid.mk (And.intro hTl (And.intro hs hTs))
  have HD := Hid.mk (And.intro h (And.intro hjf (And.intro hbf (And.intro huf (And.intro hj (And.intro hbj (And.intro hbu (And.intro ho hsz))))))))
  have x0 : w.cell? ⟨bu, 0, none⟩ = some (.int .i64 us) := by rw [cell_of_row _ _ 0 _ _ (0, 0) hbu]; rfl
  have x1 : w.cell? ⟨bu, 1, none⟩ = some (.int .i64 uk) := by rw [cell_of_row _ _ 1 _ _ (0, 0) hbu]; rfl
  have x2 : w.cell? ⟨bu, 2, none⟩ = some (.int .i64 ui) := by rw [cell_of_row _ _ 2 _ _ (0, 0) hbu]; rfl
  have x3 : w.cell? ⟨bu, 3, none⟩ = some (.string ⟨uc.toArray⟩) := by rw [cell_of_row _ _ 3 _ _ (0, 0) hbu]; rfl
  clear hk hfb hsz2 hf8 e0 e1 hT hTl hTs hs h hjf hbf huf hj hbj hbu ho hsz hu ht
  go_enter Tryz.func29, Tryz.ntmps29
  go_wp2_with fail
  refine hwr.mono ?_
  clear hwr
  rintro r w1 ⟨rfl, b1⟩
  have hJ1 := HD.out.1.below b1
  have hj1 := (b1.block j (Array.getElem?_eq_some_iff.1 HD.out.2.2.2.2.1).1).trans HD.out.2.2.2.2.1
  have hbj1 := (b1.block bj (Array.getElem?_eq_some_iff.1 HD.out.2.2.2.2.2.1).1).trans HD.out.2.2.2.2.2.1
  have hbu1 := (b1.block bu (Array.getElem?_eq_some_iff.1 HD.out.2.2.2.2.2.2.1).1).trans HD.out.2.2.2.2.2.2.1
  replace x0 := cell_lat b1 x0
  replace x1 := cell_lat b1 x1
  replace x2 := cell_lat b1 x2
  replace x3 := cell_lat b1 x3
  have y0 : w1.cell? ⟨bj, 0, none⟩ = some (Pt j) := by rw [cell_of_row _ _ 0 _ _ (0, 0) hbj1]; rfl
  have z0 : w1.cell? ⟨j, 0, none⟩ = some (Pt p) := by rw [cell_of_row _ _ 0 _ _ (0, 0) hj1]; rfl
  have z2 : w1.cell? ⟨j, 2, none⟩ = some (.string ⟨#[106, 57]⟩) := by rw [cell_of_row _ _ 2 _ _ (0, 0) hj1]; rfl
  have z3 : w1.cell? ⟨j, 3, none⟩ = some (.int .i64 64) := by rw [cell_of_row _ _ 3 _ _ (0, 0) hj1]; rfl
  have z4 : w1.cell? ⟨j, 4, none⟩ = some (.int .i64 la) := by rw [cell_of_row _ _ 4 _ _ (0, 0) hj1]; rfl
  have HJ1 := Hid.mk (And.intro hJ1 (And.intro hj1 (And.intro hbj1 (And.intro hbu1 b1))))
  clear hJ1 hj1 hbj1 hbu1 b1
  go_wp2_with fail
  refine wp_region_held_drew (S := (fun w' => (w'.cell? ⟨bu, 0, none⟩ = some (.int .i64 us) ∧ w'.cell? ⟨bu, 1, none⟩ = some (.int .i64 uk) ∧ w'.cell? ⟨bu, 2, none⟩ = some (.int .i64 ui) ∧ w'.cell? ⟨bu, 3, none⟩ = some (.string ⟨uc.toArray⟩)) ∧ w'.cell? ⟨bj, 0, none⟩ = some (Pt j) ∧ w'.cell? ⟨j, 3, none⟩ = some (.int .i64 64))) (by kernel_rfl) ?_ (fun hHeld => ?_)
  · exact ⟨⟨x0, x1, x2, x3⟩, y0, z3⟩
  refine wpAnyH_take (i := 0) (oi := { dst := some 14, op := Op.load 32 (Operand.tmp 0), type := 32, pos := "journal.go:115", after := #[], guard := none }) (v := ?vp0) rfl (by kernel_rfl) (by kernel_rfl) (by kernel_rfl) (fun _ _ _ h => h) (Or.inl ⟨by rfl, ?hp0⟩) (by assumption) ?rp0
  case hp0 => (intro w0 hSw; (try dsimp only at hSw); go_simp; first | done | (with_reducible rfl) | (rw [if_pos (by omega)]; try (with_reducible rfl)))
  simp only [Act.put, List.setIfInBounds_toArray, List.set_cons_zero, List.set_cons_succ]
  refine wpAnyH_take (i := 1) (oi := { dst := some 15, op := Op.load 26 (Operand.tmp 1), type := 26, pos := "journal.go:115", after := #[], guard := none }) (v := ?vp1) rfl (by kernel_rfl) (by kernel_rfl) (by kernel_rfl) (fun _ _ _ h => h) (Or.inl ⟨by rfl, ?hp1⟩) (by assumption) ?rp1
  case hp1 => (intro w0 hSw; (try dsimp only at hSw); go_simp; first | done | (with_reducible rfl) | (rw [if_pos (by omega)]; try (with_reducible rfl)))
  simp only [Act.put, List.setIfInBounds_toArray, List.set_cons_zero, List.set_cons_succ]
  refine wpAnyH_take (i := 2) (oi := { dst := some 16, op := Op.nilCheck (Operand.tmp 15), type := 0, pos := "journal.go:115", after := #[{ on := 1, ground := Ground.data }], guard := none }) (v := ?vp2) rfl (by kernel_rfl) (by kernel_rfl) (by kernel_rfl) (fun _ _ _ h => h) (Or.inl ⟨by rfl, ?hp2⟩) (by assumption) ?rp2
  case hp2 => (intro w0 hSw; (try dsimp only at hSw); go_simp; first | done | (with_reducible rfl) | (rw [if_pos (by omega)]; try (with_reducible rfl)))
  simp only [Act.put, List.setIfInBounds_toArray, List.set_cons_zero, List.set_cons_succ]
  refine wpAnyH_take (i := 3) (oi := { dst := some 17, op := Op.fieldAddr 72 (Operand.tmp 16) 3, type := 0, pos := "journal.go:115", after := #[{ on := 2, ground := Ground.data }], guard := none }) (v := ?vp3) rfl (by kernel_rfl) (by kernel_rfl) (by kernel_rfl) (fun _ _ _ h => h) (Or.inl ⟨by rfl, ?hp3⟩) (by assumption) ?rp3
  case hp3 => (intro w0 hSw; (try dsimp only at hSw); go_simp; first | done | (with_reducible rfl) | (rw [if_pos (by omega)]; try (with_reducible rfl)))
  simp only [Act.put, List.setIfInBounds_toArray, List.set_cons_zero, List.set_cons_succ]
  refine wpAnyH_take (i := 4) (oi := { dst := some 18, op := Op.load 3 (Operand.tmp 17), type := 3, pos := "journal.go:115", after := #[{ on := 3, ground := Ground.data }], guard := none }) (v := ?vp4) rfl (by kernel_rfl) (by kernel_rfl) (by kernel_rfl) (fun _ _ _ h => h) (Or.inl ⟨by rfl, ?hp4⟩) (by assumption) ?rp4
  case hp4 => (intro w0 hSw; (try dsimp only at hSw); go_simp; first | done | (with_reducible rfl) | (rw [if_pos (by omega)]; try (with_reducible rfl)))
  simp only [Act.put, List.setIfInBounds_toArray, List.set_cons_zero, List.set_cons_succ]
  refine wpAnyH_ready (rs := [5]) (by kernel_rfl) (by simp) ?_
  refine AllReadyH.cons rfl (fun K hK => ?_) AllReadyH.nil
  go_simp
  go_wp2_with (go_at_call 31; refine (hfit _).mono ?_; clear hfit; rintro r w4 ⟨rfl, b4⟩)
  refine hK.out _ _ ?_ (fun hHeld => ?_)
  · exact ⟨⟨cell_lat b4 x0, cell_lat b4 x1, cell_lat b4 x2, cell_lat b4 x3⟩, cell_lat b4 y0, cell_lat b4 z3⟩
  clear hK K
  refine wpAnyH_take (i := 6) (oi := { dst := some 20, op := Op.unOp UnOp.not 4 (Operand.tmp 19), type := 4, pos := "journal.go:115", after := #[{ on := 5, ground := Ground.data }], guard := none }) (v := ?vp6) rfl (by kernel_rfl) (by kernel_rfl) (by kernel_rfl) (fun _ _ _ h => h) (Or.inl ⟨by rfl, ?hp6⟩) (by assumption) ?rp6
  case hp6 => (intro w0 hSw; (try dsimp only at hSw); go_simp; first | done | (with_reducible rfl) | (rw [if_pos (by omega)]; try (with_reducible rfl)))
  simp only [Act.put, List.setIfInBounds_toArray, List.set_cons_zero, List.set_cons_succ]
  refine wpAnyH_done (by kernel_rfl) ?_ _
  have b5 : Below w1.heap.size w1 w4 := below_d b4
  have hsl : ((us : Int) != (la : Int) + 1) = false := by have := HU.out.2.1; simp; omega
  have HJ4 := Hid.mk (And.intro (HJ1.out.1.below b5) (And.intro ((b5.block j (Array.getElem?_eq_some_iff.1 HJ1.out.2.1).1).trans HJ1.out.2.1) (And.intro ((b5.block bj (Array.getElem?_eq_some_iff.1 HJ1.out.2.2.1).1).trans HJ1.out.2.2.1) (And.intro ((b5.block bu (Array.getElem?_eq_some_iff.1 HJ1.out.2.2.2.1).1).trans HJ1.out.2.2.2.1) (chain HJ1.out.2.2.2.2 b5 (Nat.le_refl _))))))
  replace x0 := cell_lat b5 x0
  replace y0 := cell_lat b5 y0
  replace z0 := cell_lat b5 z0
  replace z2 := cell_lat b5 z2
  replace z4 := cell_lat b5 z4
  clear b4 b5 HJ1 x1 x2 x3 z3 hHeld
  go_wp2_with fail
  go_region
  go_wp2_with fail
  have hap := dapp T ((HJ4.out.1.below (b_drew w4)).below (b_drew w4.drew)) HD.out.2.2.2.2.2.2.2.1 (by have h1 := HU.out.2.2; have h2 := HD.out.2.2.2.2.2.2.2.2; omega)
  rw [HU.out.1] at hap
  have HK := Hid.mk (show ∀ W, Stay (Dk.Foot p mb [e]) w4.drew.drew W → W.cell? ⟨bj, 0, none⟩ = some (Pt j) ∧ W.cell? ⟨j, 0, none⟩ = some (Pt p) ∧ W.cell? ⟨j, 2, none⟩ = some (.string ⟨#[106, 57]⟩) ∧ W.heap[j]? = some (.cells (jV p age la sy) 72 (0, 0)) ∧ W.cell? ⟨bu, 0, none⟩ = some (.int .i64 us) from fun W st => by
    have q1 : W.heap[j]? = _ := (st.block j (Array.getElem?_eq_some_iff.1 HJ4.out.2.1).1 HD.out.2.1).trans HJ4.out.2.1
    have q2 : W.heap[bj]? = _ := (st.block bj (Array.getElem?_eq_some_iff.1 HJ4.out.2.2.1).1 HD.out.2.2.1).trans HJ4.out.2.2.1
    have q3 : W.heap[bu]? = _ := (st.block bu (Array.getElem?_eq_some_iff.1 HJ4.out.2.2.2.1).1 HD.out.2.2.2.1).trans HJ4.out.2.2.2.1
    exact ⟨by rw [cell_of_row _ _ 0 _ _ (0, 0) q2]; rfl, by rw [cell_of_row _ _ 0 _ _ (0, 0) q1]; rfl, by rw [cell_of_row _ _ 2 _ _ (0, 0) q1]; rfl, q1, by rw [cell_of_row _ _ 0 _ _ (0, 0) q3]; rfl⟩)
  refine wp_region_held_drew (S := (fun w' => w'.cell? ⟨bj, 0, none⟩ = some (Pt j) ∧ w'.cell? ⟨j, 0, none⟩ = some (Pt p) ∧ w'.cell? ⟨j, 2, none⟩ = some (.string ⟨#[106, 57]⟩))) (by kernel_rfl) ?_ (fun hHeld => ?_)
  · exact ⟨y0, z0, z2⟩
  refine wpAnyH_take (i := 0) (oi := { dst := some 29, op := Op.load 26 (Operand.tmp 1), type := 26, pos := "journal.go:121", after := #[], guard := none }) (v := ?vq0) rfl (by kernel_rfl) (by kernel_rfl) (by kernel_rfl) (fun _ _ _ h => h) (Or.inl ⟨by rfl, ?hq0⟩) (by assumption) ?rq0
  case hq0 => (intro w0 hSw; (try dsimp only at hSw); go_simp; first | done | (with_reducible rfl) | (rw [if_pos (by omega)]; try (with_reducible rfl)))
  simp only [Act.put, List.setIfInBounds_toArray, List.set_cons_zero, List.set_cons_succ]
  refine wpAnyH_take (i := 1) (oi := { dst := some 30, op := Op.nilCheck (Operand.tmp 29), type := 0, pos := "journal.go:121", after := #[{ on := 0, ground := Ground.data }], guard := none }) (v := ?vq1) rfl (by kernel_rfl) (by kernel_rfl) (by kernel_rfl) (fun _ _ _ h => h) (Or.inl ⟨by rfl, ?hq1⟩) (by assumption) ?rq1
  case hq1 => (intro w0 hSw; (try dsimp only at hSw); go_simp; first | done | (with_reducible rfl) | (rw [if_pos (by omega)]; try (with_reducible rfl)))
  simp only [Act.put, List.setIfInBounds_toArray, List.set_cons_zero, List.set_cons_succ]
  refine wpAnyH_take (i := 2) (oi := { dst := some 31, op := Op.fieldAddr 72 (Operand.tmp 30) 0, type := 0, pos := "journal.go:121", after := #[{ on := 1, ground := Ground.data }], guard := none }) (v := ?vq2) rfl (by kernel_rfl) (by kernel_rfl) (by kernel_rfl) (fun _ _ _ h => h) (Or.inl ⟨by rfl, ?hq2⟩) (by assumption) ?rq2
  case hq2 => (intro w0 hSw; (try dsimp only at hSw); go_simp; first | done | (with_reducible rfl) | (rw [if_pos (by omega)]; try (with_reducible rfl)))
  simp only [Act.put, List.setIfInBounds_toArray, List.set_cons_zero, List.set_cons_succ]
  refine wpAnyH_take (i := 3) (oi := { dst := some 32, op := Op.load 23 (Operand.tmp 31), type := 23, pos := "journal.go:121", after := #[{ on := 2, ground := Ground.data }], guard := none }) (v := ?vq3) rfl (by kernel_rfl) (by kernel_rfl) (by kernel_rfl) (fun _ _ _ h => h) (Or.inl ⟨by rfl, ?hq3⟩) (by assumption) ?rq3
  case hq3 => (intro w0 hSw; (try dsimp only at hSw); go_simp; first | done | (with_reducible rfl) | (rw [if_pos (by omega)]; try (with_reducible rfl)))
  simp only [Act.put, List.setIfInBounds_toArray, List.set_cons_zero, List.set_cons_succ]
  refine wpAnyH_take (i := 4) (oi := { dst := some 33, op := Op.load 26 (Operand.tmp 1), type := 26, pos := "journal.go:121", after := #[], guard := none }) (v := ?vq4) rfl (by kernel_rfl) (by kernel_rfl) (by kernel_rfl) (fun _ _ _ h => h) (Or.inl ⟨by rfl, ?hq4⟩) (by assumption) ?rq4
  case hq4 => (intro w0 hSw; (try dsimp only at hSw); go_simp; first | done | (with_reducible rfl) | (rw [if_pos (by omega)]; try (with_reducible rfl)))
  simp only [Act.put, List.setIfInBounds_toArray, List.set_cons_zero, List.set_cons_succ]
  refine wpAnyH_take (i := 5) (oi := { dst := some 34, op := Op.nilCheck (Operand.tmp 33), type := 0, pos := "journal.go:121", after := #[{ on := 4, ground := Ground.data }], guard := none }) (v := ?vq5) rfl (by kernel_rfl) (by kernel_rfl) (by kernel_rfl) (fun _ _ _ h => h) (Or.inl ⟨by rfl, ?hq5⟩) (by assumption) ?rq5
  case hq5 => (intro w0 hSw; (try dsimp only at hSw); go_simp; first | done | (with_reducible rfl) | (rw [if_pos (by omega)]; try (with_reducible rfl)))
  simp only [Act.put, List.setIfInBounds_toArray, List.set_cons_zero, List.set_cons_succ]
  refine wpAnyH_take (i := 6) (oi := { dst := some 35, op := Op.fieldAddr 72 (Operand.tmp 34) 2, type := 0, pos := "journal.go:121", after := #[{ on := 5, ground := Ground.data }], guard := none }) (v := ?vq6) rfl (by kernel_rfl) (by kernel_rfl) (by kernel_rfl) (fun _ _ _ h => h) (Or.inl ⟨by rfl, ?hq6⟩) (by assumption) ?rq6
  case hq6 => (intro w0 hSw; (try dsimp only at hSw); go_simp; first | done | (with_reducible rfl) | (rw [if_pos (by omega)]; try (with_reducible rfl)))
  simp only [Act.put, List.setIfInBounds_toArray, List.set_cons_zero, List.set_cons_succ]
  refine wpAnyH_take (i := 7) (oi := { dst := some 36, op := Op.load 9 (Operand.tmp 35), type := 9, pos := "journal.go:121", after := #[{ on := 6, ground := Ground.data }], guard := none }) (v := ?vq7) rfl (by kernel_rfl) (by kernel_rfl) (by kernel_rfl) (fun _ _ _ h => h) (Or.inl ⟨by rfl, ?hq7⟩) (by assumption) ?rq7
  case hq7 => (intro w0 hSw; (try dsimp only at hSw); go_simp; first | done | (with_reducible rfl) | (rw [if_pos (by omega)]; try (with_reducible rfl)))
  simp only [Act.put, List.setIfInBounds_toArray, List.set_cons_zero, List.set_cons_succ]
  refine wpAnyH_take (i := 8) (oi := { dst := some 37, op := Op.move (Operand.tmp 3), type := 9, pos := "journal.go:121", after := #[], guard := none }) (v := ?vq8) rfl (by kernel_rfl) (by kernel_rfl) (by kernel_rfl) (fun _ _ _ h => h) (Or.inl ⟨by rfl, ?hq8⟩) (by assumption) ?rq8
  case hq8 => (intro w0 hSw; (try dsimp only at hSw); go_simp; first | done | (with_reducible rfl) | (rw [if_pos (by omega)]; try (with_reducible rfl)))
  simp only [Act.put, List.setIfInBounds_toArray, List.set_cons_zero, List.set_cons_succ]
  refine wpAnyH_ready (rs := [9]) (by kernel_rfl) (by simp) ?_
  refine AllReadyH.cons rfl (fun K hK => ?_) AllReadyH.nil
  go_simp
  go_wp2_with (go_at_call 32; refine hap.mono ?_; clear hap; rintro r w5 ⟨rfl, st5, hnew⟩)
  have QQ := HK.out w5 st5
  refine hK.out _ _ ?_ (fun hHeld => ?_)
  · exact ⟨QQ.1, QQ.2.1, QQ.2.2.1⟩
  clear hK K
  refine wpAnyH_take (i := 10) (oi := { dst := some 5, op := Op.assign (Operand.tmp 38), type := 27, pos := "journal.go:121", after := #[{ on := 9, ground := Ground.data }, { on := 9, ground := Ground.chain }, { on := 0, ground := Ground.phase }, { on := 1, ground := Ground.phase }, { on := 2, ground := Ground.phase }, { on := 3, ground := Ground.phase }, { on := 4, ground := Ground.phase }, { on := 5, ground := Ground.phase }, { on := 6, ground := Ground.phase }, { on := 7, ground := Ground.phase }, { on := 8, ground := Ground.phase }, { on := 9, ground := Ground.phase }], guard := none }) (v := ?vq10) rfl (by kernel_rfl) (by kernel_rfl) (by kernel_rfl) (fun _ _ _ h => h) (Or.inl ⟨by rfl, ?hq10⟩) (by assumption) ?rq10
  case hq10 => (intro w0 hSw; (try dsimp only at hSw); go_simp; first | done | (with_reducible rfl) | (rw [if_pos (by omega)]; try (with_reducible rfl)))
  simp only [Act.put, List.setIfInBounds_toArray, List.set_cons_zero, List.set_cons_succ]
  refine wpAnyH_done (by kernel_rfl) ?_ _
  have hJf : ∀ (e' : Ent), (∀ k, Dk.Foot p mb [e'] k → Dk.Foot p mb [e] k ∨ w4.drew.drew.heap.size ≤ k) → ¬ Dk.Foot p mb [e'] j := fun e' hf hj => by
    rcases hf j hj with h | h
    · exact HD.out.2.1 h
    · have h1 := (Array.getElem?_eq_some_iff.1 HJ4.out.2.1).1
      have h2 : w4.heap.size ≤ j := h
      omega
  have hsz : w.heap.size ≤ w4.drew.drew.heap.size := HJ4.out.2.2.2.2.size
  have hst : Stay (fun k => Dk.Foot p mb [e] k ∨ k = j) w w5 := (Stay.below (F := fun k => Dk.Foot p mb [e] k ∨ k = j) HJ4.out.2.2.2.2).trans ((st5.undrew.undrew).mono (fun k _ h => .inl h))
  obtain ⟨q0, q1, q2, q3, q4⟩ := QQ
  have q5 : w5.cell? ⟨j, 4, none⟩ = some (.int .i64 la) := by rw [cell_of_row _ _ 4 _ _ (0, 0) q3]; rfl
  have f5 : w5.frozen? ⟨j, 4, none⟩ = false := frozen_of_row _ _ _ _ _ q3
  obtain ⟨e', hJ', hdu, hft⟩ := hnew
  have HF := Hid.mk (And.intro hJ' (And.intro hdu (And.intro (fun k hk => (hft k hk).imp id (fun h => Nat.le_trans hsz h)) (And.intro (hJf e' hft) (And.intro q3 hst)))))
  clear hJ' hdu hft hJf hst q3 q1 q2 st5 HK x0 y0 z0 z2 z4 hHeld
  rcases (show Dk.okE c = 45 ∨ Dk.okE c = 0 by unfold Dk.okE; split; exact .inl rfl; exact .inr rfl) with hE | hE
  · rw [hE]
    go_wp2
    go_ret
    exact ⟨45, rfl, hE.symm, ⟨e', HF.out.1, HF.out.2.1, HF.out.2.2.1⟩, HF.out.2.2.2.2.1, HF.out.2.2.2.2.2⟩
  · rw [hE]
    have st6 : Stay (fun k => k = j) w5 (w5.setCell ⟨j, 4, none⟩ (.int .i64 us)) := Stay.setCell (F := fun k => k = j) (p := ⟨j, 4, none⟩) (Stay.refl _ w5) (fun _ => rfl) _
    have hj6 : (w5.setCell ⟨j, 4, none⟩ (.int .i64 us)).heap[j]? = some (.cells (jV p age us sy) 72 (0, 0)) := by rw [heap_setCell_same w5 j 4 _ _ _ HF.out.2.2.2.2.1]; rfl
    have HG := Hid.mk (And.intro (HF.out.1.keep st6 (fun k hk e2 => HF.out.2.2.2.1 (by have e3 : k = j := e2; rw [← e3]; exact hk))) (And.intro hj6 (HF.out.2.2.2.2.2.trans (st6.mono (fun k _ h => .inr h)))))
    clear st6 hj6
    go_wp2
    go_ret
    exact ⟨0, rfl, hE.symm, ⟨e', HG.out.1, HF.out.2.1, HF.out.2.2.1⟩, HG.out.2.1, HG.out.2.2⟩
set_option maxHeartbeats 4000000 in
set_option maxRecDepth 100000 in
/-- Append of an update that goes: done, or refused for the power is off. -/
theorem app_any {w : World} {p mb j : Nat} {e : Ent} {c : Dk.Ctl} {D : List UInt8} {sy : Int} {la : Nat} {u : Up} (h : JS w p mb e c D) (hj : w.heap[j]? = some (.cells (jV p c.age la sy) 72 (0, 0))) (hjf : ¬ Dk.Foot p mb [e] j) (ht : Tab w) (hu : Gu u) (hs : u.s = la + 1) (hsz : D.length + 42 ≤ 16777216) (hla : la ≤ 1152921504606846976) (ho : c.off = false) :
    Calls Tryz.prog 10 #[Pt j, .agg (upV u)] w fun r w' => ∃ v : Int, r = .returned (.int .i64 v) ∧ (v = Dk.okE c ∧ (∃ e', JS w' p mb e' (Dk.tick c) (D ++ frU u) ∧ e'.du = e.du ∧ ∀ k, Dk.Foot p mb [e'] k → Dk.Foot p mb [e] k ∨ w.heap.size ≤ k) ∧ w'.heap[j]? = some (.cells (jV p c.age (if v = 0 then (u.s : Int) else la) sy) 72 (0, 0)) ∧ Stay (fun k => Dk.Foot p mb [e] k ∨ k = j) w w') := by
  obtain ⟨V, hV⟩ : ∃ V, V = (w.alloc (.cells #[Pt j] 26)).alloc (.cells (upV u) 32) := ⟨_, rfl⟩
  have b0 : Below w.heap.size w (w.alloc (.cells #[Pt j] 26)) := (Below.refl _ w).alloc (Nat.le_refl _) _
  have bV : Below w.heap.size w V := hV ▸ b0.alloc b0.size _
  have hs0 : (w.alloc (.cells #[Pt j] 26)).heap.size = w.heap.size + 1 := by simp
  have hbj : V.heap[w.heap.size]? = some (.cells #[Pt j] 26 (0, 0)) := by
    rw [hV]
    refine (((Below.refl _ (w.alloc (.cells #[Pt j] 26))).alloc (Nat.le_refl _) (.cells (upV u) 32)).block w.heap.size (by omega)).trans ?_
    exact heap_alloc_last w _
  have hbu : V.heap[w.heap.size + 1]? = some (.cells (upV u) 32 (0, 0)) := by
    rw [hV, ← hs0]
    exact heap_alloc_last _ _
  have hjV := (bV.block j (Array.getElem?_eq_some_iff.1 hj).1).trans hj
  have hJ := h.below bV
  have nf : ∀ k, w.heap.size ≤ k → ¬ Dk.Foot p mb [e] k := fun k hk hf => by have := h.dk.lt hf; omega
  have hd := app_do (hJ.below (b_drew V)) ho hjV hjf hbj (nf _ (Nat.le_refl _)) hbu (nf _ (by omega)) (ht.lat (chain bV (b_drew V) (Nat.le_refl _))) hu hs hsz hla
  have ha := att_any V hJ.dk hjV 29 #[Pt (w.heap.size + 1), Pt w.heap.size] (fun W => by rfl) _ (fun _ => hd) (fun h1 => absurd (ho.symm.trans h1) (by decide))
  have HB := Hid.mk (And.intro bV hV)
  clear hd hJ hjV hbu hbj hs0 b0 bV hs hsz hla ho ht hu hj hjf h nf
  dsimp only [upV] at HB ⊢
  go_enter Tryz.func10, Tryz.ntmps10
  go_wp2_with fail
  rw [← HB.out.2]
  refine ha.mono ?_
  clear ha
  rintro r w5 ⟨v, rfl, h1, ⟨e', h2, h3, h4⟩, h5, h6⟩
  have hb := HB.out.1
  have HF := Hid.mk (And.intro h1 (And.intro (show ∃ e', JS w5 p mb e' (Dk.tick c) (D ++ frU u) ∧ e'.du = e.du ∧ ∀ k, Dk.Foot p mb [e'] k → Dk.Foot p mb [e] k ∨ w.heap.size ≤ k from ⟨e', h2, h3, fun k hk => (h4 k hk).imp id (fun h => Nat.le_trans hb.size h)⟩) (And.intro h5 ((Stay.below (F := fun k => Dk.Foot p mb [e] k ∨ k = j) hb).trans h6.undrew))))
  clear h1 h2 h3 h4 h5 h6 hb
  go_wp2
  go_ret
  exact ⟨v, rfl, HF.out⟩
end Go.Proofs.YtcamnalmcghjfaaGreatDoor
