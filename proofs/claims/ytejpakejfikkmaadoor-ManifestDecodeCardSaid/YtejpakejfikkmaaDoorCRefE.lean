/-
  DERIVED. The document's own Decode: its walk.
-/
import Derived.Test.YtejpakejfikkmaaDoorCRefD
set_option linter.unusedVariables false
set_option linter.unusedSimpArgs false
namespace Go.Proofs.YtejpakejfikkmaaDoor
open Go.RowKit Go.Proofs.SealMath
theorem seven (l : List Nat) (h : l.length = 7) : ∃ h0 h1 h2 h3 h4 h5 h6, l = [h0, h1, h2, h3, h4, h5, h6] := by
  match l, h with
  | [a, b, c, d, e, f, g], _ => exact ⟨a, b, c, d, e, f, g, rfl⟩
def RDL (w V : World) (B g : Nat) (zs : List Int) (l : List Nat) (k : Nat) (u : Value) (wr : World) : Prop := ∃ (i p : Nat) (la : Option Addr) (c : Nat), u = .int .i64 (p : Int) ∧ i ≤ k ∧ Hid (p = 4 * i ∧ DB w V wr B g zs la i c (grp i l))
set_option maxHeartbeats 8000000 in
set_option maxRecDepth 100000 in
theorem rdecode_any (b : ByteArray) (w : World) (hb : b.size < 4611686018427387904) :
    Calls Tryd.prog 6 #[.string b] w (DeR w (dcM b)) := by
  obtain ⟨wa, hwa⟩ : ∃ wa, wa = w.alloc (.cells #[.int .i64 0, .int .i64 0, .int .i64 0, .int .i64 0, .int .i64 0, .int .i64 0, .slice none 0 0] 26) := ⟨_, rfl⟩
  have ba : Below w.heap.size w wa := by rw [hwa]; exact (Below.refl _ w).alloc (Nat.le_refl _) _
  have sza : wa.heap.size = w.heap.size + 1 := by rw [hwa]; simp
  have ZA : Zr wa w.heap.size := by rw [hwa]; exact heap_alloc_last w _
  have hwa' : w.alloc (.cells #[.int .i64 0, .int .i64 0, .int .i64 0, .int .i64 0, .int .i64 0, .int .i64 0, .slice none 0 0] 26) = wa := hwa.symm
  have cP0 := rparse_any b 0 wa hb
  rw [prA0] at cP0
  have hpay := pay_le b 0
  obtain ⟨K, l, NX, E, hps⟩ : ∃ K l NX E, psA b 0 = (K, l, NX, E) := ⟨_, _, _, _, rfl⟩
  rw [hps] at cP0 hpay
  simp only at cP0 hpay
  obtain ⟨P, hP⟩ : ∃ P : ByteArray, P = ⟨l.toArray⟩ := ⟨_, rfl⟩
  rw [← hP] at cP0 hpay
  have cP : Calls Tryd.prog 12 #[.string b, .int .i64 0] wa fun e w' => e = .returned (.tuple #[.int .i64 (K : Int), .string P, .int .i64 (NX : Int), .int .i64 E]) ∧ Below wa.heap.size wa w' := by
    refine cP0.mono ?_
    rintro e w' ⟨rfl, m, rfl⟩
    exact ⟨rfl, Drew.below ⟨m, rfl⟩ _⟩
  obtain ⟨X, hX⟩ : ∃ X, X = dcM b := ⟨_, rfl⟩
  rw [← hX]
  unfold dcM dcU at hX
  rw [hps] at hX
  simp only at hX
  rw [← hP, unP_unD] at hX
  have hPs : P.size < 4611686018427387904 := by omega
  have HZ := Hid.mk ZA
  clear hwa ZA cP0 hps hP
  by_cases hE : E ≠ 0
  · rw [if_pos hE] at hX
    simp only at hX
    subst hX
    have heb := ne_b hE
    clear hE
    go_enter Tryd.func6, Tryd.ntmps6
    go_wp2_with (go_at_call 12; refine cP.mono ?_; clear cP; rintro e w1 ⟨rfl, b1⟩; have Z1 : Zr w1 w.heap.size := (b1.block _ (by omega)).trans HZ.out; have bw1 := chain ba b1 (Nat.le_refl _); obtain ⟨c0, c1, c2, c3', c4, c5, c6, cf⟩ := zr_cells Z1)
    obtain ⟨W5, hW5, st5, o0, o1, o2, o3, o4, o5, o6⟩ := fin7 Z1 (.int .i64 0) (.int .i64 0) (.int .i64 0) (.int .i64 0) (.int .i64 0) (.int .i64 0) (.slice none 0 0)
    unfold set7 at hW5
    rw [hW5]
    refine bodyPost_ret (v := .tuple #[.agg #[.int .i64 0, .int .i64 0, .int .i64 0, .int .i64 0, .int .i64 0, .int .i64 0, .slice none 0 0], .int .i64 E]) (by simp [results, Tryd.results6, go_sem, o0, o1, o2, o3, o4, o5, o6]; try rfl) rfl ?_
    exact ⟨none, 0, rfl, World.ownsRow_nil _ _ _ _, (fun k hk => by cases hk), bw1.trans (st5.toBelow (B := w.heap.size) (fun k hk h => by (have h' : k = w.heap.size := h; omega)) bw1.size)⟩
  · have hE0 : E = 0 := by omega
    subst hE0
    rw [if_neg hE] at hX
    clear hE
    by_cases hN : NX ≠ b.size
    · rw [if_pos hN] at hX
      simp only at hX
      subst hX
      have hnb : ((NX : Int) != (b.size : Int)) = true := by simp [bne_iff_ne]; omega
      clear hN
      go_enter Tryd.func6, Tryd.ntmps6
      go_wp2_with (go_at_call 12; refine cP.mono ?_; clear cP; rintro e w1 ⟨rfl, b1⟩; have Z1 : Zr w1 w.heap.size := (b1.block _ (by omega)).trans HZ.out; have bw1 := chain ba b1 (Nat.le_refl _); obtain ⟨c0, c1, c2, c3', c4, c5, c6, cf⟩ := zr_cells Z1)
      obtain ⟨W5, hW5, st5, o0, o1, o2, o3, o4, o5, o6⟩ := fin7 Z1 (.int .i64 0) (.int .i64 0) (.int .i64 0) (.int .i64 0) (.int .i64 0) (.int .i64 0) (.slice none 0 0)
      unfold set7 at hW5
      rw [hW5]
      refine bodyPost_ret (v := .tuple #[.agg #[.int .i64 0, .int .i64 0, .int .i64 0, .int .i64 0, .int .i64 0, .int .i64 0, .slice none 0 0], .int .i64 37]) (by simp [results, Tryd.results6, go_sem, o0, o1, o2, o3, o4, o5, o6]; try rfl) rfl ?_
      exact ⟨none, 0, rfl, World.ownsRow_nil _ _ _ _, (fun k hk => by cases hk), bw1.trans (st5.toBelow (B := w.heap.size) (fun k hk h => by (have h' : k = w.heap.size := h; omega)) bw1.size)⟩
    · have hN0 : NX = b.size := by omega
      subst hN0
      rw [if_neg hN] at hX
      clear hN
      by_cases hK : K ≠ 3
      · rw [if_pos hK] at hX
        simp only at hX
        subst hX
        have hkb : ((K : Int) != 3) = true := by simp [bne_iff_ne]; omega
        clear hK
        go_enter Tryd.func6, Tryd.ntmps6
        go_wp2_with (go_at_call 12; refine cP.mono ?_; clear cP; rintro e w1 ⟨rfl, b1⟩; have Z1 : Zr w1 w.heap.size := (b1.block _ (by omega)).trans HZ.out; have bw1 := chain ba b1 (Nat.le_refl _); obtain ⟨c0, c1, c2, c3', c4, c5, c6, cf⟩ := zr_cells Z1)
        obtain ⟨W5, hW5, st5, o0, o1, o2, o3, o4, o5, o6⟩ := fin7 Z1 (.int .i64 0) (.int .i64 0) (.int .i64 0) (.int .i64 0) (.int .i64 0) (.int .i64 0) (.slice none 0 0)
        unfold set7 at hW5
        rw [hW5]
        refine bodyPost_ret (v := .tuple #[.agg #[.int .i64 0, .int .i64 0, .int .i64 0, .int .i64 0, .int .i64 0, .int .i64 0, .slice none 0 0], .int .i64 35]) (by simp [results, Tryd.results6, go_sem, o0, o1, o2, o3, o4, o5, o6]; try rfl) rfl ?_
        exact ⟨none, 0, rfl, World.ownsRow_nil _ _ _ _, (fun k hk => by cases hk), bw1.trans (st5.toBelow (B := w.heap.size) (fun k hk h => by (have h' : k = w.heap.size := h; omega)) bw1.size)⟩
      · have hK0 : K = 3 := by omega
        subst hK0
        rw [if_neg hK] at hX
        clear hK
        have cS0 : ∀ W, Calls Tryd.prog 13 #[.string P, .int .i64 0, .int .i64 7] W (SevR W (rd P MX 7 0)) := fun W => several_any P 0 7 W hPs (by omega)
        unfold unD at hX
        cases hr : rd P MX 7 0 with
        | error er =>
          rw [hr] at hX cS0
          simp only at hX
          subst hX
          have heb := ne_b (rd_err hr)
          have cS : ∀ W, Calls Tryd.prog 13 #[.string P, .int .i64 0, .int .i64 7] W fun e w' => e = .returned (.tuple #[.slice none 0 0, .int .i64 0, .int .i64 er]) ∧ Below W.heap.size W w' := fun W => by
            refine (cS0 W).mono ?_
            rintro e w' ⟨bb, ⟨er', h1, rfl⟩ | ⟨_, _, _, _, h1, -⟩⟩
            · cases h1; exact ⟨rfl, bb⟩
            · cases h1
          clear cS0 hr
          go_enter Tryd.func6, Tryd.ntmps6
          go_wp2_with first
            | (go_at_call 12; refine cP.mono ?_; clear cP; rintro e w1 ⟨rfl, b1⟩; have Z1 : Zr w1 w.heap.size := (b1.block _ (by omega)).trans HZ.out; have bw1 := chain ba b1 (Nat.le_refl _))
            | (go_at_call 13; refine (cS w1).mono ?_; clear cS; rintro e w2 ⟨rfl, b2⟩; have Z2 : Zr w2 w.heap.size := (b2.block _ (Array.getElem?_eq_some_iff.1 Z1).1).trans Z1; have bw2 := chain bw1 b2 (Nat.le_refl _); obtain ⟨c0, c1, c2, c3', c4, c5, c6, cf⟩ := zr_cells Z2)
          obtain ⟨W5, hW5, st5, o0, o1, o2, o3, o4, o5, o6⟩ := fin7 Z2 (.int .i64 0) (.int .i64 0) (.int .i64 0) (.int .i64 0) (.int .i64 0) (.int .i64 0) (.slice none 0 0)
          unfold set7 at hW5
          rw [hW5]
          refine bodyPost_ret (v := .tuple #[.agg #[.int .i64 0, .int .i64 0, .int .i64 0, .int .i64 0, .int .i64 0, .int .i64 0, .slice none 0 0], .int .i64 er]) (by simp [results, Tryd.results6, go_sem, o0, o1, o2, o3, o4, o5, o6]; try rfl) rfl ?_
          exact ⟨none, 0, rfl, World.ownsRow_nil _ _ _ _, (fun k hk => by cases hk), bw2.trans (st5.toBelow (B := w.heap.size) (fun k hk h => by (have h' : k = w.heap.size := h; omega)) bw2.size)⟩
        | ok z =>
          obtain ⟨h, q⟩ := z
          have hq : q ≤ P.size := rd_place (Nat.zero_le _) hr
          obtain ⟨h0, h1, h2, h3, h4, h5, h6, rfl⟩ := seven h (rd_len hr).1
          have hle := (rd_len hr).2
          rw [hr] at hX cS0
          simp only at hX
          have e6 : [h0, h1, h2, h3, h4, h5, h6].getD 6 0 = h6 := rfl
          rw [e6] at hX
          have cS : ∀ W, Calls Tryd.prog 13 #[.string P, .int .i64 0, .int .i64 7] W fun e w' => ∃ a c, e = .returned (.tuple #[.slice a 7 c, .int .i64 (q : Int), .int .i64 0]) ∧ w'.ownsRow 0 3 1 (.slice a 7 c) [h0, h1, h2, h3, h4, h5, h6].length ([h0, h1, h2, h3, h4, h5, h6].map natV) ∧ Below W.heap.size W w' := fun W => by
            refine (cS0 W).mono ?_
            rintro e w' ⟨bb, ⟨er', h1, rfl⟩ | ⟨_, _, a, c, h1, rfl, ow⟩⟩
            · cases h1
            · cases h1; exact ⟨a, c, rfl, ow, bb⟩
          clear cS0 hr e6
          by_cases h24 : 24 < h6
          · rw [if_pos h24] at hX
            simp only at hX
            subst hX
            have h24' : (24 : Int) < (h6 : Int) := by omega
            clear h24
            go_enter Tryd.func6, Tryd.ntmps6
            go_wp2_with first
              | (go_at_call 12; refine cP.mono ?_; clear cP; rintro e w1 ⟨rfl, b1⟩; have Z1 : Zr w1 w.heap.size := (b1.block _ (by omega)).trans HZ.out; have bw1 := chain ba b1 (Nat.le_refl _))
              | (go_at_call 13; refine (cS w1).mono ?_; clear cS; rintro e w2 ⟨a, c, rfl, ow2, b2⟩; have Z2 : Zr w2 w.heap.size := (b2.block _ (Array.getElem?_eq_some_iff.1 Z1).1).trans Z1; have bw2 := chain bw1 b2 (Nat.le_refl _); obtain ⟨g, rfl, x6, hc7⟩ := nat_cell ow2 rfl (j := 6) rfl; obtain ⟨c0, c1, c2, c3', c4, c5, c6, cf⟩ := zr_cells Z2)
            obtain ⟨W5, hW5, st5, o0, o1, o2, o3, o4, o5, o6⟩ := fin7 Z2 (.int .i64 0) (.int .i64 0) (.int .i64 0) (.int .i64 0) (.int .i64 0) (.int .i64 0) (.slice none 0 0)
            unfold set7 at hW5
            rw [hW5]
            refine bodyPost_ret (v := .tuple #[.agg #[.int .i64 0, .int .i64 0, .int .i64 0, .int .i64 0, .int .i64 0, .int .i64 0, .slice none 0 0], .int .i64 80]) (by simp [results, Tryd.results6, go_sem, o0, o1, o2, o3, o4, o5, o6]; try rfl) rfl ?_
            exact ⟨none, 0, rfl, World.ownsRow_nil _ _ _ _, (fun k hk => by cases hk), bw2.trans (st5.toBelow (B := w.heap.size) (fun k hk h => by (have h' : k = w.heap.size := h; omega)) bw2.size)⟩
          · rw [if_neg h24] at hX
            have h24' : ¬ (24 : Int) < (h6 : Int) := by omega
            have h24n : h6 ≤ 24 := by omega
            have hw4 : IntKind.i64.wrap (4 * (h6 : Int)) = ((4 * h6 : Nat) : Int) := by rw [IntKind.wrap_i64]; omega
            obtain ⟨n4, hn4⟩ : ∃ n4, n4 = 4 * h6 := ⟨_, rfl⟩
            rw [← hn4] at hw4 hX
            clear h24
            have cT0 : ∀ W, Calls Tryd.prog 13 #[.string P, .int .i64 (q : Int), .int .i64 (n4 : Int)] W (SevR W (rd P MX n4 q)) := fun W => several_any P q n4 W hPs (by omega)
            cases hr2 : rd P MX n4 q with
            | error er =>
              rw [hr2] at hX cT0
              simp only at hX
              subst hX
              have heb := ne_b (rd_err hr2)
              have cT : ∀ W, Calls Tryd.prog 13 #[.string P, .int .i64 (q : Int), .int .i64 (n4 : Int)] W fun e w' => e = .returned (.tuple #[.slice none 0 0, .int .i64 0, .int .i64 er]) ∧ Below W.heap.size W w' := fun W => by
                refine (cT0 W).mono ?_
                rintro e w' ⟨bb, ⟨er', h1, rfl⟩ | ⟨_, _, _, _, h1, -⟩⟩
                · cases h1; exact ⟨rfl, bb⟩
                · cases h1
              clear cT0 hr2 hn4 hle
              go_enter Tryd.func6, Tryd.ntmps6
              go_wp2_with first
                | (go_at_call 12; refine cP.mono ?_; clear cP; rintro e w1 ⟨rfl, b1⟩; have Z1 : Zr w1 w.heap.size := (b1.block _ (by omega)).trans HZ.out; have bw1 := chain ba b1 (Nat.le_refl _))
                | (go_at_call 13; refine (cS w1).mono ?_; clear cS; rintro e w2 ⟨a, c, rfl, ow2, b2⟩; have Z2 : Zr w2 w.heap.size := (b2.block _ (Array.getElem?_eq_some_iff.1 Z1).1).trans Z1; have bw2 := chain bw1 b2 (Nat.le_refl _); obtain ⟨g, rfl, x6, hc7⟩ := nat_cell ow2 rfl (j := 6) rfl)
                | (go_at_call 13; refine (cT w2).mono ?_; clear cT; rintro e w3 ⟨rfl, b3⟩; have Z3 : Zr w3 w.heap.size := (b3.block _ (Array.getElem?_eq_some_iff.1 Z2).1).trans Z2; have bw3 := chain bw2 b3 (Nat.le_refl _); obtain ⟨c0, c1, c2, c3', c4, c5, c6, cf⟩ := zr_cells Z3)
              obtain ⟨W5, hW5, st5, o0, o1, o2, o3, o4, o5, o6⟩ := fin7 Z3 (.int .i64 0) (.int .i64 0) (.int .i64 0) (.int .i64 0) (.int .i64 0) (.int .i64 0) (.slice none 0 0)
              unfold set7 at hW5
              rw [hW5]
              refine bodyPost_ret (v := .tuple #[.agg #[.int .i64 0, .int .i64 0, .int .i64 0, .int .i64 0, .int .i64 0, .int .i64 0, .slice none 0 0], .int .i64 er]) (by simp [results, Tryd.results6, go_sem, o0, o1, o2, o3, o4, o5, o6]; try rfl) rfl ?_
              exact ⟨none, 0, rfl, World.ownsRow_nil _ _ _ _, (fun k hk => by cases hk), bw3.trans (st5.toBelow (B := w.heap.size) (fun k hk h => by (have h' : k = w.heap.size := h; omega)) bw3.size)⟩
            | ok z2 =>
              obtain ⟨l2, q2⟩ := z2
              have hl2 := (rd_len hr2).1
              have hle2 := (rd_len hr2).2
              rw [hr2] at hX cT0
              simp only at hX
              have cT : ∀ W, Calls Tryd.prog 13 #[.string P, .int .i64 (q : Int), .int .i64 (n4 : Int)] W fun e w' => ∃ a c, e = .returned (.tuple #[.slice a n4 c, .int .i64 (q2 : Int), .int .i64 0]) ∧ w'.ownsRow 0 3 1 (.slice a n4 c) l2.length (l2.map natV) ∧ Below W.heap.size W w' := fun W => by
                refine (cT0 W).mono ?_
                rintro e w' ⟨bb, ⟨er', h1, rfl⟩ | ⟨_, _, a, c, h1, rfl, ow⟩⟩
                · cases h1
                · cases h1; rw [hl2] at ow ⊢; exact ⟨a, c, rfl, ow, bb⟩
              clear cT0 hr2
              by_cases hq2 : q2 = P.size
              · rw [if_pos hq2] at hX
                subst hq2
                simp only at hX
                have HX := Hid.mk (And.intro hX (And.intro hl2 (And.intro hn4 (And.intro hle hle2))))
                clear hX hl2 hn4 hle hle2
                go_enter Tryd.func6, Tryd.ntmps6
                go_wp2_with first
                  | (go_at_call 12; refine cP.mono ?_; clear cP; rintro e w1 ⟨rfl, b1⟩; have Z1 : Zr w1 w.heap.size := (b1.block _ (by omega)).trans HZ.out; have bw1 := chain ba b1 (Nat.le_refl _))
                  | (go_at_call 13; refine (cS w1).mono ?_; clear cS; rintro e w2 ⟨a, c, rfl, ow2, b2⟩; have Z2 : Zr w2 w.heap.size := (b2.block _ (Array.getElem?_eq_some_iff.1 Z1).1).trans Z1; have bw2 := chain bw1 b2 (Nat.le_refl _); obtain ⟨g, rfl, x6, hc7⟩ := nat_cell ow2 rfl (j := 6) rfl)
                  | (go_at_call 13; refine (cT w2).mono ?_; clear cT; rintro e w3 ⟨a3, c3, rfl, ow3, b3⟩; have Z3 : Zr w3 w.heap.size := (b3.block _ (Array.getElem?_eq_some_iff.1 Z2).1).trans Z2; have bw3 := chain bw2 b3 (Nat.le_refl _))
                have ow2' := row_kept (F := fun _ => False) ow2 (.below b3) (fun _ _ h => h)
                obtain ⟨g', e0, x0, -⟩ := nat_cell ow2' rfl (j := 0) rfl
                cases e0
                obtain ⟨g', e0, x1, -⟩ := nat_cell ow2' rfl (j := 1) rfl
                cases e0
                obtain ⟨g', e0, x2, -⟩ := nat_cell ow2' rfl (j := 2) rfl
                cases e0
                obtain ⟨g', e0, x3, -⟩ := nat_cell ow2' rfl (j := 3) rfl
                cases e0
                obtain ⟨g', e0, x4, -⟩ := nat_cell ow2' rfl (j := 4) rfl
                cases e0
                obtain ⟨g', e0, x5, -⟩ := nat_cell ow2' rfl (j := 5) rfl
                cases e0
                have HW := Hid.mk (And.intro ow3 (And.intro Z3 bw3))
                clear ow2 ow2' ow3 Z1 Z2 Z3 bw1 bw2 bw3 b1 b2 b3 x6
                go_region_held (fun w' => w'.cell? ⟨g, 0, none⟩ = some (.int .i64 (h0 : Int)) ∧ w'.cell? ⟨g, 1, none⟩ = some (.int .i64 (h1 : Int)) ∧ w'.cell? ⟨g, 2, none⟩ = some (.int .i64 (h2 : Int)) ∧ w'.cell? ⟨g, 3, none⟩ = some (.int .i64 (h3 : Int)) ∧ w'.cell? ⟨g, 4, none⟩ = some (.int .i64 (h4 : Int)) ∧ w'.cell? ⟨g, 5, none⟩ = some (.int .i64 (h5 : Int)))
                  (go_keep) (fail)
                rename_i hH
                clear hH x0 x1 x2 x3 x4 x5
                have D0 : Hid (DB w w3 (w3.alloc (.cells #[.int .i64 (h0 : Int), .int .i64 (h1 : Int), .int .i64 (h2 : Int), .int .i64 (h3 : Int), .int .i64 (h4 : Int), .int .i64 (h5 : Int), .slice none 0 0] 26)).drew (w3.heap.size + 1) w3.heap.size [(h0 : Int), (h1 : Int), (h2 : Int), (h3 : Int), (h4 : Int), (h5 : Int)] none 0 0 []) := by
                  have bA : Below w3.heap.size w3 (w3.alloc (.cells #[.int .i64 (h0 : Int), .int .i64 (h1 : Int), .int .i64 (h2 : Int), .int .i64 (h3 : Int), .int .i64 (h4 : Int), .int .i64 (h5 : Int), .slice none 0 0] 26)).drew := ((Below.refl _ w3).alloc (Nat.le_refl _) _).drew
                  have hz := (Array.getElem?_eq_some_iff.1 HW.out.2.1).1
                  exact ⟨heap_alloc_last w3 _, World.ownsRow_nil _ _ _ _, (fun k hk => by cases hk), (bA.block _ hz).trans HW.out.2.1, HW.out.2.2.trans (bA.mono HW.out.2.2.size), by omega, hz, by simp, rfl, bA, Nat.le_refl _⟩
                generalize (w3.alloc (.cells #[.int .i64 (h0 : Int), .int .i64 (h1 : Int), .int .i64 (h2 : Int), .int .i64 (h3 : Int), .int .i64 (h4 : Int), .int .i64 (h5 : Int), .slice none 0 0] 26)).drew = W4 at D0 ⊢
                go_wp2
                go_loopw [15] (fun u wr => RDL w w3 (w3.heap.size + 1) w3.heap.size [(h0 : Int), (h1 : Int), (h2 : Int), (h3 : Int), (h4 : Int), (h5 : Int)] l2 h6 u wr) (fun u _ => n4 - (intOf u).toNat)
                case atStart => exact ⟨0, 0, none, 0, rfl, Nat.zero_le _, rfl, D0.out⟩
                case round =>
                  clear D0
                  obtain ⟨i, p, la, c4, rfl, hi, HD0⟩ := hrel
                  have hp := HD0.out.1
                  have HD := Hid.mk HD0.out.2
                  clear HD0
                  by_cases hlt : i < h6
                  · have hn4 := HX.out.2.2.1
                    have hl2 := HX.out.2.1
                    have p0 : (0 : Int) ≤ (p : Int) := by omega
                    have p1 : (p : Int) < (n4 : Int) := by omega
                    obtain ⟨a1, ha1⟩ : ∃ a, a = p + 1 := ⟨_, rfl⟩
                    have hw1 : IntKind.i64.wrap ((p : Int) + 1) = (a1 : Int) := by rw [IntKind.wrap_i64]; omega
                    have hz1 : (0 : Int) ≤ (a1 : Int) := by omega
                    obtain ⟨a2, ha2⟩ : ∃ a, a = p + 2 := ⟨_, rfl⟩
                    have hw2 : IntKind.i64.wrap ((p : Int) + 2) = (a2 : Int) := by rw [IntKind.wrap_i64]; omega
                    have hz2 : (0 : Int) ≤ (a2 : Int) := by omega
                    obtain ⟨a3, ha3⟩ : ∃ a, a = p + 3 := ⟨_, rfl⟩
                    have hw3 : IntKind.i64.wrap ((p : Int) + 3) = (a3 : Int) := by rw [IntKind.wrap_i64]; omega
                    have hz3 : (0 : Int) ≤ (a3 : Int) := by omega
                    have hw4' : IntKind.i64.wrap ((p : Int) + 4) = ((p + 4 : Nat) : Int) := by rw [IntKind.wrap_i64]; omega
                    have q1 : (a1 : Int) < (n4 : Int) := by omega
                    have q2 : (a2 : Int) < (n4 : Int) := by omega
                    have q3 : (a3 : Int) < (n4 : Int) := by omega
                    obtain ⟨x0, hx0⟩ : ∃ x, l2[p]? = some x := ⟨_, List.getElem?_eq_getElem (by omega)⟩
                    obtain ⟨x1, hx1⟩ : ∃ x, l2[a1]? = some x := ⟨_, List.getElem?_eq_getElem (by omega)⟩
                    obtain ⟨x2, hx2⟩ : ∃ x, l2[a2]? = some x := ⟨_, List.getElem?_eq_getElem (by omega)⟩
                    obtain ⟨x3, hx3⟩ : ∃ x, l2[a3]? = some x := ⟨_, List.getElem?_eq_getElem (by omega)⟩
                    have owr := row_kept (F := fun _ => False) HW.out.1 (.below HD.out.bv) (fun _ _ h => h)
                    obtain ⟨gl, e0, y0, -⟩ := nat_cell owr hl2.symm hx0
                    subst e0
                    obtain ⟨g', e0, y1, -⟩ := nat_cell owr hl2.symm hx1
                    cases e0
                    obtain ⟨g', e0, y2, -⟩ := nat_cell owr hl2.symm hx2
                    cases e0
                    obtain ⟨g', e0, y3, -⟩ := nat_cell owr hl2.symm hx3
                    cases e0
                    obtain ⟨la', c', w6, hap0, m6, f6, v6, D6⟩ := (HD.out.lat (b_drew wr)).step (run := ⟨(x0 : Int), (x1 : Int), (x2 : Int), (x3 : Int)⟩) (by omega)
                    have HN : Hid (RDL w w3 (w3.heap.size + 1) w3.heap.size [(h0 : Int), (h1 : Int), (h2 : Int), (h3 : Int), (h4 : Int), (h5 : Int)] l2 h6 (.int .i64 ((p + 4 : Nat) : Int)) (w6.setCell ⟨w3.heap.size, 6, none⟩ (.slice la' (i + 1) c'))) := by
                      refine ⟨i + 1, p + 4, la', c', rfl, hlt, by omega, ?_⟩
                      rw [grp_succ, ← hp, ruOf_at hx0 (by rw [← ha1]; exact hx1) (by rw [← ha2]; exact hx2) (by rw [← ha3]; exact hx3)]
                      exact D6
                    have m0 := HD.out.mb.cell6 rfl
                    have hbx : w3.heap.size < wr.heap.size := HD.out.mb.lt
                    have mA : ∀ o, (wr.alloc o).cell? ⟨w3.heap.size, 6, none⟩ = some (.slice la i c4) := fun o => cell_lat ((Below.refl _ wr).alloc (Nat.le_refl _) o) m0
                    have hap : (Builtin.append_ #[24, 24] 24 #[.slice la i c4, .slice (some ⟨wr.heap.size, 0, none⟩) 1 1]).run Tryd.prog (wr.drew.alloc (.cells #[.int .i64 (x0 : Int), .int .i64 (x1 : Int), .int .i64 (x2 : Int), .int .i64 (x3 : Int)] 36)) = .ok (.slice la' (i + 1) c') w6 := hap0
                    obtain ⟨i', hi'⟩ : ∃ i', i' = i + 1 := ⟨_, rfl⟩
                    have v7 := D6.bv
                    rw [← hi'] at hap HN v7
                    have bv0 : Below w3.heap.size w3 wr.drew := HD.out.bv.drew
                    have bvA : ∀ o, Below w3.heap.size w3 (wr.drew.alloc o) := fun o => bv0.alloc bv0.size o
                    have SS : ∀ W, Below w3.heap.size w3 W → W.cell? ⟨gl, p, none⟩ = some (.int .i64 (x0 : Int)) ∧ W.cell? ⟨gl, a1, none⟩ = some (.int .i64 (x1 : Int)) ∧ W.cell? ⟨gl, a2, none⟩ = some (.int .i64 (x2 : Int)) ∧ W.cell? ⟨gl, a3, none⟩ = some (.int .i64 (x3 : Int)) := fun W hW => by
                      have owW := row_kept (F := fun _ => False) HW.out.1 (.below hW) (fun _ _ h => h)
                      obtain ⟨g', e0, z0, -⟩ := nat_cell owW hl2.symm hx0
                      cases e0
                      obtain ⟨g', e0, z1, -⟩ := nat_cell owW hl2.symm hx1
                      cases e0
                      obtain ⟨g', e0, z2, -⟩ := nat_cell owW hl2.symm hx2
                      cases e0
                      obtain ⟨g', e0, z3, -⟩ := nat_cell owW hl2.symm hx3
                      cases e0
                      exact ⟨z0, z1, z2, z3⟩
                    clear D6 HD owr hx0 hx1 hx2 hx3 hi' hbx hn4 hl2 hap0 hp ha1 ha2 ha3
                    go_wp2
                    refine wp_region_held_drew (S := fun w' => w'.cell? ⟨gl, p, none⟩ = some (.int .i64 (x0 : Int)) ∧ w'.cell? ⟨gl, a1, none⟩ = some (.int .i64 (x1 : Int)) ∧ w'.cell? ⟨gl, a2, none⟩ = some (.int .i64 (x2 : Int)) ∧ w'.cell? ⟨gl, a3, none⟩ = some (.int .i64 (x3 : Int))) (by kernel_rfl) ?_ (fun hHeld => ?_)
                    · exact SS _ bv0
                    refine wpAnyH_take (i := 0) (oi := { dst := some 96, op := Op.fieldAddr 26 (Operand.tmp 14) 4, type := 0, pos := "manifest.go:153", after := #[], guard := none }) (v := ?vt0) rfl (by kernel_rfl) (by kernel_rfl) (by kernel_rfl) (fun _ _ _ h => h) (Or.inl ⟨by rfl, ?ht0⟩) (by assumption) ?rt0
                    case ht0 => (intro w0 hSw; (try dsimp only at hSw); go_simp; first | done | (with_reducible rfl) | (rw [if_pos (by omega)]; try (with_reducible rfl)))
                    simp only [Act.put, List.setIfInBounds_toArray, List.set_cons_zero, List.set_cons_succ]
                    refine wpAnyH_take (i := 2) (oi := { dst := some 98, op := Op.move (Operand.tmp 11), type := 44, pos := "manifest.go:153", after := #[], guard := none }) (v := ?vt2) rfl (by kernel_rfl) (by kernel_rfl) (by kernel_rfl) (fun _ _ _ h => h) (Or.inl ⟨by rfl, ?ht2⟩) (by assumption) ?rt2
                    case ht2 => (intro w0 hSw; (try dsimp only at hSw); go_simp; first | done | (with_reducible rfl) | (rw [if_pos (by omega)]; try (with_reducible rfl)))
                    simp only [Act.put, List.setIfInBounds_toArray, List.set_cons_zero, List.set_cons_succ]
                    refine wpAnyH_take (i := 3) (oi := { dst := some 99, op := Op.move (Operand.tmp 15), type := 3, pos := "manifest.go:153", after := #[], guard := none }) (v := ?vt3) rfl (by kernel_rfl) (by kernel_rfl) (by kernel_rfl) (fun _ _ _ h => h) (Or.inl ⟨by rfl, ?ht3⟩) (by assumption) ?rt3
                    case ht3 => (intro w0 hSw; (try dsimp only at hSw); go_simp; first | done | (with_reducible rfl) | (rw [if_pos (by omega)]; try (with_reducible rfl)))
                    simp only [Act.put, List.setIfInBounds_toArray, List.set_cons_zero, List.set_cons_succ]
                    refine wpAnyH_take (i := 4) (oi := { dst := some 100, op := Op.indexAddr 44 (Operand.tmp 98) (Operand.tmp 99), type := 0, pos := "manifest.go:153", after := #[{ on := 2, ground := Ground.data }, { on := 3, ground := Ground.data }], guard := none }) (v := ?vt4) rfl (by kernel_rfl) (by kernel_rfl) (by kernel_rfl) (fun _ _ _ h => h) (Or.inl ⟨by rfl, ?ht4⟩) (by assumption) ?rt4
                    case ht4 => (intro w0 hSw; (try dsimp only at hSw); go_simp; first | done | (with_reducible rfl) | (rw [if_pos (by omega)]; try (with_reducible rfl)))
                    simp only [Act.put, List.setIfInBounds_toArray, List.set_cons_zero, List.set_cons_succ]
                    refine wpAnyH_take (i := 5) (oi := { dst := some 101, op := Op.load 3 (Operand.tmp 100), type := 3, pos := "manifest.go:153", after := #[{ on := 4, ground := Ground.data }], guard := none }) (v := ?vt5) rfl (by kernel_rfl) (by kernel_rfl) (by kernel_rfl) (fun _ _ _ h => h) (Or.inl ⟨by rfl, ?ht5⟩) (by assumption) ?rt5
                    case ht5 => (intro w0 hSw; (try dsimp only at hSw); go_simp; first | done | (with_reducible rfl) | (rw [if_pos (by omega)]; try (with_reducible rfl)))
                    simp only [Act.put, List.setIfInBounds_toArray, List.set_cons_zero, List.set_cons_succ]
                    refine wpAnyH_take (i := 6) (oi := { dst := some 102, op := Op.move (Operand.tmp 11), type := 44, pos := "manifest.go:153", after := #[], guard := none }) (v := ?vt6) rfl (by kernel_rfl) (by kernel_rfl) (by kernel_rfl) (fun _ _ _ h => h) (Or.inl ⟨by rfl, ?ht6⟩) (by assumption) ?rt6
                    case ht6 => (intro w0 hSw; (try dsimp only at hSw); go_simp; first | done | (with_reducible rfl) | (rw [if_pos (by omega)]; try (with_reducible rfl)))
                    simp only [Act.put, List.setIfInBounds_toArray, List.set_cons_zero, List.set_cons_succ]
                    refine wpAnyH_take (i := 7) (oi := { dst := some 103, op := Op.move (Operand.tmp 15), type := 3, pos := "manifest.go:153", after := #[], guard := none }) (v := ?vt7) rfl (by kernel_rfl) (by kernel_rfl) (by kernel_rfl) (fun _ _ _ h => h) (Or.inl ⟨by rfl, ?ht7⟩) (by assumption) ?rt7
                    case ht7 => (intro w0 hSw; (try dsimp only at hSw); go_simp; first | done | (with_reducible rfl) | (rw [if_pos (by omega)]; try (with_reducible rfl)))
                    simp only [Act.put, List.setIfInBounds_toArray, List.set_cons_zero, List.set_cons_succ]
                    refine wpAnyH_take (i := 8) (oi := { dst := some 104, op := Op.binOp BinOp.add 3 (Operand.tmp 103) (Operand.const (Value.int IntKind.i64 1)) 3, type := 3, pos := "manifest.go:153", after := #[{ on := 7, ground := Ground.data }], guard := none }) (v := ?vt8) rfl (by kernel_rfl) (by kernel_rfl) (by kernel_rfl) (fun _ _ _ h => h) (Or.inl ⟨by rfl, ?ht8⟩) (by assumption) ?rt8
                    case ht8 => (intro w0 hSw; (try dsimp only at hSw); go_simp; first | done | (with_reducible rfl) | (rw [if_pos (by omega)]; try (with_reducible rfl)))
                    simp only [Act.put, List.setIfInBounds_toArray, List.set_cons_zero, List.set_cons_succ]
                    refine wpAnyH_take (i := 9) (oi := { dst := some 105, op := Op.indexAddr 44 (Operand.tmp 102) (Operand.tmp 104), type := 0, pos := "manifest.go:153", after := #[{ on := 6, ground := Ground.data }, { on := 8, ground := Ground.data }], guard := none }) (v := ?vt9) rfl (by kernel_rfl) (by kernel_rfl) (by kernel_rfl) (fun _ _ _ h => h) (Or.inl ⟨by rfl, ?ht9⟩) (by assumption) ?rt9
                    case ht9 => (intro w0 hSw; (try dsimp only at hSw); go_simp; first | done | (with_reducible rfl) | (rw [if_pos (by omega)]; try (with_reducible rfl)))
                    simp only [Act.put, List.setIfInBounds_toArray, List.set_cons_zero, List.set_cons_succ]
                    refine wpAnyH_take (i := 10) (oi := { dst := some 106, op := Op.load 3 (Operand.tmp 105), type := 3, pos := "manifest.go:153", after := #[{ on := 9, ground := Ground.data }], guard := none }) (v := ?vt10) rfl (by kernel_rfl) (by kernel_rfl) (by kernel_rfl) (fun _ _ _ h => h) (Or.inl ⟨by rfl, ?ht10⟩) (by assumption) ?rt10
                    case ht10 => (intro w0 hSw; (try dsimp only at hSw); go_simp; first | done | (with_reducible rfl) | (rw [if_pos (by omega)]; try (with_reducible rfl)))
                    simp only [Act.put, List.setIfInBounds_toArray, List.set_cons_zero, List.set_cons_succ]
                    refine wpAnyH_take (i := 11) (oi := { dst := some 107, op := Op.move (Operand.tmp 11), type := 44, pos := "manifest.go:153", after := #[], guard := none }) (v := ?vt11) rfl (by kernel_rfl) (by kernel_rfl) (by kernel_rfl) (fun _ _ _ h => h) (Or.inl ⟨by rfl, ?ht11⟩) (by assumption) ?rt11
                    case ht11 => (intro w0 hSw; (try dsimp only at hSw); go_simp; first | done | (with_reducible rfl) | (rw [if_pos (by omega)]; try (with_reducible rfl)))
                    simp only [Act.put, List.setIfInBounds_toArray, List.set_cons_zero, List.set_cons_succ]
                    refine wpAnyH_take (i := 12) (oi := { dst := some 108, op := Op.move (Operand.tmp 15), type := 3, pos := "manifest.go:153", after := #[], guard := none }) (v := ?vt12) rfl (by kernel_rfl) (by kernel_rfl) (by kernel_rfl) (fun _ _ _ h => h) (Or.inl ⟨by rfl, ?ht12⟩) (by assumption) ?rt12
                    case ht12 => (intro w0 hSw; (try dsimp only at hSw); go_simp; first | done | (with_reducible rfl) | (rw [if_pos (by omega)]; try (with_reducible rfl)))
                    simp only [Act.put, List.setIfInBounds_toArray, List.set_cons_zero, List.set_cons_succ]
                    refine wpAnyH_take (i := 13) (oi := { dst := some 109, op := Op.binOp BinOp.add 3 (Operand.tmp 108) (Operand.const (Value.int IntKind.i64 2)) 3, type := 3, pos := "manifest.go:153", after := #[{ on := 12, ground := Ground.data }], guard := none }) (v := ?vt13) rfl (by kernel_rfl) (by kernel_rfl) (by kernel_rfl) (fun _ _ _ h => h) (Or.inl ⟨by rfl, ?ht13⟩) (by assumption) ?rt13
                    case ht13 => (intro w0 hSw; (try dsimp only at hSw); go_simp; first | done | (with_reducible rfl) | (rw [if_pos (by omega)]; try (with_reducible rfl)))
                    simp only [Act.put, List.setIfInBounds_toArray, List.set_cons_zero, List.set_cons_succ]
                    refine wpAnyH_take (i := 14) (oi := { dst := some 110, op := Op.indexAddr 44 (Operand.tmp 107) (Operand.tmp 109), type := 0, pos := "manifest.go:153", after := #[{ on := 11, ground := Ground.data }, { on := 13, ground := Ground.data }], guard := none }) (v := ?vt14) rfl (by kernel_rfl) (by kernel_rfl) (by kernel_rfl) (fun _ _ _ h => h) (Or.inl ⟨by rfl, ?ht14⟩) (by assumption) ?rt14
                    case ht14 => (intro w0 hSw; (try dsimp only at hSw); go_simp; first | done | (with_reducible rfl) | (rw [if_pos (by omega)]; try (with_reducible rfl)))
                    simp only [Act.put, List.setIfInBounds_toArray, List.set_cons_zero, List.set_cons_succ]
                    refine wpAnyH_take (i := 15) (oi := { dst := some 111, op := Op.load 3 (Operand.tmp 110), type := 3, pos := "manifest.go:153", after := #[{ on := 14, ground := Ground.data }], guard := none }) (v := ?vt15) rfl (by kernel_rfl) (by kernel_rfl) (by kernel_rfl) (fun _ _ _ h => h) (Or.inl ⟨by rfl, ?ht15⟩) (by assumption) ?rt15
                    case ht15 => (intro w0 hSw; (try dsimp only at hSw); go_simp; first | done | (with_reducible rfl) | (rw [if_pos (by omega)]; try (with_reducible rfl)))
                    simp only [Act.put, List.setIfInBounds_toArray, List.set_cons_zero, List.set_cons_succ]
                    refine wpAnyH_take (i := 16) (oi := { dst := some 112, op := Op.move (Operand.tmp 11), type := 44, pos := "manifest.go:153", after := #[], guard := none }) (v := ?vt16) rfl (by kernel_rfl) (by kernel_rfl) (by kernel_rfl) (fun _ _ _ h => h) (Or.inl ⟨by rfl, ?ht16⟩) (by assumption) ?rt16
                    case ht16 => (intro w0 hSw; (try dsimp only at hSw); go_simp; first | done | (with_reducible rfl) | (rw [if_pos (by omega)]; try (with_reducible rfl)))
                    simp only [Act.put, List.setIfInBounds_toArray, List.set_cons_zero, List.set_cons_succ]
                    refine wpAnyH_take (i := 17) (oi := { dst := some 113, op := Op.move (Operand.tmp 15), type := 3, pos := "manifest.go:153", after := #[], guard := none }) (v := ?vt17) rfl (by kernel_rfl) (by kernel_rfl) (by kernel_rfl) (fun _ _ _ h => h) (Or.inl ⟨by rfl, ?ht17⟩) (by assumption) ?rt17
                    case ht17 => (intro w0 hSw; (try dsimp only at hSw); go_simp; first | done | (with_reducible rfl) | (rw [if_pos (by omega)]; try (with_reducible rfl)))
                    simp only [Act.put, List.setIfInBounds_toArray, List.set_cons_zero, List.set_cons_succ]
                    refine wpAnyH_take (i := 18) (oi := { dst := some 114, op := Op.binOp BinOp.add 3 (Operand.tmp 113) (Operand.const (Value.int IntKind.i64 3)) 3, type := 3, pos := "manifest.go:153", after := #[{ on := 17, ground := Ground.data }], guard := none }) (v := ?vt18) rfl (by kernel_rfl) (by kernel_rfl) (by kernel_rfl) (fun _ _ _ h => h) (Or.inl ⟨by rfl, ?ht18⟩) (by assumption) ?rt18
                    case ht18 => (intro w0 hSw; (try dsimp only at hSw); go_simp; first | done | (with_reducible rfl) | (rw [if_pos (by omega)]; try (with_reducible rfl)))
                    simp only [Act.put, List.setIfInBounds_toArray, List.set_cons_zero, List.set_cons_succ]
                    refine wpAnyH_take (i := 19) (oi := { dst := some 115, op := Op.indexAddr 44 (Operand.tmp 112) (Operand.tmp 114), type := 0, pos := "manifest.go:153", after := #[{ on := 16, ground := Ground.data }, { on := 18, ground := Ground.data }], guard := none }) (v := ?vt19) rfl (by kernel_rfl) (by kernel_rfl) (by kernel_rfl) (fun _ _ _ h => h) (Or.inl ⟨by rfl, ?ht19⟩) (by assumption) ?rt19
                    case ht19 => (intro w0 hSw; (try dsimp only at hSw); go_simp; first | done | (with_reducible rfl) | (rw [if_pos (by omega)]; try (with_reducible rfl)))
                    simp only [Act.put, List.setIfInBounds_toArray, List.set_cons_zero, List.set_cons_succ]
                    refine wpAnyH_take (i := 20) (oi := { dst := some 116, op := Op.load 3 (Operand.tmp 115), type := 3, pos := "manifest.go:153", after := #[{ on := 19, ground := Ground.data }], guard := none }) (v := ?vt20) rfl (by kernel_rfl) (by kernel_rfl) (by kernel_rfl) (fun _ _ _ h => h) (Or.inl ⟨by rfl, ?ht20⟩) (by assumption) ?rt20
                    case ht20 => (intro w0 hSw; (try dsimp only at hSw); go_simp; first | done | (with_reducible rfl) | (rw [if_pos (by omega)]; try (with_reducible rfl)))
                    simp only [Act.put, List.setIfInBounds_toArray, List.set_cons_zero, List.set_cons_succ]
                    refine wpAnyH_take (i := 21) (oi := { dst := some 117, op := Op.build 36 #[(0, Operand.tmp 101), (1, Operand.tmp 106), (2, Operand.tmp 111), (3, Operand.tmp 116)], type := 36, pos := "manifest.go:153", after := #[{ on := 5, ground := Ground.data }, { on := 10, ground := Ground.data }, { on := 15, ground := Ground.data }, { on := 20, ground := Ground.data }], guard := none }) (v := ?vt21) rfl (by kernel_rfl) (by kernel_rfl) (by kernel_rfl) (fun _ _ _ h => h) (Or.inl ⟨by rfl, ?ht21⟩) (by assumption) ?rt21
                    case ht21 => (intro w0 hSw; (try dsimp only at hSw); go_simp; first | done | (with_reducible rfl) | (rw [if_pos (by omega)]; try (with_reducible rfl)))
                    simp only [Act.put, List.setIfInBounds_toArray, List.set_cons_zero, List.set_cons_succ]
                    refine wpAnyH_ready (rs := [1, 22]) (by kernel_rfl) (by simp) ?_
                    refine AllReadyH.cons rfl (fun K hK => ?_) (AllReadyH.cons rfl (fun K hK => ?_) AllReadyH.nil)
                    · go_simp
                      refine hK.out _ _ ?_ (fun hHeld => ?_)
                      · exact SS _ bv0
                      clear hK K
                      refine wpAnyH_ready (rs := [22]) (by kernel_rfl) (by simp) ?_
                      refine AllReadyH.cons rfl (fun K hK => ?_) AllReadyH.nil
                      go_simp
                      refine hK.out _ _ ?_ (fun hHeld => ?_)
                      · exact SS _ (bvA _)
                      clear hK K
                      refine wpAnyH_ready (rs := [23]) (by kernel_rfl) (by simp) ?_
                      refine AllReadyH.cons rfl (fun K hK => ?_) AllReadyH.nil
                      refine step_app rfl _ _ 24 24 rfl _ _ _ _ rfl rfl hap ?_
                      refine hK.out _ _ ?_ (fun hHeld => ?_)
                      · exact SS _ v6
                      clear hK K
                      refine wpAnyH_take (i := 24) (oi := { dst := some 120, op := Op.fieldAddr 26 (Operand.tmp 14) 4, type := 0, pos := "manifest.go:153", after := #[{ on := 0, ground := Ground.phase }, { on := 1, ground := Ground.phase }, { on := 2, ground := Ground.phase }, { on := 3, ground := Ground.phase }, { on := 4, ground := Ground.phase }, { on := 5, ground := Ground.phase }, { on := 6, ground := Ground.phase }, { on := 7, ground := Ground.phase }, { on := 8, ground := Ground.phase }, { on := 9, ground := Ground.phase }, { on := 10, ground := Ground.phase }, { on := 11, ground := Ground.phase }, { on := 12, ground := Ground.phase }, { on := 13, ground := Ground.phase }, { on := 14, ground := Ground.phase }, { on := 15, ground := Ground.phase }, { on := 16, ground := Ground.phase }, { on := 17, ground := Ground.phase }, { on := 18, ground := Ground.phase }, { on := 19, ground := Ground.phase }, { on := 20, ground := Ground.phase }, { on := 21, ground := Ground.phase }, { on := 22, ground := Ground.phase }, { on := 23, ground := Ground.phase }], guard := none }) (v := ?va24) rfl (by kernel_rfl) (by kernel_rfl) (by kernel_rfl) (fun _ _ _ h => h) (Or.inl ⟨by rfl, ?ha24⟩) (by assumption) ?ra24
                      case ha24 => (intro w0 hSw; (try dsimp only at hSw); go_simp; first | done | (with_reducible rfl) | (rw [if_pos (by omega)]; try (with_reducible rfl)))
                      simp only [Act.put, List.setIfInBounds_toArray, List.set_cons_zero, List.set_cons_succ]
                      refine wpAnyH_ready (rs := [25]) (by kernel_rfl) (by simp) ?_
                      refine AllReadyH.cons rfl (fun K hK => ?_) AllReadyH.nil
                      go_simp
                      refine hK.out _ _ ?_ (fun hHeld => ?_)
                      · exact SS _ v7
                      clear hK K
                      refine wpAnyH_done (by kernel_rfl) ?_ _
                      clear SS hap m6 f6 v6 v7 bv0 bvA mA m0 y0 y1 y2 y3
                      go_wp2
                      exact ⟨HN.out, by simp only [intOf]; omega⟩
                    · go_simp
                      refine hK.out _ _ ?_ (fun hHeld => ?_)
                      · exact SS _ (bvA _)
                      clear hK K
                      refine wpAnyH_ready (rs := [1]) (by kernel_rfl) (by simp) ?_
                      refine AllReadyH.cons rfl (fun K hK => ?_) AllReadyH.nil
                      go_simp
                      refine hK.out _ _ ?_ (fun hHeld => ?_)
                      · exact SS _ (bvA _)
                      clear hK K
                      refine wpAnyH_ready (rs := [23]) (by kernel_rfl) (by simp) ?_
                      refine AllReadyH.cons rfl (fun K hK => ?_) AllReadyH.nil
                      refine step_app rfl _ _ 24 24 rfl _ _ _ _ rfl rfl hap ?_
                      refine hK.out _ _ ?_ (fun hHeld => ?_)
                      · exact SS _ v6
                      clear hK K
                      refine wpAnyH_take (i := 24) (oi := { dst := some 120, op := Op.fieldAddr 26 (Operand.tmp 14) 4, type := 0, pos := "manifest.go:153", after := #[{ on := 0, ground := Ground.phase }, { on := 1, ground := Ground.phase }, { on := 2, ground := Ground.phase }, { on := 3, ground := Ground.phase }, { on := 4, ground := Ground.phase }, { on := 5, ground := Ground.phase }, { on := 6, ground := Ground.phase }, { on := 7, ground := Ground.phase }, { on := 8, ground := Ground.phase }, { on := 9, ground := Ground.phase }, { on := 10, ground := Ground.phase }, { on := 11, ground := Ground.phase }, { on := 12, ground := Ground.phase }, { on := 13, ground := Ground.phase }, { on := 14, ground := Ground.phase }, { on := 15, ground := Ground.phase }, { on := 16, ground := Ground.phase }, { on := 17, ground := Ground.phase }, { on := 18, ground := Ground.phase }, { on := 19, ground := Ground.phase }, { on := 20, ground := Ground.phase }, { on := 21, ground := Ground.phase }, { on := 22, ground := Ground.phase }, { on := 23, ground := Ground.phase }], guard := none }) (v := ?vb24) rfl (by kernel_rfl) (by kernel_rfl) (by kernel_rfl) (fun _ _ _ h => h) (Or.inl ⟨by rfl, ?hb24⟩) (by assumption) ?rb24
                      case hb24 => (intro w0 hSw; (try dsimp only at hSw); go_simp; first | done | (with_reducible rfl) | (rw [if_pos (by omega)]; try (with_reducible rfl)))
                      simp only [Act.put, List.setIfInBounds_toArray, List.set_cons_zero, List.set_cons_succ]
                      refine wpAnyH_ready (rs := [25]) (by kernel_rfl) (by simp) ?_
                      refine AllReadyH.cons rfl (fun K hK => ?_) AllReadyH.nil
                      go_simp
                      refine hK.out _ _ ?_ (fun hHeld => ?_)
                      · exact SS _ v7
                      clear hK K
                      refine wpAnyH_done (by kernel_rfl) ?_ _
                      clear SS hap m6 f6 v6 v7 bv0 bvA mA m0 y0 y1 y2 y3
                      go_wp2
                      exact ⟨HN.out, by simp only [intOf]; omega⟩
                  · obtain rfl : i = h6 := by omega
                    have hn4 := HX.out.2.2.1
                    have hnp : p = n4 := by omega
                    subst hnp
                    clear hp
                    have p1 : ¬ (p : Int) < (p : Int) := by omega
                    have hgl := grp_len i l2
                    obtain ⟨mm, hmm⟩ : ∃ mm, mm = mfOf [h0, h1, h2, h3, h4, h5, i] (grp i l2) := ⟨_, rfl⟩
                    have hrs : mm.rs = grp i l2 := by rw [hmm]; rfl
                    have e0 : mm.w = (h0 : Int) := by rw [hmm]; rfl
                    have e1 : mm.ch = (h1 : Int) := by rw [hmm]; rfl
                    have e2 : mm.md = (h2 : Int) := by rw [hmm]; rfl
                    have e3 : mm.seq = (h3 : Int) := by rw [hmm]; rfl
                    have e4 : mm.nx = (h4 : Int) := by rw [hmm]; rfl
                    have e5 : mm.jn = (h5 : Int) := by rw [hmm]; rfl
                    have hml : mm.rs.length = i := by rw [hrs, hgl]
                    have hX := HX.out.1
                    rw [← hmm] at hX
                    have ow : wr.ownsRow 0 36 4 (.slice la mm.rs.length c4) mm.rs.length (mm.rs.flatMap ruC) := by rw [hml, hrs]; exact HD.out.ow
                    obtain ⟨hLm, hcm⟩ := own_lat ow
                    have cc := fun W (bW : Below wr.heap.size wr W) => rcheck_any mm la c4 W (hLm.below bW) hcm (by omega)
                    obtain ⟨EE, hEE⟩ : ∃ EE, EE = chE mm := ⟨_, rfl⟩
                    rw [← hEE] at cc hX
                    have hmC : mfC mm la c4 = [.int .i64 (h0 : Int), .int .i64 (h1 : Int), .int .i64 (h2 : Int), .int .i64 (h3 : Int), .int .i64 (h4 : Int), .int .i64 (h5 : Int), .slice la i c4] := by unfold mfC; rw [e0, e1, e2, e3, e4, e5, hml]
                    rw [hmC] at cc
                    obtain ⟨k0, k1, k2, k3, k4, k5, k6⟩ := mb_cells HD.out.mb
                    have HF := Hid.mk (And.intro HD.out (And.intro hmC (And.intro hml ow)))
                    clear hmm hrs e0 e1 e2 e3 e4 e5 hLm hcm hgl hlt hi HD ow hmC HX hn4 hEE hml
                    by_cases hE0 : EE = 0
                    · rw [if_pos hE0] at hX
                      subst hE0
                      go_wp2_with (go_at_call 14; refine (cc wr (Below.refl _ _)).mono ?_; clear cc; rintro e w5 ⟨rfl, b5⟩; have D5 := HF.out.1.lat b5; obtain ⟨j0, j1, j2, j3, j4, j5, j6⟩ := mb_cells D5.mb; have Z5 := D5.zr; obtain ⟨c0, c1, c2, c3', c4', c5, c6, cf⟩ := zr_cells Z5)
                      obtain ⟨W6, hW6, st6, o0, o1, o2, o3, o4, o5, o6⟩ := fin7 Z5 (.int .i64 (h0 : Int)) (.int .i64 (h1 : Int)) (.int .i64 (h2 : Int)) (.int .i64 (h3 : Int)) (.int .i64 (h4 : Int)) (.int .i64 (h5 : Int)) (.slice la i c4)
                      unfold set7 at hW6
                      rw [hW6]
                      refine bodyPost_ret (v := .tuple #[.agg #[.int .i64 (h0 : Int), .int .i64 (h1 : Int), .int .i64 (h2 : Int), .int .i64 (h3 : Int), .int .i64 (h4 : Int), .int .i64 (h5 : Int), .slice la i c4], .int .i64 0]) (by simp [results, Tryd.results6, go_sem, o0, o1, o2, o3, o4, o5, o6]; try rfl) rfl ?_
                      subst hX
                      have hbw := D5.bw
                      refine ⟨la, c4, by rw [show dcV (.ok mm : Except Int Mf) = mm from rfl, HF.out.2.1]; rfl, ?_, ?_, hbw.trans (st6.toBelow (B := w.heap.size) (fun k hk h => by (have h' : k = w.heap.size := h; omega)) hbw.size)⟩
                      · have ow5 := row_kept (F := fun _ => False) HF.out.2.2.2 (.below b5) (fun _ _ h => h)
                        refine row_kept ow5 st6 (fun k hk h => ?_)
                        have h' : k = w.heap.size := h
                        have h9 : (Value.slice la mm.rs.length c4).ownBlock = some k := hk
                        rw [HF.out.2.2.1] at h9
                        have h1 := D5.own k h9
                        have h2 := D5.wg
                        omega
                      · intro k hk
                        have h9 : (Value.slice la mm.rs.length c4).ownBlock = some k := hk
                        rw [HF.out.2.2.1] at h9
                        have h1 := D5.own k h9
                        have h2 := D5.wg
                        omega
                    · rw [if_neg hE0] at hX
                      have hEb := ne_b hE0
                      go_wp2_with (go_at_call 14; refine (cc wr (Below.refl _ _)).mono ?_; clear cc; rintro e w5 ⟨rfl, b5⟩; have D5 := HF.out.1.lat b5; have Z5 := D5.zr; have bw5 := D5.bw; obtain ⟨c0, c1, c2, c3', c4', c5, c6, cf⟩ := zr_cells Z5)
                      subst hX
                      obtain ⟨W5, hW5, st5, o0, o1, o2, o3, o4, o5, o6⟩ := fin7 Z5 (.int .i64 0) (.int .i64 0) (.int .i64 0) (.int .i64 0) (.int .i64 0) (.int .i64 0) (.slice none 0 0)
                      unfold set7 at hW5
                      rw [hW5]
                      refine bodyPost_ret (v := .tuple #[.agg #[.int .i64 0, .int .i64 0, .int .i64 0, .int .i64 0, .int .i64 0, .int .i64 0, .slice none 0 0], .int .i64 EE]) (by simp [results, Tryd.results6, go_sem, o0, o1, o2, o3, o4, o5, o6]; try rfl) rfl ?_
                      exact ⟨none, 0, rfl, World.ownsRow_nil _ _ _ _, (fun k hk => by cases hk), bw5.trans (st5.toBelow (B := w.heap.size) (fun k hk h => by (have h' : k = w.heap.size := h; omega)) bw5.size)⟩
              · rw [if_neg hq2] at hX
                simp only at hX
                subst hX
                have hqb : ((q2 : Int) != (P.size : Int)) = true := by simp [bne_iff_ne]; omega
                clear hq2 hn4 hle hle2 hl2
                go_enter Tryd.func6, Tryd.ntmps6
                go_wp2_with first
                  | (go_at_call 12; refine cP.mono ?_; clear cP; rintro e w1 ⟨rfl, b1⟩; have Z1 : Zr w1 w.heap.size := (b1.block _ (by omega)).trans HZ.out; have bw1 := chain ba b1 (Nat.le_refl _))
                  | (go_at_call 13; refine (cS w1).mono ?_; clear cS; rintro e w2 ⟨a, c, rfl, ow2, b2⟩; have Z2 : Zr w2 w.heap.size := (b2.block _ (Array.getElem?_eq_some_iff.1 Z1).1).trans Z1; have bw2 := chain bw1 b2 (Nat.le_refl _); obtain ⟨g, rfl, x6, hc7⟩ := nat_cell ow2 rfl (j := 6) rfl)
                  | (go_at_call 13; refine (cT w2).mono ?_; clear cT; rintro e w3 ⟨a3, c3, rfl, ow3, b3⟩; have Z3 : Zr w3 w.heap.size := (b3.block _ (Array.getElem?_eq_some_iff.1 Z2).1).trans Z2; have bw3 := chain bw2 b3 (Nat.le_refl _); obtain ⟨c0, c1, c2, c3', c4, c5, c6, cf⟩ := zr_cells Z3)
                obtain ⟨W5, hW5, st5, o0, o1, o2, o3, o4, o5, o6⟩ := fin7 Z3 (.int .i64 0) (.int .i64 0) (.int .i64 0) (.int .i64 0) (.int .i64 0) (.int .i64 0) (.slice none 0 0)
                unfold set7 at hW5
                rw [hW5]
                refine bodyPost_ret (v := .tuple #[.agg #[.int .i64 0, .int .i64 0, .int .i64 0, .int .i64 0, .int .i64 0, .int .i64 0, .slice none 0 0], .int .i64 37]) (by simp [results, Tryd.results6, go_sem, o0, o1, o2, o3, o4, o5, o6]; try rfl) rfl ?_
                exact ⟨none, 0, rfl, World.ownsRow_nil _ _ _ _, (fun k hk => by cases hk), bw3.trans (st5.toBelow (B := w.heap.size) (fun k hk h => by (have h' : k = w.heap.size := h; omega)) bw3.size)⟩
end Go.Proofs.YtejpakejfikkmaaDoor
