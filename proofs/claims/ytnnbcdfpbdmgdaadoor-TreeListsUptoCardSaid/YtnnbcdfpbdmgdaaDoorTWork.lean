/-
  DERIVED. The law of work.
-/
import Derived.Test.YtnnbcdfpbdmgdaaDoorTWork0
import Derived.Test.YtnnbcdfpbdmgdaaDoorTBegun
set_option linter.unusedVariables false
set_option linter.unusedSimpArgs false
namespace Go.Proofs.YtnnbcdfpbdmgdaaDoor
open Go.RowKit Go.Maps Go.Sort Go.Proofs.BitMath Go.Proofs.TreeMath
/-- A call's cells. -/
abbrev Op3 := Int × ByteArray × Int
def oC (o : Op3) : List Value := [.int .i64 o.1, .string o.2.1, .int .i64 o.2.2]
/-- Calls that lie somewhere. -/
structure OAt (w : World) (la : Option Addr) (l : List Op3) : Prop where
  at' : ∀ i (hi : i < l.length), ∃ g off, la = some ⟨g, off, none⟩ ∧ w.cell? ⟨g, off + i * 3, none⟩ = some (.int .i64 l[i].1) ∧ w.cell? ⟨g, off + i * 3 + 1, none⟩ = some (.string l[i].2.1) ∧ w.cell? ⟨g, off + i * 3 + 2, none⟩ = some (.int .i64 l[i].2.2)
theorem OAt.below {w w' : World} {la : Option Addr} {l : List Op3} (h : OAt w la l) (b : Below w.heap.size w w') : OAt w' la l := ⟨fun i hi => by
  obtain ⟨g, off, e, h1, h2, h3⟩ := h.at' i hi
  exact ⟨g, off, e, cell_lat b h1, cell_lat b h2, cell_lat b h3⟩⟩
theorem dz_bad {d n : Nat} (h : d = 0 ↔ n = 0) (hb : (!(((d : Int) == 0) == ((n : Int) == 0))) = true) : False := by
  by_cases h0 : n = 0
  · have h1 := h.2 h0
    subst h1
    subst h0
    simp at hb
  · have h1 : d ≠ 0 := fun e => h0 (h.1 e)
    have e1 : ((d : Int) == 0) = false := by simp; omega
    have e2 : ((n : Int) == 0) = false := by simp; omega
    rw [e1, e2] at hb
    simp at hb
/-- While the script is played. -/
structure WI {n : Nat} (W wr : World) (t wd : Nat) (i : Nat) (T : List (Nd (Cd n))) (bs : List Nat) (ms : List (Option Nat)) (x : Num) : Prop where
  ot : OT W wr t wd T bs ms x
  le : T.length ≤ i
  inv : T.length ≤ 2 * (lives T).length + 16
set_option maxHeartbeats 4000000 in
set_option maxRecDepth 100000 in
theorem law_work (wd : Int) (l : List Op3) (la : Option Addr) (lc : Nat) (W : World) (ht : Tab W) (hl : OAt W la l) (hll : l.length ≤ 1048576) : Calls Tryd.prog 4 #[.int .i64 wd, .slice la l.length lc] W fun r w' => r = .returned (.bool true) ∧ Below W.heap.size W w' := by
  have hW0 : 0 < W.heap.size := World.block_lt_of_cell? W ⟨0, 0, none⟩ (ht 0 (by omega))
  have htW : ∀ (w : World), Below W.heap.size W w → Tab w := fun w b => ht.below b hW0
  have HW := Hid.mk htW
  have HB := Hid.mk (begun_any W ht)
  obtain ⟨ln, hln⟩ : ∃ ln, ln = l.length := ⟨_, rfl⟩
  have HL := Hid.mk (And.intro hl hln)
  rw [← hln] at hll ⊢
  clear hl hln ht htW
  by_cases hw : isW wd = true
  · obtain ⟨w8, rfl⟩ : ∃ w8 : Nat, wd = w8 := ⟨wd.toNat, by have := isW_bd hw; omega⟩
    obtain ⟨n, hn⟩ : ∃ n, w8 = 8 * n := ⟨w8 / 8, by have h1 := isW_mod hw; omega⟩
    have hnew := fun W => new_yes w8 n W hw hn
    have HN := Hid.mk hnew
    clear hnew hw hn
    go_enter Tryd.func4, Tryd.ntmps4
    go_wp2_with fail
    refine HB.out.mono ?_
    rintro e w1 ⟨rfl, b1⟩
    go_wp2_with fail
    refine (HN.out w1).mono ?_
    rintro e w2 ⟨rfl, htr, b2⟩
    obtain ⟨t, hte⟩ : ∃ t, t = w1.heap.size := ⟨_, rfl⟩
    have htp : 0 < t := by have := b1.size; omega
    have H0 := Hid.mk (show WI (n := n) W w2 t w8 0 [] [] [] ⟨0, 0, 0, 0⟩ from ⟨⟨by rw [hte]; exact htr, (fun k hk => by
      rcases hk with rfl | hk | hk
      · rw [hte]; exact b1.size
      · cases hk
      · cases hk), chain b1 b2 (Nat.le_refl _)⟩, Nat.le_refl _, by simp⟩)
    rw [← hte]
    clear htr b1 b2 hte
    go_wp2_with fail
    go_loopw [7] (fun u wr => ∃ (i : Nat) (T : List (Nd (Cd n))) (bs : List Nat) (ms : List (Option Nat)) (x : Num), u = .int .i64 i ∧ i ≤ ln ∧ Hid (WI W wr t w8 i T bs ms x)) (fun u _ => ln - (intOf u).toNat)
    case atStart => exact ⟨0, [], [], [], ⟨0, 0, 0, 0⟩, rfl, Nat.zero_le _, H0⟩
    case round =>
      obtain ⟨i, T, bs, ms, x, rfl, hi, HJ⟩ := hrel
      by_cases hlt : i < ln
      · have i1 : (i : Int) < (ln : Int) := by omega
        have i2 : (0 : Int) ≤ (i : Int) := by omega
        have hwi : IntKind.i64.wrap ((i : Int) + 1) = ((i + 1 : Nat) : Int) := by rw [IntKind.wrap_i64]; omega
        obtain ⟨g, off, ela, o0, o1, o2⟩ := (HL.out.1.below (HJ.out.ot.be)).at' i (by rw [← HL.out.2]; exact hlt)
        subst ela
        obtain ⟨K, hK⟩ : ∃ K, K = (l[i]'(by rw [← HL.out.2]; exact hlt)).1 := ⟨_, rfl⟩
        obtain ⟨s, hs⟩ : ∃ s, s = (l[i]'(by rw [← HL.out.2]; exact hlt)).2.1 := ⟨_, rfl⟩
        obtain ⟨N, hN⟩ : ∃ N, N = (l[i]'(by rw [← HL.out.2]; exact hlt)).2.2 := ⟨_, rfl⟩
        rw [← hK] at o0
        rw [← hs] at o1
        rw [← hN] at o2
        clear hK hs hN
        go_wp2_with fail
        have bA : Below wr.heap.size wr (wr.alloc (.cells #[.int .i64 K, .string s, .int .i64 N] 40)) := (Below.refl _ wr).alloc (Nat.le_refl _) _
        obtain ⟨wA, hwA⟩ : ∃ wA, wA = wr.alloc (.cells #[.int .i64 K, .string s, .int .i64 N] 40) := ⟨_, rfl⟩
        rw [← hwA] at bA ⊢
        have a0 : wA.cell? ⟨wr.heap.size, 0, none⟩ = some (.int .i64 K) := by rw [hwA]; go_simp
        have a1 : wA.cell? ⟨wr.heap.size, 1, none⟩ = some (.string s) := by rw [hwA]; go_simp
        have a2 : wA.cell? ⟨wr.heap.size, 2, none⟩ = some (.int .i64 N) := by rw [hwA]; go_simp
        have oA := HJ.out.ot.below bA
        have hft : ∀ k, TFoot t bs ms k → k < wr.heap.size := fun k hk => HJ.out.ot.tr.lt hk
        have hle := HJ.out.le
        have hinv := HJ.out.inv
        have hdo := do_any K s N wA oA.tr (HW.out wA oA.be) htp (by omega)
        have hszA : wr.heap.size < wA.heap.size := by rw [hwA]; simp
        clear hwA bA o0 o1 o2
        refine (looked_any wA oA.tr).mono ?_
        rintro e w' ⟨rfl, he⟩
        subst he
        have HA := Hid.mk (And.intro oA (And.intro hft hdo))
        clear oA hft hdo
        go_wp2_with fail
        refine HA.out.2.2.mono ?_
        rintro r w3 hd
        have hfr := do_frame hd
        obtain ⟨T', bs', ms', x', nv, len, y, e, q1, q2, q3, q4, va, vc, o3, hT', hI', hlk, rfl, hnv, hlen, hno⟩ := do_work HA.out.1 hinv hd
        have c0 : w3.cell? ⟨wr.heap.size, 0, none⟩ = some (.int .i64 K) := by
          have := hfr.block wr.heap.size hszA (fun e => by
            rcases e with e | e
            · have := HA.out.2.1 _ e; omega
            · omega)
          unfold World.cell? at a0 ⊢; rw [this]; exact a0
        have hlkx := HA.out.1.tr.lk
        have hsub : IntKind.i64.wrap (x'.looked - x.looked) = (nv : Int) := by
          rw [hlk]
          have e1 : IntKind.i64.min = -9223372036854775808 := rfl
          have e2 : IntKind.i64.max = 9223372036854775807 := rfl
          simp [Lit.wf, e1, e2] at hlkx
          unfold lkN
          rw [IntKind.wrap_i64, IntKind.wrap_i64]
          omega
        have hall := o3.tr.all
        have hliv := o3.tr.live
        have hdep := o3.tr.depT
        have hdz := dep_pos o3.tr
        have hT8 : T'.length ≤ 1048577 := by omega
        have HO := Hid.mk o3
        have HG := Hid.mk (And.intro hT' hI')
        simp only [gotV]
        clear hfr hd hlk hlkx o3 hT' hinv a0 a1 a2
        go_wp2_with fail
        have bG : Below w3.heap.size w3 (w3.alloc (.cells #[.bool y, .int .i64 e, .slice va len vc, .int .i64 q1, .int .i64 q2, .int .i64 q3, .int .i64 q4] 42)) := (Below.refl _ w3).alloc (Nat.le_refl _) _
        obtain ⟨w4, hw4⟩ : ∃ w4, w4 = w3.alloc (.cells #[.bool y, .int .i64 e, .slice va len vc, .int .i64 q1, .int .i64 q2, .int .i64 q3, .int .i64 q4] 42) := ⟨_, rfl⟩
        rw [← hw4] at bG ⊢
        have g1 : w4.cell? ⟨w3.heap.size, 1, none⟩ = some (.int .i64 e) := by rw [hw4]; go_simp
        have g2 : w4.cell? ⟨w3.heap.size, 2, none⟩ = some (.slice va len vc) := by rw [hw4]; go_simp
        have d0 := cell_lat bG c0
        have o4 := HO.out.below bG
        clear HO hw4 bG c0
        refine (looked_any w4 o4.tr).mono ?_
        rintro e' w' ⟨rfl, he'⟩
        subst he'
        have HO := Hid.mk o4
        clear o4
        by_cases hS : (K = 4 ∨ K = 5) ∧ e = 0
        · obtain ⟨hK, rfl⟩ := hS
          have n1 : ¬ (nv : Int) < 0 := by omega
          have n2 : ¬ (T'.length : Int) < (nv : Int) := by omega
          have n3 : ¬ (nv : Int) < (len : Int) := by omega
          rcases hK with rfl | rfl
          · clear hno
            go_wp2_with (first
              | (go_at_call 21; refine (nodes_any _ HO.out.tr).mono ?_; rintro e' wN ⟨rfl, bN⟩; (try have gN := cell_lat bN g2); have HO' := Hid.mk (HO.out.below bN); clear HO bN; have HO := HO'; clear HO')
              | (go_at_call 18; refine (len_any _ HO.out.tr).mono ?_; rintro e' w' ⟨rfl, he'⟩; subst he')
              | (go_at_call 13; refine (depth_any _ HO.out.tr).mono ?_; rintro e' w' ⟨rfl, he'⟩; subst he')
              | go_in)
            all_goals first
              | (exfalso; omega)
              | (refine ⟨⟨i + 1, T', bs', ms', x', by push_cast; rfl, hlt, Hid.mk ⟨HO.out, by have := HG.out.1; omega, HG.out.2⟩⟩, by simp only [intOf]; omega⟩)
              | (rename_i hbad
                 exfalso
                 have hI := HG.out.2
                 rcases hbad with ((hbad | hbad) | hbad) | hbad
                 · omega
                 · omega
                 · omega
                 · exact dz_bad hdz hbad)
          · clear hno
            go_wp2_with (first
              | (go_at_call 21; refine (nodes_any _ HO.out.tr).mono ?_; rintro e' wN ⟨rfl, bN⟩; (try have gN := cell_lat bN g2); have HO' := Hid.mk (HO.out.below bN); clear HO bN; have HO := HO'; clear HO')
              | (go_at_call 18; refine (len_any _ HO.out.tr).mono ?_; rintro e' w' ⟨rfl, he'⟩; subst he')
              | (go_at_call 13; refine (depth_any _ HO.out.tr).mono ?_; rintro e' w' ⟨rfl, he'⟩; subst he')
              | go_in)
            all_goals first
              | (exfalso; omega)
              | (refine ⟨⟨i + 1, T', bs', ms', x', by push_cast; rfl, hlt, Hid.mk ⟨HO.out, by have := HG.out.1; omega, HG.out.2⟩⟩, by simp only [intOf]; omega⟩)
              | (rename_i hbad
                 exfalso
                 have hI := HG.out.2
                 rcases hbad with ((hbad | hbad) | hbad) | hbad
                 · omega
                 · omega
                 · omega
                 · exact dz_bad hdz hbad)
        · have hnv0 : nv = 0 := hno hS
          subst hnv0
          have hl0 : len = 0 := by omega
          subst hl0
          have n2 : ¬ (T'.length : Int) < 0 := by omega
          by_cases hK : K = 4
          · subst hK
            have he : (e == 0) = false := by
              have : e ≠ 0 := fun h => hS ⟨.inl rfl, h⟩
              simpa using this
            clear hno hS
            go_wp2_with (first
              | (go_at_call 21; refine (nodes_any _ HO.out.tr).mono ?_; rintro e' wN ⟨rfl, bN⟩; (try have gN := cell_lat bN g2); have HO' := Hid.mk (HO.out.below bN); clear HO bN; have HO := HO'; clear HO')
              | (go_at_call 18; refine (len_any _ HO.out.tr).mono ?_; rintro e' w' ⟨rfl, he'⟩; subst he')
              | (go_at_call 13; refine (depth_any _ HO.out.tr).mono ?_; rintro e' w' ⟨rfl, he'⟩; subst he')
              | go_in)
            all_goals first
              | (exfalso; omega)
              | (refine ⟨⟨i + 1, T', bs', ms', x', by push_cast; rfl, hlt, Hid.mk ⟨HO.out, by have := HG.out.1; omega, HG.out.2⟩⟩, by simp only [intOf]; omega⟩)
              | (rename_i hbad
                 exfalso
                 have hI := HG.out.2
                 rcases hbad with ((hbad | hbad) | hbad) | hbad
                 · omega
                 · omega
                 · omega
                 · exact dz_bad hdz hbad)
          · by_cases hK5 : K = 5
            · subst hK5
              have he : (e == 0) = false := by
                have : e ≠ 0 := fun h => hS ⟨.inr rfl, h⟩
                simpa using this
              clear hno hS
              go_wp2_with (first
                | (go_at_call 21; refine (nodes_any _ HO.out.tr).mono ?_; rintro e' wN ⟨rfl, bN⟩; (try have gN := cell_lat bN g2); have HO' := Hid.mk (HO.out.below bN); clear HO bN; have HO := HO'; clear HO')
                | (go_at_call 18; refine (len_any _ HO.out.tr).mono ?_; rintro e' w' ⟨rfl, he'⟩; subst he')
                | (go_at_call 13; refine (depth_any _ HO.out.tr).mono ?_; rintro e' w' ⟨rfl, he'⟩; subst he')
                | go_in)
              all_goals first
                | (exfalso; omega)
                | (refine ⟨⟨i + 1, T', bs', ms', x', by push_cast; rfl, hlt, Hid.mk ⟨HO.out, by have := HG.out.1; omega, HG.out.2⟩⟩, by simp only [intOf]; omega⟩)
                | (rename_i hbad
                   exfalso
                   have hI := HG.out.2
                   rcases hbad with ((hbad | hbad) | hbad) | hbad
                   · omega
                   · omega
                   · omega
                   · exact dz_bad hdz hbad)
            · have k4 : (K == 4) = false := by simpa using hK
              have k5 : (K == 5) = false := by simpa using hK5
              clear hno hS hK hK5
              go_wp2_with (first
                | (go_at_call 21; refine (nodes_any _ HO.out.tr).mono ?_; rintro e' wN ⟨rfl, bN⟩; (try have gN := cell_lat bN g2); have HO' := Hid.mk (HO.out.below bN); clear HO bN; have HO := HO'; clear HO')
                | (go_at_call 18; refine (len_any _ HO.out.tr).mono ?_; rintro e' w' ⟨rfl, he'⟩; subst he')
                | (go_at_call 13; refine (depth_any _ HO.out.tr).mono ?_; rintro e' w' ⟨rfl, he'⟩; subst he')
                | go_in)
              all_goals first
                | (exfalso; omega)
                | (refine ⟨⟨i + 1, T', bs', ms', x', by push_cast; rfl, hlt, Hid.mk ⟨HO.out, by have := HG.out.1; omega, HG.out.2⟩⟩, by simp only [intOf]; omega⟩)
                | (rename_i hbad
                   exfalso
                   have hI := HG.out.2
                   rcases hbad with ((hbad | hbad) | hbad) | hbad
                   · omega
                   · omega
                   · omega
                   · exact dz_bad hdz hbad)
      · have i1 : ¬ (i : Int) < (ln : Int) := by omega
        have hend := begun_any wr (HW.out wr HJ.out.ot.be)
        go_wp2_with (go_at_call 9; refine hend.mono ?_; rintro e w' ⟨rfl, b'⟩)
        go_ret
        exact ⟨rfl, chain HJ.out.ot.be b' (Nat.le_refl _)⟩
  · have hw' : isW wd = false := by simpa using hw
    have hnew := fun W => new_no wd W hw'
    clear hw hw'
    go_enter Tryd.func4, Tryd.ntmps4
    go_wp2_with fail
    refine HB.out.mono ?_
    rintro e w1 ⟨rfl, b1⟩
    go_wp2_with (go_at_call 10; refine (hnew _).mono ?_; rintro e w' ⟨rfl, rfl⟩)
    go_ret
    exact ⟨rfl, b1⟩
end Go.Proofs.YtnnbcdfpbdmgdaaDoor
