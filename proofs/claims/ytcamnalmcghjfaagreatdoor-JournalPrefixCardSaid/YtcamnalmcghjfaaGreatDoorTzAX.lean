/-
  DERIVED. JLiv, JTable, JBeg, JOpenR, JWk0, JWk1, JWk2, JWk3, PrefixRow, as one text.
-/
import Derived.Test.YtcamnalmcghjfaaGreatDoorTzAW
import Derived.Test.YtcamnalmcghjfaaGreatDoorTzAO
import Derived.Test.YtcamnalmcghjfaaGreatDoorTzAS
import Derived.Test.YtcamnalmcghjfaaGreatDoorTzAR
import Derived.Test.YtcamnalmcghjfaaGreatDoorTzAK
import Derived.Test.YtcamnalmcghjfaaGreatDoorCards
import Derived.Test.YtcamnalmcghjfaaGreatDoorTie
import Derived.ProofKit
import Derived.LaidMore
import Derived.SizedLaws
import Derived.OpenShut
import Derived.Lib.LaidTab
import Derived.Lib.SmallJoins
import Derived.Stop.Joined
import Derived.SevenTiedAt
import Derived.Test.YtcamnalmcghjfaaGreatDoorTzAT
import Derived.Test.YtcamnalmcghjfaaGreatDoorTzAI
import Derived.ChangeMaps5
set_option linter.unusedVariables false
set_option linter.unusedSimpArgs false
namespace Go.Proofs.YtcamnalmcghjfaaGreatDoor
open Go.RowKit Go.Proofs.SealMath Go.Proofs.DiskMath
theorem uAt {W : World} {a : Option Addr} {X : List Uq} (h : EU.At W a X) (i : Nat) (hi : i < X.length) : ∃ g off, a = some ⟨g, off, none⟩ ∧ W.cell? ⟨g, off + i * 4, none⟩ = some (.int .i64 X[i].1) ∧ W.cell? ⟨g, off + i * 4 + 1, none⟩ = some (.int .i64 X[i].2.1) ∧ W.cell? ⟨g, off + i * 4 + 2, none⟩ = some (.int .i64 X[i].2.2.1) ∧ W.cell? ⟨g, off + i * 4 + 3, none⟩ = some (.string X[i].2.2.2) := by
  obtain ⟨g, off, e, hr⟩ := h.at' (fun e => by rw [e] at hi; simp at hi)
  have hc := fun j (hj : j < 4) => Rw.flat_at EU.f 4 (fun _ => rfl) X i j hi hj
  have h0 := hr (i * 4) _ (by have := hc 0 (by omega); simpa using this)
  have h1 := hr (i * 4 + 1) _ (by have := hc 1 (by omega); simpa using this)
  have h2 := hr (i * 4 + 2) _ (by have := hc 2 (by omega); simpa using this)
  have h3 := hr (i * 4 + 3) _ (by have := hc 3 (by omega); simpa using this)
  exact ⟨g, off, e, h0, by rw [Nat.add_assoc]; exact h1, by rw [Nat.add_assoc]; exact h2, by rw [Nat.add_assoc]; exact h3⟩
theorem go_good (k i : Int) (c : ByteArray) (s : Nat) (hs : 1 ≤ s ∧ s ≤ 1152921504606846976) : Gu (goU k i c s) := by
  have hl := codeL_len c
  by_cases h : k % 2 = 0
  · have e : goU k i c s = ⟨s, 1, (i % 281474976710657).toNat, codeL c⟩ := by unfold goU; rw [if_pos h, h]; rfl
    rw [e]
    exact ⟨.inl rfl, ⟨hs.1, hs.2⟩, by show (i % 281474976710657).toNat ≤ _; omega, by show (codeL c).length ≤ 8; omega, by show fitB 1 (codeL c).length 64 = true; rw [hl]; decide⟩
  · have h1 : k % 2 = 1 := by omega
    have e : goU k i c s = ⟨s, 2, (i % 281474976710657).toNat, []⟩ := by unfold goU; rw [if_neg h, h1]; rfl
    rw [e]
    exact ⟨.inr rfl, ⟨hs.1, hs.2⟩, by show (i % 281474976710657).toNat ≤ _; omega, by show (0 : Nat) ≤ 8; omega, by show fitB 2 0 64 = true; decide⟩
theorem flU_le {L : List Up} (h : ∀ u ∈ L, Gu u) : (flU L).length ≤ 42 * L.length := by
  induction L with
  | nil => simp [flU]
  | cons u L ih =>
    have h1 := (frU_len (h u (by simp))).2
    have h2 := ih (fun v hv => h v (by simp [hv]))
    simp only [flU, List.flatMap_cons, List.length_append, List.length_cons] at h2 ⊢
    omega
abbrev rnV (la : Option Addr) (N lc : Nat) (sync cut keep : Int) (sp : Int) : Array Value := #[.slice la N lc, .int .i64 sync, .int .i64 cut, .int .i64 keep, .int .u8 sp]
theorem LV.start {w W0 W1 W2 W3 : World} {p mb j n b9 : Nat} {cut : Int} {rv : Array Value} {e0 : Ent} {c0 : Dk.Ctl} {H : List Up} {sy : Int} {va vs : Value} (h : JS w p mb e0 c0 (flU H)) (ho : c0.off = false) (hdu : e0.du = (flU H).length) (hgn : GN n H) (hj : w.heap[j]? = some (.cells (jV p c0.age (n + H.length : Nat) sy) 72 (0, 0))) (hjf : ¬ Dk.Foot p mb [e0] j)
    (hb9 : b9 = w.heap.size) (hs0 : W0.heap.size = w.heap.size + 1) (hbx : W0.heap[b9]? = some (.cells rv 35 (0, 0))) (b0 : Below w.heap.size w W0)
    (r1 : EU.Row W1 va (H.map upQ)) (o1 : ∀ k, va.ownBlock = some k → W0.heap.size ≤ k) (b1 : Below W0.heap.size W0 W1) (r2 : EU.Row W2 vs (H.map upQ)) (o2 : ∀ k, vs.ownBlock = some k → W1.heap.size ≤ k) (b2 : Below W1.heap.size W1 W2)
    (hJ : JS W3 p mb e0 (Dk.armC c0 cut false) (flU H)) (st : Stay (Dk.Foot p mb [e0]) W2 W3) : LV w W3 p mb j n b9 c0.age cut rv e0 e0 (Dk.armC c0 cut false) H H.length va vs := by
  have jl := (Array.getElem?_eq_some_iff.1 hj).1
  have b02 : Below W0.heap.size W0 W2 := chain b1 b2 (Nat.le_refl _)
  have bw2 : Below w.heap.size w W2 := b0.trans (b02.mono (by omega))
  have hft : ∀ k, Dk.Foot p mb [e0] k → k < w.heap.size := fun k hk => h.dk.lt hk
  have hj2 : W2.heap[j]? = _ := (bw2.block j jl).trans hj
  have hj3 : W3.heap[j]? = _ := (st.block j (Array.getElem?_eq_some_iff.1 hj2).1 hjf).trans hj2
  have bx2 : W2.heap[b9]? = _ := (b02.block b9 (by omega)).trans hbx
  have bx3 : W3.heap[b9]? = _ := (st.block b9 (Array.getElem?_eq_some_iff.1 bx2).1 (fun hf => by have := hft b9 hf; omega)).trans bx2
  have hac : (Dk.armC c0 cut false).age = c0.age := by unfold Dk.armC; split <;> rfl
  have hao : (Dk.armC c0 cut false).off = false := by unfold Dk.armC; rw [if_neg (by simp [ho])]; exact ho
  have hal : (Dk.armC c0 cut false).left ≠ 0 → 0 < cut := by unfold Dk.armC; rw [if_neg (by simp [ho])]; show cut.toNat ≠ 0 → 0 < cut; omega
  have k1 : ∀ k, va.ownBlock = some k → w.heap.size ≤ k ∧ ¬ Dk.Foot p mb [e0] k ∧ k ≠ b9 := fun k hk => by
    have := o1 k hk
    exact ⟨by omega, fun hf => by have := hft k hf; omega, by omega⟩
  have s01 := b1.size
  have k2 : ∀ k, vs.ownBlock = some k → w.heap.size ≤ k ∧ ¬ Dk.Foot p mb [e0] k ∧ k ≠ b9 := fun k hk => by
    have := o2 k hk
    exact ⟨by omega, fun hf => by have := hft k hf; omega, by omega⟩
  have hap : ∀ k, va.ownBlock = some k → vs.ownBlock ≠ some k := fun k hk hk2 => by have := row_lt r1 hk; have := o2 k hk2; omega
  have hrt : EU.Row W3 vs ((H.take H.length).map upQ) := by rw [List.take_length]; exact row_kept r2 st (fun k hk => (k2 k hk).2.1)
  have hd : e0.du = (flU (H.take H.length)).length := by rw [List.take_length]; exact hdu
  have hst : Stay (fun k => Dk.Foot p mb [e0] k ∨ k = j) w W3 := (Stay.below bw2).trans (st.mono (fun k _ hf => .inl hf))
  exact ⟨{ js := hJ, age := hac, du := hd, sl := Nat.le_refl _, gn := hgn, jh := ⟨_, sy, hj3⟩, bx := bx3, b9w := by omega, jw := jl, jf := hjf, bf := fun hf => by (have := hft b9 hf; omega), ra := row_kept (r1.below b2) st (fun k hk => (k1 k hk).2.1), rs := hrt, ka := k1, ks := k2, aps := hap, st := hst, ft := fun k hk => .inl hk }, hao, hal, ⟨sy, hj3⟩⟩
theorem LV.ra1 {w W W1 : World} {p mb j n b9 s : Nat} {A cut : Int} {rv : Array Value} {e0 e : Ent} {c : Dk.Ctl} {L : List Up} {va vs : Value} (h : LV w W p mb j n b9 A cut rv e0 e c L s va vs) (st1 : Stay (fun k => Dk.Foot p mb [e] k ∨ k = j) W W1) : EU.Row W1 va (L.map upQ) := row_kept h.v.ra st1 (fun k h1 h2 => by
    have jlt := h.v.jw
    rcases h2 with h3 | h3
    · exact (h.v.ka k h1).2.1 h3
    · have := (h.v.ka k h1).1; omega)
/-- What a life answers: what may be found at most (L) and at least (the first s of it). -/
def LvO (w : World) (p mb j n : Nat) (A : Int) (e0 : Ent) (H : List Up) (cut sync : Int) (N : Nat) (r : Ending) (W : World) : Prop :=
  ∃ (e : Ent) (c : Dk.Ctl) (L : List Up) (s b9 : Nat) (rv : Array Value) (a1 a2 : Option Addr) (c1 c2 : Nat), r = .returned (.tuple #[.slice a1 L.length c1, .slice a2 s c2, .bool true]) ∧ LV0 w W p mb j n b9 A rv e0 e c L s (.slice a1 L.length c1) (.slice a2 s c2) ∧ H.length ≤ s ∧ L.take H.length = H ∧ L.length ≤ H.length + 60 ∧ (cut = 0 → sync = 1 → 0 < N → H.length < s)
set_option maxHeartbeats 16000000 in
set_option maxRecDepth 100000 in
theorem lives_any {w : World} {p mb j n : Nat} {e0 : Ent} {c0 : Dk.Ctl} {H : List Up} {sy : Int} {ah : Option Addr} {ch : Nat} {la : Option Addr} {lc : Nat} {In : List Uq} {sync cut keep sp : Int} (h : JS w p mb e0 c0 (flU H)) (ho : c0.off = false) (hdu : e0.du = (flU H).length) (hgn : GN n H) (hj : w.heap[j]? = some (.cells (jV p c0.age (n + H.length : Nat) sy) 72 (0, 0))) (hjf : ¬ Dk.Foot p mb [e0] j)
    (hr : EU.Row w (.slice ah H.length ch) (H.map upQ)) (ht : Tb w) (hT : ∀ k, Dk.Foot p mb [e0] k ∨ k = j → k ≠ 0 ∧ k ≠ 2) (hin : ∀ V, Stay (fun k => Dk.Foot p mb [e0] k ∨ k = j) w V → EU.At V la In) (hI : In.length ≤ 3518437208780) (hb : ∀ e ∈ In, I64 e.2.1 ∧ I64 e.2.2.1 ∧ e.2.2.2.size ≤ 140737488351232) (hc64 : I64 cut) (hH : H.length ≤ 900) (hn : n ≤ 1152921504606845976) :
    Calls Tryz.prog 8 #[Pt p, Pt j, .int .i64 n, .slice ah H.length ch, .agg (rnV la In.length lc sync cut keep sp)] w (LvO w p mb j n c0.age e0 H cut sync In.length) := by
  obtain ⟨N, hN⟩ : ∃ N, N = In.length := ⟨_, rfl⟩
  obtain ⟨hh, ehh⟩ : ∃ hh, hh = H.length := ⟨_, rfl⟩
  rw [← hN] at hI ⊢
  rw [← ehh] at hr ⊢
  obtain ⟨W0, hW0⟩ : ∃ W0, W0 = w.alloc (.cells (rnV la N lc sync cut keep sp) 35) := ⟨_, rfl⟩
  have b0 : Below w.heap.size w W0 := hW0 ▸ (Below.refl _ w).alloc (Nat.le_refl _) _
  have s0 : W0.heap.size = w.heap.size + 1 := by rw [hW0]; simp
  have bx0 : W0.heap[w.heap.size]? = some (.cells (rnV la N lc sync cut keep sp) 35 (0, 0)) := hW0 ▸ heap_alloc_last w _
  obtain ⟨a1, c1, W1, hap1, r1, o1, b1⟩ := copy_any W0 (H.map upQ) ah hh ch (hr.below b0) (by rw [List.length_map]; exact ehh) (by rw [List.length_map]; omega)
  obtain ⟨a2, c2, W2, hap2, r2, o2, b2⟩ := copy_any W1 (H.map upQ) ah hh ch ((hr.below b0).below b1) (by rw [List.length_map]; exact ehh) (by rw [List.length_map]; omega)
  have bw2 : Below w.heap.size w W2 := b0.trans ((chain b1 b2 (Nat.le_refl _)).mono (by omega))
  have harm := arm_one (h.below bw2) cut hc64.2 hc64.1
  have z2 : W2.cell? ⟨w.heap.size, 2, none⟩ = some (.int .i64 cut) := by
    have q : W2.heap[w.heap.size]? = _ := ((chain b1 b2 (Nat.le_refl _)).block w.heap.size (by omega)).trans bx0
    rw [cell_of_row _ _ 2 _ _ (0, 0) q]; rfl
  have HS := Hid.mk (fun (W3 : World) (hJ : JS W3 p mb e0 (Dk.armC c0 cut false) (flU H)) (st : Stay (Dk.Foot p mb [e0]) W2 W3) => LV.start (rv := rnV la N lc sync cut keep sp) h ho hdu hgn hj hjf rfl s0 bx0 b0 r1 o1 b1 r2 o2 b2 hJ st)
  have HH := Hid.mk (And.intro ht (And.intro hT (And.intro hin (And.intro hb (And.intro hN (And.intro ehh (And.intro hH hn)))))))
  have HW0 := Hid.mk hW0
  obtain ⟨A, hA⟩ : ∃ A, A = c0.age := ⟨_, rfl⟩
  rw [← hA] at HS ⊢
  clear hA
  clear h ho hdu hgn hj hjf hr ht hT hin hb hN ehh hH hn b0 s0 bx0 r1 o1 b1 r2 o2 b2 bw2 hW0 hc64
  dsimp only [rnV] at HW0
  unfold LvO
  go_enter Tryz.func8, Tryz.ntmps8
  go_wp2_with (at_builtin; (try rw [← HW0.out]); first | (refine Rw.wpList_append_eq rfl _ _ _ _ rfl _ _ _ _ rfl rfl hap1 ?_; clear hap1) | (refine Rw.wpList_append_eq rfl _ _ _ _ rfl _ _ _ _ rfl rfl hap2 ?_; clear hap2))
  refine harm.mono ?_
  clear harm
  rintro r W3 ⟨rfl, hJ3, st3⟩
  have hLV := HS.out W3 hJ3 st3
  clear HS hJ3 st3 z2
  have HL0 := Hid.mk (show ∃ (L : List Up) (s : Nat) (e : Ent) (c : Dk.Ctl), LV w W3 p mb j n w.heap.size A cut (rnV la N lc sync cut keep sp) e0 e c L s (.slice a1 hh c1) (.slice a2 hh c2) ∧ L.length = hh ∧ s = hh ∧ H.length ≤ s ∧ L.take H.length = H ∧ (cut = 0 → sync = 1 → 0 < (0 : Nat) → H.length < s) from ⟨H, H.length, e0, _, hLV, HH.out.2.2.2.2.2.1.symm, HH.out.2.2.2.2.2.1.symm, Nat.le_refl _, List.take_length, fun _ _ h => absurd h (Nat.lt_irrefl 0)⟩)
  clear hLV
  go_wp2
  go_loopw [13, 14, 15] (fun ua us ui wr => ∃ (i l t : Nat) (b1 b2 : Option Addr) (d1 d2 : Nat), ua = .slice b1 l d1 ∧ us = .slice b2 t d2 ∧ ui = .int .i64 i ∧ i ≤ 60 ∧ l = hh + i ∧ Hid (∃ (L : List Up) (s : Nat) (e : Ent) (c : Dk.Ctl), LV w wr p mb j n w.heap.size A cut (rnV la N lc sync cut keep sp) e0 e c L s (.slice b1 l d1) (.slice b2 t d2) ∧ L.length = l ∧ s = t ∧ H.length ≤ s ∧ L.take H.length = H ∧ (cut = 0 → sync = 1 → 0 < i → H.length < s))) (fun _ _ u _ => N - (intOf u).toNat)
  case atStart => exact ⟨0, hh, hh, a1, a2, c1, c2, rfl, rfl, rfl, by omega, rfl, HL0⟩
  case round =>
    clear HL0
    obtain ⟨i, l, t, b1, b2, d1, d2, rfl, rfl, rfl, hi, hl, HM⟩ := hrel
    obtain ⟨L, s, e, c, hL, hLl, hst, hHs, hHt, hF1⟩ := HM.out
    have zb0 : wr.cell? ⟨w.heap.size, 0, none⟩ = some (.slice la N lc) := by rw [cell_of_row _ _ 0 _ _ (0, 0) hL.v.bx]; rfl
    have zb1 : wr.cell? ⟨w.heap.size, 1, none⟩ = some (.int .i64 sync) := by rw [cell_of_row _ _ 1 _ _ (0, 0) hL.v.bx]; rfl
    have zb2 : wr.cell? ⟨w.heap.size, 2, none⟩ = some (.int .i64 cut) := by rw [cell_of_row _ _ 2 _ _ (0, 0) hL.v.bx]; rfl
    by_cases hlt : i < N ∧ i < 60
    · have i1 : (i : Int) < (N : Int) := by omega
      have i2 : (0 : Int) ≤ (i : Int) := by omega
      have i4 : (i : Int) < 60 := by omega
      have hH := HH.out.2.2.2.2.2.2
      have hiN : i < In.length := by rw [← HH.out.2.2.2.2.1]; omega
      obtain ⟨g, off, rfl, x0, x1, x2, x3⟩ := uAt (HH.out.2.2.1 wr hL.v.st) i hiN
      have hbi := HH.out.2.2.2.1 In[i] (List.getElem_mem hiN)
      have hlb : n + l + 1 ≤ 1152921504606846976 := by have h1 := HH.out.2.2.2.2.2.1; omega
      have hg := fun (V : World) => goes_any In[i].1 In[i].2.1 In[i].2.2.1 In[i].2.2.2 (n + l + 1) V (by omega) hbi.1 hbi.2.1
      have hgu := go_good In[i].2.1 In[i].2.2.1 In[i].2.2.2 (n + l + 1) ⟨by omega, hlb⟩
      have hus : (goU In[i].2.1 In[i].2.2.1 In[i].2.2.2 (n + l + 1)).s = n + l + 1 := rfl
      obtain ⟨U, hU⟩ : ∃ U, U = goU In[i].2.1 In[i].2.2.1 In[i].2.2.2 (n + l + 1) := ⟨_, rfl⟩
      rw [← hU] at hg hgu hus
      generalize In[i] = z at x0 x1 x2 x3 hg hU hbi
      obtain ⟨z0, z1, z2, z3⟩ := z
      dsimp only at x0 x1 x2 x3 hg hU hbi
      clear hU hbi
      have HL := Hid.mk (And.intro hL (And.intro hLl (And.intro hst (And.intro hHs (And.intro hHt hF1)))))
      have HU := Hid.mk (And.intro hgu hus)
      have HN := Hid.mk (And.intro hl (And.intro hlt hlb))
      obtain ⟨us, uk, ui, uc⟩ := U
      dsimp only [upV, uC] at hg
      rw [show ((n + l + 1 : Nat) : Int) = (n : Int) + (l : Int) + 1 from by omega] at hg
      clear HM hL hLl hst hHs hHt hF1 hgu hus hl hlt hiN hH
      go_wp2_with fail
      refine (hg _).mono ?_
      clear hg x0 x1 x2 x3
      rintro r v1 ⟨rfl, bg1⟩
      obtain ⟨V, hV⟩ : ∃ V, V = v1.alloc (.cells #[.int .i64 us, .int .i64 uk, .int .i64 ui, .string ⟨uc.toArray⟩] 32) := ⟨_, rfl⟩
      have bV : Below wr.heap.size wr V := hV ▸ bg1.alloc bg1.size _
      obtain ⟨bu, hbu⟩ : ∃ bu, bu = v1.heap.size := ⟨_, rfl⟩
      have hbx : V.heap[bu]? = some (.cells #[.int .i64 us, .int .i64 uk, .int .i64 ui, .string ⟨uc.toArray⟩] 32 (0, 0)) := hbu ▸ hV ▸ heap_alloc_last v1 _
      have hLV := HL.out.1.below bV
      obtain ⟨sy', hjl⟩ := hLV.jl
      rw [← hLV.v.age] at hjl
      have htV : Tab V := (HH.out.1.stay hLV.v.st (fun hf => (HH.out.2.1 _ hf).1 rfl) (fun hf => (HH.out.2.1 _ hf).2 rfl)).tab
      have hLlen : L.length ≤ 100060 := by have h1 := HL.out.2.1; have h2 := HN.out.1; have h3 := HH.out.2.2.2.2.2.1; have h4 := HH.out.2.2.2.2.2.2.1; omega
      have happ := app_any (u := ⟨us, uk, ui, uc⟩) hLV.v.js hjl hLV.v.jfe htV HU.out.1 (by rw [HU.out.2, HL.out.2.1]) (by have := flU_le hLV.v.gn.g; omega) (by have := HL.out.2.1; omega) hLV.off
      dsimp only [upV, uC] at happ
      have HB := Hid.mk (And.intro hLV (And.intro hbx (And.intro hbu (And.intro bg1.size hLlen))))
      have HV := Hid.mk hV
      clear bV hbx hLV hjl htV hV bg1 hLlen
      go_wp2_with fail
      rw [← HV.out]
      refine happ.mono ?_
      clear happ
      rintro r W1 ⟨v, rfl, hE, ⟨e', hJ', hdu', hft'⟩, hj1, st1⟩
      rw [HB.out.1.v.age] at hj1
      have hr1 := HB.out.1.ra1 st1
      obtain ⟨v', W2, hap, hr2, st2, ho2⟩ := Rw.El.app1 okEU W1 (L.map upQ) (.slice b1 l d1) hr1 (upQ ⟨us, uk, ui, uc⟩) (by show (_ + 1) * 40 ≤ _; rw [List.length_map]; have := HB.out.2.2.2.2; omega) (by rw [List.length_map]; have := HB.out.2.2.2.2; omega)
      obtain ⟨a5, cp5, e5, -⟩ := hr2.form
      rw [List.length_append, List.length_map, List.length_singleton, HL.out.2.1] at e5
      subst e5
      obtain ⟨h0, hj2⟩ := HB.out.1.app HU.out.1 (by rw [HU.out.2, HL.out.2.1]) hJ' hdu' hft' hj1 st1 hr2 st2 ho2
      have hws : w.heap.size ≤ wr.heap.size := HL.out.1.v.st.size
      have hjw := HL.out.1.v.jw
      have hbu1 : W1.heap[bu]? = _ := (st1.block bu (Array.getElem?_eq_some_iff.1 HB.out.2.1).1 (fun hf => by
        have h8 := HB.out.2.2.1
        have h9 := HB.out.2.2.2.1
        rcases hf with h1 | h1
        · have := HL.out.1.v.js.dk.lt h1; omega
        · omega)).trans HB.out.2.1
      have hbu2 : W2.heap[bu]? = _ := (st2.block bu (Array.getElem?_eq_some_iff.1 hbu1).1 (fun hf => by
        have h8 := HB.out.2.2.1
        have h9 := HB.out.2.2.2.1
        have := row_lt HL.out.1.v.ra hf
        omega)).trans hbu1
      have y0 : W1.cell? ⟨bu, 0, none⟩ = some (.int .i64 us) := by rw [cell_of_row _ _ 0 _ _ (0, 0) hbu1]; rfl
      have y1 : W1.cell? ⟨bu, 1, none⟩ = some (.int .i64 uk) := by rw [cell_of_row _ _ 1 _ _ (0, 0) hbu1]; rfl
      have y2 : W1.cell? ⟨bu, 2, none⟩ = some (.int .i64 ui) := by rw [cell_of_row _ _ 2 _ _ (0, 0) hbu1]; rfl
      have y3 : W1.cell? ⟨bu, 3, none⟩ = some (.string ⟨uc.toArray⟩) := by rw [cell_of_row _ _ 3 _ _ (0, 0) hbu1]; rfl
      have HBF := Hid.mk (show ¬ Dk.Foot p mb [e'] bu from fun hf => by
        have h9 := HB.out.2.2.2.1
        have h8 := HB.out.2.2.1
        have hb := (Array.getElem?_eq_some_iff.1 HB.out.2.1).1
        rcases hft' bu hf with h1 | h1
        · have := HL.out.1.v.js.dk.lt h1; omega
        · omega)
      have HBJ := Hid.mk (show bu ≠ j from by
        have h9 := HB.out.2.2.2.1
        have h8 := HB.out.2.2.1
        omega)
      have HA := Hid.mk (And.intro h0 (And.intro hj2 hbu2))
      have HBU := Hid.mk HB.out.2.2.1
      dsimp only [EU, upQ] at hap
      clear h0 hj2 hbu1 hbu2 hr1 hr2 st2 ho2 hJ' hdu' hft' hj1 st1 hws hjw
      rw [HBU.out] at y0 y1 y2 y3
      rcases (show v = 45 ∨ v = 0 by rw [hE]; unfold Dk.okE; split; exact .inl rfl; exact .inr rfl) with rfl | rfl
      · have hEH := Hid.mk hE
        clear hE
        go_wp2_with (at_builtin; refine Rw.wpList_append_eq rfl _ _ _ _ rfl _ _ _ _ rfl rfl hap ?_; clear hap)
        have hl1 : c.left = 1 := by
          have h1 := hEH.out
          unfold Dk.okE at h1
          by_cases h2 : c.left = 1
          · exact h2
          · rw [if_neg h2] at h1; cases h1
        have hoff : (Dk.tick c).off = true := by show (c.left == 1) = true; rw [hl1]; rfl
        have hcut : 0 < cut := HL.out.1.arm (by omega)
        have hdn := Dk.down_any W2 HA.out.1.js.dk
        rw [hoff] at hdn
        have zc2 : W2.cell? ⟨w.heap.size, 2, none⟩ = some (.int .i64 cut) := by rw [cell_of_row _ _ 2 _ _ (0, 0) HA.out.1.bx]; rfl
        have HF := Hid.mk (show ∃ (e : Ent) (c : Dk.Ctl) (L : List Up) (s b9 : Nat) (rv : Array Value) (x1 x2 : Option Addr) (d3 d4 : Nat), Ending.returned (.tuple #[.slice a5 (l + 1) cp5, .slice b2 t d2, .bool true]) = Ending.returned (.tuple #[.slice x1 L.length d3, .slice x2 s d4, .bool true]) ∧ LV0 w W2.drew p mb j n b9 A rv e0 e c L s (.slice x1 L.length d3) (.slice x2 s d4) ∧ H.length ≤ s ∧ L.take H.length = H ∧ L.length ≤ H.length + 60 ∧ (cut = 0 → sync = 1 → 0 < N → H.length < s) from by
          have hLl : (L ++ [(⟨us, uk, ui, uc⟩ : Up)]).length = l + 1 := by rw [List.length_append, List.length_singleton, HL.out.2.1]
          refine ⟨e', Dk.tick c, L ++ [⟨us, uk, ui, uc⟩], s, w.heap.size, rnV (some ⟨g, off, none⟩) N lc sync cut keep sp, a5, b2, cp5, d2, by rw [hLl, HL.out.2.2.1], by rw [hLl, HL.out.2.2.1]; have h1 := HA.out.1.below (b_drew W2); rw [HL.out.2.2.1] at h1; exact h1, HL.out.2.2.2.1, ?_, ?_, fun h => absurd hcut (by omega)⟩
          · rw [List.take_append_of_le_length (by have := HL.out.2.2.2.1; have := HL.out.1.v.sl; omega)]; exact HL.out.2.2.2.2.1
          · have h1 := HN.out.1; have h2 := HN.out.2; have h3 := HH.out.2.2.2.2.2.1; rw [hLl]; omega)
        clear hl1 hoff
        refine (num_any 45 W2).mono ?_
        rintro r W2' ⟨rfl, rfl⟩
        go_wp2_with fail
        refine hdn.mono ?_
        clear hdn
        rintro r W2'' ⟨rfl, rfl⟩
        go_wp2_with fail
        go_region
        go_wp2
        go_ret3
        exact HF.out
      · have hEH := Hid.mk hE
        clear hE
        go_wp2_with (at_builtin; refine Rw.wpList_append_eq rfl _ _ _ _ rfl _ _ _ _ rfl rfl hap ?_; clear hap)
        have hjl2 : W2.heap[j]? = some (.cells (jV p A (us : Int) sy') 72 (0, 0)) := by
          have h1 := HA.out.2.1
          simpa using h1
        have hon := HL.out.1.app_on (W2 := W2) hEH.out.symm (u := ⟨us, uk, ui, uc⟩) (by rw [HU.out.2, HL.out.2.1]) HA.out.1 hjl2
        have y0 : W2.cell? ⟨v1.heap.size, 0, none⟩ = some (.int .i64 us) := by rw [← HBU.out, cell_of_row _ _ 0 _ _ (0, 0) HA.out.2.2]; rfl
        have zc1 : W2.cell? ⟨w.heap.size, 1, none⟩ = some (.int .i64 sync) := by rw [cell_of_row _ _ 1 _ _ (0, 0) HA.out.1.bx]; rfl
        have HO := Hid.mk hon
        have hlast := last_any (w := W2.drew) (p := p) (age := A) (la := (us : Int)) (sy := sy') hjl2
        clear hon y1 y2 y3 zb0 zb1 zb2
        refine (num_any 0 W2).mono ?_
        rintro r W2' ⟨rfl, rfl⟩
        go_wp2_with fail
        refine wp_region_held_drew (S := fun w' => w'.cell? ⟨v1.heap.size, 0, none⟩ = some (.int .i64 us)) (by kernel_rfl) ?_ (fun hHeld => ?_)
        · exact y0
        refine wpAnyH_take (i := 0) (oi := { dst := some 67, op := Op.move (Operand.tmp 17), type := 27, pos := "outright.go:76", after := #[], guard := none }) (v := ?vp0) rfl (by kernel_rfl) (by kernel_rfl) (by kernel_rfl) (fun _ _ _ h => h) (Or.inl ⟨by rfl, ?hp0⟩) (by assumption) ?rp0
        case hp0 => (intro w0 hSw; (try dsimp only at hSw); go_simp; first | done | (with_reducible rfl) | (rw [if_pos (by omega)]; try (with_reducible rfl)))
        simp only [Act.put, List.setIfInBounds_toArray, List.set_cons_zero, List.set_cons_succ]
        refine wpAnyH_ready (rs := [1]) (by kernel_rfl) (by simp) ?_
        refine AllReadyH.cons rfl (fun K hK => ?_) AllReadyH.nil
        go_simp
        go_wp2_with (go_at_call 7; refine (num_any 0 _).mono ?_; rintro r w9 ⟨rfl, rfl⟩)
        refine hK.out _ _ ?_ (fun hHeld => ?_)
        · exact y0
        clear hK K
        refine wpAnyH_take (i := 2) (oi := { dst := some 69, op := Op.binOp BinOp.neq 3 (Operand.tmp 68) (Operand.const (Value.int IntKind.i64 0)) 3, type := 4, pos := "outright.go:76", after := #[{ on := 1, ground := Ground.data }], guard := none }) (v := ?vp2) rfl (by kernel_rfl) (by kernel_rfl) (by kernel_rfl) (fun _ _ _ h => h) (Or.inl ⟨by rfl, ?hp2⟩) (by assumption) ?rp2
        case hp2 => (intro w0 hSw; (try dsimp only at hSw); go_simp; first | done | (with_reducible rfl) | (rw [if_pos (by omega)]; try (with_reducible rfl)))
        simp only [Act.put, List.setIfInBounds_toArray, List.set_cons_zero, List.set_cons_succ]
        refine wpAnyH_take (i := 3) (oi := { dst := some 70, op := Op.move (Operand.tmp 69), type := 4, pos := "outright.go:76", after := #[{ on := 2, ground := Ground.data }, { on := 1, ground := Ground.chain }], guard := none }) (v := ?vp3) rfl (by kernel_rfl) (by kernel_rfl) (by kernel_rfl) (fun _ _ _ h => h) (Or.inl ⟨by rfl, ?hp3⟩) (by assumption) ?rp3
        case hp3 => (intro w0 hSw; (try dsimp only at hSw); go_simp; first | done | (with_reducible rfl) | (rw [if_pos (by omega)]; try (with_reducible rfl)))
        simp only [Act.put, List.setIfInBounds_toArray, List.set_cons_zero, List.set_cons_succ]
        refine wpAnyH_take (i := 4) (oi := { dst := some 71, op := Op.move (Operand.tmp 1), type := 26, pos := "outright.go:76", after := #[{ on := 3, ground := Ground.guard }], guard := some (3, false) }) (v := ?vp4) rfl (by kernel_rfl) (by kernel_rfl) (by kernel_rfl) (fun _ _ _ h => h) (Or.inl ⟨by rfl, ?hp4⟩) (by assumption) ?rp4
        case hp4 => (intro w0 hSw; (try dsimp only at hSw); go_simp; first | done | (with_reducible rfl) | (rw [if_pos (by omega)]; try (with_reducible rfl)))
        simp only [Act.put, List.setIfInBounds_toArray, List.set_cons_zero, List.set_cons_succ]
        refine wpAnyH_take (i := 6) (oi := { dst := some 73, op := Op.fieldAddr 32 (Operand.tmp 16) 0, type := 0, pos := "outright.go:76", after := #[{ on := 3, ground := Ground.guard }], guard := some (3, false) }) (v := ?vp6) rfl (by kernel_rfl) (by kernel_rfl) (by kernel_rfl) (fun _ _ _ h => h) (Or.inl ⟨by rfl, ?hp6⟩) (by assumption) ?rp6
        case hp6 => (intro w0 hSw; (try dsimp only at hSw); go_simp; first | done | (with_reducible rfl) | (rw [if_pos (by omega)]; try (with_reducible rfl)))
        simp only [Act.put, List.setIfInBounds_toArray, List.set_cons_zero, List.set_cons_succ]
        refine wpAnyH_take (i := 7) (oi := { dst := some 74, op := Op.load 3 (Operand.tmp 73), type := 3, pos := "outright.go:76", after := #[{ on := 6, ground := Ground.data }, { on := 3, ground := Ground.guard }], guard := some (3, false) }) (v := ?vp7) rfl (by kernel_rfl) (by kernel_rfl) (by kernel_rfl) (fun _ _ _ h => h) (Or.inl ⟨by rfl, ?hp7⟩) (by assumption) ?rp7
        case hp7 => (intro w0 hSw; (try dsimp only at hSw); go_simp; first | done | (with_reducible rfl) | (rw [if_pos (by omega)]; try (with_reducible rfl)))
        simp only [Act.put, List.setIfInBounds_toArray, List.set_cons_zero, List.set_cons_succ]
        refine wpAnyH_ready (rs := [5]) (by kernel_rfl) (by simp) ?_
        refine AllReadyH.cons rfl (fun K hK => ?_) AllReadyH.nil
        go_simp
        go_wp2_with (go_at_call 14; refine hlast.mono ?_; rintro r w9 ⟨rfl, rfl⟩)
        refine hK.out _ _ ?_ (fun hHeld => ?_)
        · exact y0
        clear hK K
        refine wpAnyH_take (i := 8) (oi := { dst := some 75, op := Op.binOp BinOp.neq 3 (Operand.tmp 72) (Operand.tmp 74) 3, type := 4, pos := "outright.go:76", after := #[{ on := 5, ground := Ground.data }, { on := 7, ground := Ground.data }, { on := 3, ground := Ground.guard }], guard := some (3, false) }) (v := Value.bool false) rfl (by kernel_rfl) (by kernel_rfl) (by kernel_rfl) (fun _ _ _ h => h) (Or.inl ⟨by rfl, ?hp8⟩) (by assumption) ?rp8
        case hp8 => (intro w0 hSw; (try dsimp only at hSw); go_simp; first | done | (simp; done) | (with_reducible rfl) | (rw [if_pos (by omega)]; try (with_reducible rfl)))
        simp only [Act.put, List.setIfInBounds_toArray, List.set_cons_zero, List.set_cons_succ]
        refine wpAnyH_take (i := 9) (oi := { dst := some 76, op := Op.pick (Operand.tmp 70) (Operand.const (Value.bool true)) (Operand.tmp 75), type := 4, pos := "outright.go:76", after := #[{ on := 3, ground := Ground.data }, { on := 8, ground := Ground.data }], guard := none }) (v := ?vp9) rfl (by kernel_rfl) (by kernel_rfl) (by kernel_rfl) (fun _ _ _ h => h) (Or.inl ⟨by rfl, ?hp9⟩) (by assumption) ?rp9
        case hp9 => (intro w0 hSw; (try dsimp only at hSw); go_simp; first | done | (with_reducible rfl) | (rw [if_pos (by omega)]; try (with_reducible rfl)))
        simp only [Act.put, List.setIfInBounds_toArray, List.set_cons_zero, List.set_cons_succ]
        refine wpAnyH_done (by kernel_rfl) ?_ _
        clear hlast
        go_wp2_with fail
        rotate_left
        · have hLV2 := HO.out.below (b_drew W2')
          have hjd : W2'.drew.heap[j]? = some (.cells (jV p (Dk.tick c).age (us : Int) sy') 72 (0, 0)) := by rw [hLV2.v.age]; exact hjl2
          have hsy := sync_any hLV2.v.js hjd hLV2.v.jfe hLV2.off
          have HB2 := Hid.mk (And.intro hLV2 (And.intro HA.out.2.2 y0))
          clear hLV2 hjd hjl2 y0
          refine hsy.mono ?_
          clear hsy
          rintro r W3 ⟨v2, rfl, hE2, ⟨e2, hJ2, hdu2, hft2⟩, hj3, st3⟩
          rw [HB2.out.1.v.age] at hj3
          have hLl : (L ++ [(⟨us, uk, ui, uc⟩ : Up)]).length = l + 1 := by rw [List.length_append, List.length_singleton, HL.out.2.1]
          have hHt2 : (L ++ [(⟨us, uk, ui, uc⟩ : Up)]).take H.length = H := by
            rw [List.take_append_of_le_length (by have := HL.out.2.2.2.1; have := HL.out.1.v.sl; omega)]; exact HL.out.2.2.2.2.1
          have hlen60 : l + 1 ≤ H.length + 60 := by have h1 := HN.out.1; have h2 := HN.out.2; have h3 := HH.out.2.2.2.2.2.1; omega
          rcases (show v2 = 45 ∨ v2 = 0 by rw [hE2]; unfold Dk.okE; split; exact .inl rfl; exact .inr rfl) with rfl | rfl
          · have hl1 : (Dk.tick c).left = 1 := by
              unfold Dk.okE at hE2
              by_cases h2 : (Dk.tick c).left = 1
              · exact h2
              · rw [if_neg h2] at hE2; cases hE2
            rw [if_pos hl1] at hdu2
            have hoff : (Dk.tick (Dk.tick c)).off = true := by show ((Dk.tick c).left == 1) = true; rw [hl1]; rfl
            have hcut : 0 < cut := HB2.out.1.arm (by omega)
            have h0 := HB2.out.1.sync_off hJ2 hdu2 hft2 hj3 st3
            have hdn := Dk.down_any W3 h0.js.dk
            rw [hoff] at hdn
            have zc2 : W3.cell? ⟨w.heap.size, 2, none⟩ = some (.int .i64 cut) := by rw [cell_of_row _ _ 2 _ _ (0, 0) h0.bx]; rfl
            have HF := Hid.mk (show ∃ (e : Ent) (c : Dk.Ctl) (L : List Up) (s b9 : Nat) (rv : Array Value) (x1 x2 : Option Addr) (d3 d4 : Nat), Ending.returned (.tuple #[.slice a5 (l + 1) cp5, .slice b2 t d2, .bool true]) = Ending.returned (.tuple #[.slice x1 L.length d3, .slice x2 s d4, .bool true]) ∧ LV0 w W3.drew p mb j n b9 A rv e0 e c L s (.slice x1 L.length d3) (.slice x2 s d4) ∧ H.length ≤ s ∧ L.take H.length = H ∧ L.length ≤ H.length + 60 ∧ (cut = 0 → sync = 1 → 0 < N → H.length < s) from
              ⟨e2, Dk.tick (Dk.tick c), L ++ [⟨us, uk, ui, uc⟩], s, w.heap.size, rnV (some ⟨g, off, none⟩) N lc sync cut keep sp, a5, b2, cp5, d2, by rw [hLl, HL.out.2.2.1], by rw [hLl, HL.out.2.2.1]; have h1 := h0.below (b_drew W3); rw [HL.out.2.2.1] at h1; exact h1, HL.out.2.2.2.1, hHt2, by rw [hLl]; exact hlen60, fun h => absurd hcut (by omega)⟩)
            clear hl1 hoff hE2 hJ2 hdu2 hft2 hj3 st3 h0 hLl hHt2 hlen60 zc1
            go_wp2_with fail
            refine (num_any 45 W3).mono ?_
            rintro r W3' ⟨rfl, rfl⟩
            go_wp2_with fail
            refine hdn.mono ?_
            clear hdn
            rintro r W3'' ⟨rfl, rfl⟩
            go_wp2_with fail
            go_region
            go_wp2
            go_ret3
            exact HF.out
          · have hE2' : Dk.okE (Dk.tick c) = 0 := hE2.symm
            have hl1 : ¬ (Dk.tick c).left = 1 := fun h2 => by
              unfold Dk.okE at hE2
              rw [if_pos h2] at hE2; cases hE2
            rw [if_neg hl1] at hdu2
            have hj4 : W3.heap[j]? = some (.cells (jV p A (us : Int) us) 72 (0, 0)) := by simpa using hj3
            have hbu3 : W3.heap[bu]? = _ := (st3.block bu (Array.getElem?_eq_some_iff.1 HB2.out.2.1).1 (fun hf => by
              rcases hf with h1 | h1
              · exact HBF.out h1
              · exact HBJ.out h1)).trans HB2.out.2.1
            have y0 : W3.cell? ⟨v1.heap.size, 0, none⟩ = some (.int .i64 us) := by rw [← HBU.out, cell_of_row _ _ 0 _ _ (0, 0) hbu3]; rfl
            obtain ⟨a6, cp6, W4, hap, hr4, ho4, b4⟩ := copy_any W3.drew ((L ++ [(⟨us, uk, ui, uc⟩ : Up)]).map upQ) a5 (l + 1) cp5 ((HB2.out.1.ra1 st3).below (b_drew W3)) (by rw [List.length_map, hLl]) (by rw [List.length_map, hLl]; have := HH.out.2.2.2.2.2.2.1; omega)
            have hus' : (us : Int) = ((n + (L ++ [(⟨us, uk, ui, uc⟩ : Up)]).length : Nat) : Int) := by rw [hLl]; have h1 : us = n + l + 1 := HU.out.2; omega
            have hL4 := HB2.out.1.sync_on (W1 := W3) (W2 := W4) hE2' hJ2 hdu2 hft2 (sy := us) (by rw [← hus']; exact hj4) st3 hr4 ho4 (below_d b4)
            rw [hLl] at hL4
            have HO4 := Hid.mk (And.intro hL4 (And.intro hLl (And.intro hHt2 hlen60)))
            have hsyn := synced_any (w := W3.drew) (p := p) (age := A) (la := (us : Int)) (sy := (us : Int)) hj4
            clear hE2 hE2' hl1 hdu2 hj3 hj4 hbu3 hr4 ho4 b4 hus' hL4 hLl hHt2 hlen60 hJ2 hft2 st3
            go_wp2_with fail
            refine (num_any 0 W3).mono ?_
            rintro r W3' ⟨rfl, rfl⟩
            go_wp2_with fail
            refine wp_region_held_drew (S := fun w' => w'.cell? ⟨v1.heap.size, 0, none⟩ = some (.int .i64 us)) (by kernel_rfl) ?_ (fun hHeld => ?_)
            · exact y0
            refine wpAnyH_take (i := 0) (oi := { dst := some 100, op := Op.move (Operand.tmp 17), type := 27, pos := "outright.go:86", after := #[], guard := none }) (v := ?vq0) rfl (by kernel_rfl) (by kernel_rfl) (by kernel_rfl) (fun _ _ _ h => h) (Or.inl ⟨by rfl, ?hq0⟩) (by assumption) ?rq0
            case hq0 => (intro w0 hSw; (try dsimp only at hSw); go_simp; first | done | (with_reducible rfl) | (rw [if_pos (by omega)]; try (with_reducible rfl)))
            simp only [Act.put, List.setIfInBounds_toArray, List.set_cons_zero, List.set_cons_succ]
            refine wpAnyH_ready (rs := [1]) (by kernel_rfl) (by simp) ?_
            refine AllReadyH.cons rfl (fun K hK => ?_) AllReadyH.nil
            go_simp
            go_wp2_with (go_at_call 7; refine (num_any 0 _).mono ?_; rintro r w9 ⟨rfl, rfl⟩)
            refine hK.out _ _ ?_ (fun hHeld => ?_)
            · exact y0
            clear hK K
            refine wpAnyH_take (i := 2) (oi := { dst := some 102, op := Op.binOp BinOp.neq 3 (Operand.tmp 101) (Operand.const (Value.int IntKind.i64 0)) 3, type := 4, pos := "outright.go:86", after := #[{ on := 1, ground := Ground.data }], guard := none }) (v := ?vq2) rfl (by kernel_rfl) (by kernel_rfl) (by kernel_rfl) (fun _ _ _ h => h) (Or.inl ⟨by rfl, ?hq2⟩) (by assumption) ?rq2
            case hq2 => (intro w0 hSw; (try dsimp only at hSw); go_simp; first | done | (with_reducible rfl) | (rw [if_pos (by omega)]; try (with_reducible rfl)))
            simp only [Act.put, List.setIfInBounds_toArray, List.set_cons_zero, List.set_cons_succ]
            refine wpAnyH_take (i := 3) (oi := { dst := some 103, op := Op.move (Operand.tmp 102), type := 4, pos := "outright.go:86", after := #[{ on := 2, ground := Ground.data }, { on := 1, ground := Ground.chain }], guard := none }) (v := ?vq3) rfl (by kernel_rfl) (by kernel_rfl) (by kernel_rfl) (fun _ _ _ h => h) (Or.inl ⟨by rfl, ?hq3⟩) (by assumption) ?rq3
            case hq3 => (intro w0 hSw; (try dsimp only at hSw); go_simp; first | done | (with_reducible rfl) | (rw [if_pos (by omega)]; try (with_reducible rfl)))
            simp only [Act.put, List.setIfInBounds_toArray, List.set_cons_zero, List.set_cons_succ]
            refine wpAnyH_take (i := 4) (oi := { dst := some 104, op := Op.move (Operand.tmp 1), type := 26, pos := "outright.go:86", after := #[{ on := 3, ground := Ground.guard }], guard := some (3, false) }) (v := ?vq4) rfl (by kernel_rfl) (by kernel_rfl) (by kernel_rfl) (fun _ _ _ h => h) (Or.inl ⟨by rfl, ?hq4⟩) (by assumption) ?rq4
            case hq4 => (intro w0 hSw; (try dsimp only at hSw); go_simp; first | done | (with_reducible rfl) | (rw [if_pos (by omega)]; try (with_reducible rfl)))
            simp only [Act.put, List.setIfInBounds_toArray, List.set_cons_zero, List.set_cons_succ]
            refine wpAnyH_take (i := 6) (oi := { dst := some 106, op := Op.fieldAddr 32 (Operand.tmp 16) 0, type := 0, pos := "outright.go:86", after := #[{ on := 3, ground := Ground.guard }], guard := some (3, false) }) (v := ?vq6) rfl (by kernel_rfl) (by kernel_rfl) (by kernel_rfl) (fun _ _ _ h => h) (Or.inl ⟨by rfl, ?hq6⟩) (by assumption) ?rq6
            case hq6 => (intro w0 hSw; (try dsimp only at hSw); go_simp; first | done | (with_reducible rfl) | (rw [if_pos (by omega)]; try (with_reducible rfl)))
            simp only [Act.put, List.setIfInBounds_toArray, List.set_cons_zero, List.set_cons_succ]
            refine wpAnyH_take (i := 7) (oi := { dst := some 107, op := Op.load 3 (Operand.tmp 106), type := 3, pos := "outright.go:86", after := #[{ on := 6, ground := Ground.data }, { on := 3, ground := Ground.guard }], guard := some (3, false) }) (v := ?vq7) rfl (by kernel_rfl) (by kernel_rfl) (by kernel_rfl) (fun _ _ _ h => h) (Or.inl ⟨by rfl, ?hq7⟩) (by assumption) ?rq7
            case hq7 => (intro w0 hSw; (try dsimp only at hSw); go_simp; first | done | (with_reducible rfl) | (rw [if_pos (by omega)]; try (with_reducible rfl)))
            simp only [Act.put, List.setIfInBounds_toArray, List.set_cons_zero, List.set_cons_succ]
            refine wpAnyH_ready (rs := [5]) (by kernel_rfl) (by simp) ?_
            refine AllReadyH.cons rfl (fun K hK => ?_) AllReadyH.nil
            go_simp
            go_wp2_with (go_at_call 15; refine hsyn.mono ?_; rintro r w9 ⟨rfl, rfl⟩)
            refine hK.out _ _ ?_ (fun hHeld => ?_)
            · exact y0
            clear hK K
            refine wpAnyH_take (i := 8) (oi := { dst := some 108, op := Op.binOp BinOp.neq 3 (Operand.tmp 105) (Operand.tmp 107) 3, type := 4, pos := "outright.go:86", after := #[{ on := 5, ground := Ground.data }, { on := 7, ground := Ground.data }, { on := 3, ground := Ground.guard }], guard := some (3, false) }) (v := Value.bool false) rfl (by kernel_rfl) (by kernel_rfl) (by kernel_rfl) (fun _ _ _ h => h) (Or.inl ⟨by rfl, ?hq8⟩) (by assumption) ?rq8
            case hq8 => (intro w0 hSw; (try dsimp only at hSw); go_simp; first | done | (simp; done) | (with_reducible rfl) | (rw [if_pos (by omega)]; try (with_reducible rfl)))
            simp only [Act.put, List.setIfInBounds_toArray, List.set_cons_zero, List.set_cons_succ]
            refine wpAnyH_take (i := 9) (oi := { dst := some 109, op := Op.pick (Operand.tmp 103) (Operand.const (Value.bool true)) (Operand.tmp 108), type := 4, pos := "outright.go:86", after := #[{ on := 3, ground := Ground.data }, { on := 8, ground := Ground.data }], guard := none }) (v := ?vq9) rfl (by kernel_rfl) (by kernel_rfl) (by kernel_rfl) (fun _ _ _ h => h) (Or.inl ⟨by rfl, ?hq9⟩) (by assumption) ?rq9
            case hq9 => (intro w0 hSw; (try dsimp only at hSw); go_simp; first | done | (with_reducible rfl) | (rw [if_pos (by omega)]; try (with_reducible rfl)))
            simp only [Act.put, List.setIfInBounds_toArray, List.set_cons_zero, List.set_cons_succ]
            refine wpAnyH_done (by kernel_rfl) ?_ _
            clear hsyn
            go_wp2_with (at_builtin; refine Rw.wpList_append_eq rfl _ _ _ _ rfl _ _ _ _ rfl rfl hap ?_; clear hap)
            try go_wp2
            exact ⟨⟨i + 1, l + 1, l + 1, a5, a6, cp5, cp6, rfl, rfl, rfl, by have := HN.out.2; omega, by have := HN.out.1; omega, ⟨L ++ [⟨us, uk, ui, uc⟩], l + 1, e2, Dk.tick (Dk.tick c), HO4.out.1, HO4.out.2.1, rfl, by have h1 := HL.out.2.2.2.1; have h2 := HL.out.1.v.sl; have h3 := HL.out.2.1; omega, HO4.out.2.2.1, fun _ _ _ => by have h1 := HN.out.1; have h2 := HH.out.2.2.2.2.2.1; omega⟩⟩, by have := HN.out.2; simp only [intOf]; omega⟩
        · rename_i hbit
          have hLl : (L ++ [(⟨us, uk, ui, uc⟩ : Up)]).length = l + 1 := by rw [List.length_append, List.length_singleton, HL.out.2.1]
          have hHt2 : (L ++ [(⟨us, uk, ui, uc⟩ : Up)]).take H.length = H := by
            rw [List.take_append_of_le_length (by have := HL.out.2.2.2.1; have := HL.out.1.v.sl; omega)]; exact HL.out.2.2.2.2.1
          exact ⟨⟨i + 1, l + 1, t, a5, b2, cp5, d2, rfl, rfl, rfl, by have := HN.out.2; omega, by have := HN.out.1; omega, ⟨L ++ [⟨us, uk, ui, uc⟩], s, e', Dk.tick c, HO.out.below (b_drew W2'), hLl, HL.out.2.2.1, HL.out.2.2.2.1, hHt2, fun h1 h2 h3 => by
            by_cases hi0 : i = 0
            · rw [hi0, h2] at hbit
              exact absurd hbit (by decide)
            · exact HL.out.2.2.2.2.2 h1 h2 (by omega)⟩⟩, by have := HN.out.2; simp only [intOf]; omega⟩
    · have HF := Hid.mk (show ∃ (e : Ent) (c : Dk.Ctl) (L : List Up) (s b9 : Nat) (rv : Array Value) (x1 x2 : Option Addr) (d3 d4 : Nat), Ending.returned (.tuple #[.slice b1 l d1, .slice b2 t d2, .bool true]) = Ending.returned (.tuple #[.slice x1 L.length d3, .slice x2 s d4, .bool true]) ∧ LV0 w wr p mb j n b9 A rv e0 e c L s (.slice x1 L.length d3) (.slice x2 s d4) ∧ H.length ≤ s ∧ L.take H.length = H ∧ L.length ≤ H.length + 60 ∧ (cut = 0 → sync = 1 → 0 < N → H.length < s) from
        ⟨e, c, L, s, w.heap.size, rnV la N lc sync cut keep sp, b1, b2, d1, d2, by rw [hLl, hst], by rw [hLl, hst]; have h1 := hL.v; rw [hst] at h1; exact h1, hHs, hHt, by have h3 := HH.out.2.2.2.2.2.1; omega, fun h1 h2 h3 => hF1 h1 h2 (by omega)⟩)
      clear HM hL hLl hst hHs hHt hF1 hl
      by_cases h1 : i < N
      · have i1 : (i : Int) < (N : Int) := by omega
        have i4 : ¬ (i : Int) < 60 := by omega
        go_wp2
        go_ret3
        exact HF.out
      · have i1 : ¬ (i : Int) < (N : Int) := by omega
        go_wp2
        go_ret3
        exact HF.out
end Go.Proofs.YtcamnalmcghjfaaGreatDoor
namespace Go.Proofs.YtcamnalmcghjfaaGreatDoor
open Go.ChangeShapes Go.WideShapes Go.ChangeAt Go.WideMaps Go.WideElems Go.RowKit Go.Proofs.SealMath
theorem own : ownKnob Tryz.prog.godebug = none := by kernel_rfl
theorem gTab : Tryz.prog.globalNamed "kindred/seal.table" = some 0 := by kernel_rfl
theorem tTab : (Tryz.prog.globals[0]?).map (·.type) = some 126 := by kernel_rfl
theorem cu32 : Tryz.prog.cellsOf 109 = 1 := by kernel_rfl
theorem cTab : Tryz.prog.cellsOf 126 = 16 := by kernel_rfl
theorem gPow : Tryz.prog.globalNamed "internal/strconv.uint64pow10" = some 2 := by kernel_rfl
theorem tPow : (Tryz.prog.globals[2]?).map (·.type) = some 158 := by kernel_rfl
theorem cu64 : Tryz.prog.cellsOf 94 = 1 := by kernel_rfl
theorem cPow : Tryz.prog.cellsOf 158 = 20 := by kernel_rfl
/-- What the rows list. -/
abbrev lst : List (String × DataW Unit) := [("math/bits.deBruijn32tab", Rows.laid_math_bits_deBruijn32tab), ("math/bits.deBruijn64tab", Rows.laid_math_bits_deBruijn64tab), ("internal/strconv.uint64pow10", Rows.laid_internal_strconv_uint64pow10), ("kindred/seal.table", Rows.laid_kindred_seal_table)]
theorem door_met (os : Os) (args : Array Value) : laidMetH Tryz.prog lst ((World.doorLaid Tryz.prog 4000 os).forCall (fun _ _ => 0) ⟨#[], args, []⟩).memory :=
  laidMetH_of_parts3 (fuel := 8) (laidMet_of_run' 8 (by kernel_rfl) (by kernel_rfl)) (by kernel_rfl) (by kernel_rfl)
def tabZ : List Int := [0, 274646895, 549293790, 820201905, 1098587580, 1361435347, 1640403810, 1905808397, 2197175160, 2460548119, 2722870694, 2987750089, 3280807620, 3553878443, 3811616794, 4084100981]
theorem tabZ_at : ∀ i, i < 16 → tabZ.getD i 0 = ((tabN.getD i 0 : Nat) : Int) := by decide +kernel
theorem met_tail {P : Program} {x : String × DataW Unit} {l : List (String × DataW Unit)} {w : World} (h : laidMet P (x :: l) w) : laidMet P l w := by
  obtain ⟨ps, ⟨g, t, cs, fuel, p, q, h1, h2, h3, h4, h5, rfl⟩, hnd, hm⟩ := h
  exact ⟨q, h5, (List.nodup_append.1 hnd).2.1, fun b off hb => hm b off (List.mem_append_right _ hb)⟩
/-- The tables, out of the condition. -/
theorem tab_of {W : World} (h : laidMetH Tryz.prog lst W) : Tab W := by
  rw [MakeChecks.laidMetH_plain _ _ _ (by kernel_rfl)] at h
  have hT := Lib.tabIs_of_head (k := .u32) (zs := tabZ) (rest := []) gTab tTab Tryz.underlying126 Tryz.underlying109 cu32 cTab (met_tail (met_tail (met_tail h)))
  intro i hi
  rw [← tabZ_at i hi]
  exact hT.cell gTab i hi
theorem pow_of {W : World} (h : laidMetH Tryz.prog lst W) : Pow W := by
  rw [MakeChecks.laidMetH_plain _ _ _ (by kernel_rfl)] at h
  exact Lib.tabIs_of_head (k := .u64) (zs := Lib.pow10Tab) gPow tPow Tryz.underlying158 Tryz.underlying94 cu64 cPow (met_tail (met_tail h))
theorem tab_pos {W : World} (h : Tab W) : 0 < W.heap.size := World.block_lt_of_cell? W ⟨0, 0, none⟩ (h 0 (by omega))
end Go.Proofs.YtcamnalmcghjfaaGreatDoor
set_option linter.unusedVariables false
set_option linter.unusedSimpArgs false
namespace Go.Proofs.YtcamnalmcghjfaaGreatDoor
open Go.RowKit Go.Proofs.SealMath Go.Proofs.DiskMath
set_option maxHeartbeats 4000000 in
set_option maxRecDepth 100000 in
theorem begins_any {W : World} {a b : Option Addr} {n m ca cb : Nat} {X Y : List Uq} (h1 : EU.Row W (.slice a n ca) X) (h2 : EU.Row W (.slice b m cb) Y) (hn : n = X.length) (hm : m = Y.length) (hp : Y.take n = X) (hnm : n ≤ m) (hl : m < 4611686018427387904) :
    Calls Tryz.prog 13 #[.slice a n ca, .slice b m cb] W fun r w' => r = .returned (.bool true) ∧ Below W.heap.size W w' := by
  have hcb : m ≤ cb := by
    obtain ⟨a', c', e, hc⟩ := h2.form
    simp only [Value.slice.injEq] at e
    obtain ⟨-, -, rfl⟩ := e
    omega
  have h3 : EU.Row W (.slice b n cb) X := by
    rcases h2.2 with ⟨hv, h0⟩ | ⟨g, cap, cur, hv, -⟩
    · simp only [Value.slice.injEq] at hv
      obtain ⟨rfl, h4, rfl⟩ := hv
      have hX : X = [] := List.length_eq_zero_iff.1 (by omega)
      subst hX
      have : n = 0 := by simpa using hn
      subst this
      exact Rw.El.Row.nil EU W
    · simp only [Value.slice.injEq] at hv
      obtain ⟨rfl, -, rfl⟩ := hv
      have h5 := Rw.El.pre okEU h2 hm hnm
      rw [hp] at h5
      exact h5
  have hs := fun (V : World) (bl : Below W.heap.size W V) => same_any (.slice a n ca) (.slice b n cb) X V (h1.below bl) (h3.below bl) (by omega)
  have i1 : (n : Int) ≤ (m : Int) := by omega
  have i2 : (0 : Int) ≤ (n : Int) := by omega
  have i3 : (n : Int) ≤ (cb : Int) := by omega
  clear h1 h2 h3 hn hm hp
  go_enter Tryz.func13, Tryz.ntmps13
  go_wp2_with fail
  refine (hs W (Below.refl _ _)).mono ?_
  clear hs
  rintro r w1 ⟨rfl, d1⟩
  have HD := Hid.mk (d1.below W.heap.size)
  clear d1
  go_wp2
  go_ret
  exact ⟨rfl, HD.out⟩
end Go.Proofs.YtcamnalmcghjfaaGreatDoor
set_option linter.unusedVariables false
set_option linter.unusedSimpArgs false
namespace Go.Proofs.YtcamnalmcghjfaaGreatDoor
open Go.RowKit Go.ChangeShapes Go.WideShapes Go.Deep
/-- A run as it lies in memory. -/
structure Rn where
  la : Option Addr
  In : List Uq
  lc : Nat
  sync : Int
  cut : Int
  keep : Int
  sp : UInt8
def rnC (r : Rn) : List Value := [.slice r.la r.In.length r.lc, .int .i64 r.sync, .int .i64 r.cut, .int .i64 r.keep, .int .u8 r.sp.toNat]
structure RnOk (W : World) (r : Rn) : Prop where
  at' : EU.At W r.la r.In
  len : r.In.length ≤ 3518437208780
  bd : ∀ e ∈ r.In, I64 e.2.1 ∧ I64 e.2.2.1 ∧ e.2.2.2.size ≤ 140737488351232
  cut : I64 r.cut
  keep : I64 r.keep
theorem cells5 : Tryz.prog.cellsOf 5 = 1 := by kernel_rfl
theorem cellsRun : Tryz.prog.cellsOf 35 = 5 := by kernel_rfl
theorem bytesRun : Tryz.prog.bytesOf 35 = 56 := by kernel_rfl
theorem cellsUps : Tryz.prog.cellsOf 33 = 1 := by kernel_rfl
theorem wf_u8 {z : Int} (h : (Lit.int .u8 z).wf = true) : ∃ x : UInt8, (x.toNat : Int) = z := by
  have h1 : IntKind.u8.min ≤ z ∧ z ≤ IntKind.u8.max := by simpa [Lit.wf] using h
  have e1 : IntKind.u8.min = 0 := by decide
  have e2 : IntKind.u8.max = 255 := by decide
  refine ⟨UInt8.ofNat z.toNat, ?_⟩
  simp
  omega
set_option maxRecDepth 100000 in
theorem run_trod {H : Type} {enc : TypeId × Value → H} {W : World} {base : Nat} {spare : Nat → Bool} {held : Bool} {fuel : Nat} {cs : List Value} {x : DataW H × List MemPlace}
    (h : DataW.trod enc Tryz.prog W base spare held fuel 35 cs = some x) (hsz : ∀ n ∈ x.1.weights Tryz.prog 35, n ≤ reachBytes) : ∃ r : Rn, cs = rnC r ∧ RnOk W r := by
  obtain ⟨xs, k, hk, hxy, hlen, hxl, hf⟩ := DataW.trod_struct Tryz.underlying35 h
  rw [cellsRun] at hlen
  match xs, hxl, cs, hlen with
  | [y0, y1, y2, y3, y4], _, [v0, v1, v2, v3, v4], _ =>
    have g0 := hf 0 _ rfl
    have g1 := hf 1 _ rfl
    have g2 := hf 2 _ rfl
    have g3 := hf 3 _ rfl
    have g4 := hf 4 _ rfl
    simp [cells3, cells5, cellsUps] at g0 g1 g2 g3 g4
    obtain ⟨la, n0, c0, hv⟩ : ∃ la n0 c0, v0 = .slice la n0 c0 := by
      rcases open_slice Tryz.underlying33 g0 with ⟨hcs, _⟩ | ⟨a, len', cap', m, n, D, Pl, hcs, _⟩
      · simp at hcs; exact ⟨none, 0, 0, hcs⟩
      · simp at hcs; exact ⟨some a, len', cap', hcs⟩
    subst hv
    have hx0 : x.1 = .agg [y0.1, y1.1, y2.1, y3.1, y4.1] := congrArg Prod.fst hxy
    obtain ⟨l, hl, hL, hB, hC, hD⟩ := open_uqs (d := y0.1) (ps := y0.2) g0 (fun n hn => hsz n (by
      rw [hx0]
      unfold DataW.weights
      rw [Tryz.underlying35]
      show _ ∈ DataW.weightsEach Tryz.prog (33 :: _) (y0.1 :: _)
      unfold DataW.weightsEach
      exact List.mem_append_left _ hn))
    obtain ⟨n1, e1, _, w1⟩ := DataW.trod_int Tryz.underlying3 g1
    obtain ⟨n2, e2, _, w2⟩ := DataW.trod_int Tryz.underlying3 g2
    obtain ⟨n3, e3, _, w3⟩ := DataW.trod_int Tryz.underlying3 g3
    obtain ⟨n4, e4, _, w4⟩ := DataW.trod_int Tryz.underlying5 g4
    simp at e1 e2 e3 e4
    subst e1 e2 e3 e4
    obtain ⟨ub, hub⟩ := wf_u8 w4
    subst hl
    exact ⟨⟨la, l, c0, n1, n2, n3, ub⟩, by rw [← hub]; rfl, ⟨hL, hB, hC, i64_wf w2, i64_wf w3⟩⟩
set_option maxRecDepth 100000 in
theorem open_runs {H : Type} {enc : TypeId × Value → H} {W : World} {base : Nat} {spare : Nat → Bool} {held : Bool} {fuel : Nat} {a0 : Option Addr} {len cap : Nat} {d : DataW H} {ps : List MemPlace}
    (h : DataW.trod enc Tryz.prog W base spare held fuel 22 [.slice a0 len cap] = some (d, ps)) (hsz : ∀ n ∈ d.weights Tryz.prog 22, n ≤ reachBytes) :
    ∃ l : List Rn, l.length = len ∧ (∀ i (hi : i < l.length), ∃ g off, a0 = some ⟨g, off, none⟩ ∧ ∀ k u, (rnC l[i])[k]? = some u → W.cell? ⟨g, off + (i * 5 + k), none⟩ = some u) ∧ (∀ r ∈ l, RnOk W r) ∧ l.length ≤ 2513169434843 ∧ len ≤ cap ∧ (a0 = none → len = 0 ∧ cap = 0) := by
  rcases open_slice Tryz.underlying22 h with ⟨hcs, _⟩ | ⟨a, len', cap', m, n, D, Pl, hcs, _, hlc, _, hm, hx, hel⟩
  · simp at hcs
    obtain ⟨rfl, rfl, rfl⟩ := hcs
    exact ⟨[], rfl, fun i hi => (by simp at hi), fun e he => (by cases he), by simp, Nat.le_refl _, fun _ => ⟨rfl, rfl⟩⟩
  · simp at hcs
    obtain ⟨rfl, rfl, rfl⟩ := hcs
    have hlm : len ≤ m := by rw [hm]; split <;> omega
    simp only [Prod.mk.injEq] at hx
    obtain ⟨hd, hps⟩ := hx
    have each : ∀ i, i < len → ∃ e : Rn, (∀ j v, (rnC e)[j]? = some v → W.cell? ((a.add (i * 5)).add j) = some v) ∧ RnOk W e := by
      intro i hi
      obtain ⟨cs', h1, h2⟩ := hel i (by omega)
      rw [cellsRun] at h1
      obtain ⟨_, hlen, hcell⟩ := World.cells?_some h1
      obtain ⟨e, rfl, hok⟩ := run_trod h2 (fun n hn => hsz n (by
        rw [hd]
        unfold DataW.weights
        rw [Tryz.underlying22]
        exact List.mem_cons_of_mem _ (List.mem_append_left _ (weights_in (d := D i) (List.mem_map.2 ⟨i, List.mem_range.2 hi, rfl⟩) hn))))
      refine ⟨e, fun j v hv => ?_, hok⟩
      have hj : j < 5 := by have := (List.getElem?_eq_some_iff.1 hv).1; simpa [rnC] using this
      rw [hcell j hj, hv]
    haveI : Inhabited Rn := ⟨⟨none, [], 0, 0, 0, 0, 0⟩⟩
    obtain ⟨F, hF⟩ := choose_lt each
    have hlen : len ≤ 2513169434843 := by
      have hw := hsz ((((List.range len).map D).length + ((List.range (m - len)).map fun j => D (len + j)).length) * Tryz.prog.bytesOf 35) (by
        rw [hd]
        unfold DataW.weights
        rw [Tryz.underlying22]
        exact List.mem_cons_self)
      rw [bytesRun] at hw
      simp at hw
      have : reachBytes = 140737488351232 := by decide
      omega
    refine ⟨(List.range len).map F, by simp, fun i hi => ?_, fun r hr => ?_, by simpa using hlen, hlc, fun h => by cases h⟩
    · have hi' : i < len := by simpa using hi
      obtain ⟨b, off, spot⟩ := a
      have hsp : spot = none := by
        have := World.cell?_spot ((hF 0 (by omega)).1 0 _ rfl)
        simpa [Addr.add] using this
      subst hsp
      refine ⟨b, off, rfl, fun k u hu => ?_⟩
      have h1 := (hF i hi').1 k u (by simpa using hu)
      rw [add_plain, add_plain, Nat.add_assoc] at h1
      exact h1
    · obtain ⟨i, hi, rfl⟩ := List.mem_map.1 hr
      exact (hF i (List.mem_range.1 hi)).2
end Go.Proofs.YtcamnalmcghjfaaGreatDoor
set_option linter.unusedVariables false
set_option linter.unusedSimpArgs false
namespace Go.Proofs.YtcamnalmcghjfaaGreatDoor
open Go.RowKit Go.Proofs.SealMath Go.Proofs.DiskMath
theorem cell_stay {F : Nat → Prop} {w W : World} (s : Stay F w W) {a : Addr} {u : Value} (h : w.cell? a = some u) (hF : ¬ F a.block) : W.cell? a = some u := by
  have hl := World.block_lt_of_cell? w a h
  have e := s.block a.block hl hF
  unfold World.cell? at h ⊢
  rw [e]; exact h
theorem at_stay {F : Nat → Prop} {w W : World} {la : Option Addr} {In : List Uq} (h : EU.At w la In) (s : Stay F w W) (hF : ∀ g off, la = some ⟨g, off, none⟩ → g < w.heap.size → ¬ F g) : EU.At W la In := ⟨fun hn => by
  obtain ⟨g, off, e, hr⟩ := h.at' hn
  refine ⟨g, off, e, fun j x hx => ?_⟩
  have h1 := hr j x hx
  exact cell_stay s h1 (hF g off e (World.block_lt_of_cell? _ _ h1))⟩
/-- Where the call began: the tables, the disk's blocks apart from them. -/
structure Cx (w : World) (p mb j0 : Nat) (e0 : Ent) : Prop where
  tb : Tb w
  ne : ∀ k, Dk.Foot p mb [e0] k ∨ k = j0 → k ≠ 0 ∧ k ≠ 2
section
variable {w W W1 : World} {p mb j0 j n : Nat} {e0 e : Ent} {c : Dk.Ctl} {H : List Up} {v : Value}
theorem Cx.lat (h : Cx w p mb j0 e0) (st : Stay (fun k => Dk.Foot p mb [e0] k ∨ k = j0) w W) : Tb W :=
  h.tb.stay st (fun hf => (h.ne _ hf).1 rfl) (fun hf => (h.ne _ hf).2 rfl)
theorem Cx.nel (h : Cx w p mb j0 e0) (ft : ∀ k, Dk.Foot p mb [e] k → Dk.Foot p mb [e0] k ∨ w.heap.size ≤ k) : ∀ k, Dk.Foot p mb [e] k → k ≠ 0 ∧ k ≠ 2 := fun k hk => by
  rcases ft k hk with h1 | h1
  · exact h.ne k (.inl h1)
  · have h2 := pow_pos h.tb.pow
    exact ⟨by omega, by omega⟩
/-- What stands at the head of a round: the journal j over the disk, whose one file is what was found. -/
structure PW (w W : World) (p mb j0 j n : Nat) (e0 e : Ent) (c : Dk.Ctl) (H : List Up) (v : Value) : Prop where
  js : JS W p mb e c (flU H)
  off : c.off = false
  left : c.left = 0
  du : e.du = (flU H).length
  gn : GN n H
  jh : ∃ sy, W.heap[j]? = some (.cells (jV p c.age (n + H.length : Nat) sy) 72 (0, 0))
  jf : ¬ Dk.Foot p mb [e] j
  row : EU.Row W v (H.map upQ)
  rf : ∀ k, v.ownBlock = some k → ¬ Dk.Foot p mb [e] k ∧ k ≠ j
  rg : ∀ k, v.ownBlock = some k → w.heap.size ≤ k
  st : Stay (fun k => Dk.Foot p mb [e0] k ∨ k = j0) w W
  ft : ∀ k, Dk.Foot p mb [e] k → Dk.Foot p mb [e0] k ∨ w.heap.size ≤ k
  jn : j = j0 ∨ w.heap.size ≤ j
theorem PW.below (h : PW w W p mb j0 j n e0 e c H v) (b : Below W.heap.size W W1) : PW w W1 p mb j0 j n e0 e c H v :=
  { h with
    js := h.js.below b
    jh := by
      obtain ⟨sy, h1⟩ := h.jh
      exact ⟨sy, (b.block j (Array.getElem?_eq_some_iff.1 h1).1).trans h1⟩
    row := h.row.below b
    st := h.st.trans (.below b) }
theorem PW.ne (h : PW w W p mb j0 j n e0 e c H v) (hx : Cx w p mb j0 e0) : ∀ k, Dk.Foot p mb [e] k ∨ k = j → k ≠ 0 ∧ k ≠ 2 := fun k hk => by
  rcases hk with h1 | rfl
  · exact hx.nel h.ft k h1
  · rcases h.jn with h1 | h1
    · exact hx.ne k (.inr h1)
    · have h2 := pow_pos hx.tb.pow
      exact ⟨by omega, by omega⟩
/-- What a stay beside this journal and this disk is to where the rounds began. -/
theorem PW.stays (h : PW w W p mb j0 j n e0 e c H v) (st : Stay (fun k => Dk.Foot p mb [e] k ∨ k = j) W W1) : Stay (fun k => Dk.Foot p mb [e0] k ∨ k = j0) w W1 :=
  h.st.andThen st (fun k hk h2 => by
    rcases h2 with h1 | h1
    · rcases h.ft k h1 with h3 | h3
      · exact .inl h3
      · omega
    · rcases h.jn with h3 | h3
      · exact .inr (h1.trans h3)
      · omega)
end
section
variable {W : World} {p mb n : Nat} {e : Ent} {c : Dk.Ctl}
/-- Open of a file that is whole frames: nothing is written. -/
theorem open_told {H : List Up} (h : JS W p mb e c (flU H)) (ho : c.off = false) (hl : c.left = 0) (ht : Tb W) (hT : ∀ k, Dk.Foot p mb [e] k → k ≠ 0 ∧ k ≠ 2) (hg : GN n H) (hn : n + H.length ≤ 1152921504606846976) :
    Calls Tryz.prog 12 #[Pt p, .int .i64 9, .int .i64 n, .int .i64 64] W fun r W' => ∃ j a cp, r = .returned (.tuple #[Pt j, .slice a H.length cp, .int .i64 0]) ∧ EU.Row W' (.slice a H.length cp) (H.map upQ) ∧ (∀ k, (Value.slice a H.length cp).ownBlock = some k → W.heap.size ≤ k) ∧ W.heap.size ≤ j ∧ W'.heap[j]? = some (.cells (jV p c.age (n + H.length : Nat) n) 72 (0, 0)) ∧ JS W' p mb e c (flU H) ∧ Below W.heap.size W W' := by
  obtain ⟨h1, h2⟩ := lk_told (by omega) hg ⟨(flU H).toArray⟩ (told_good _ H hg.g rfl)
  refine (open_nine h ho hl ht hT h1 h2 (Nat.le_refl _) List.take_length hn).mono ?_
  rintro r W' ⟨j, a, cp, rfl, k1, k2, k3, k4, k5⟩
  rcases k5 with ⟨_, k6, k7⟩ | ⟨k6, _⟩
  · exact ⟨j, a, cp, rfl, k1, k2, k3, k4, k6, k7⟩
  · exact absurd rfl k6
/-- Open of a file that begins with whole frames. -/
theorem open_cut {M : List Up} {D : List UInt8} (h : JS W p mb e c D) (ho : c.off = false) (hl : c.left = 0) (hd : e.du = D.length) (ht : Tb W) (hT : ∀ k, Dk.Foot p mb [e] k → k ≠ 0 ∧ k ≠ 2) (hlk : lkL ⟨D.toArray⟩ n 64 = plU 0 M) (hle : lkE ⟨D.toArray⟩ n 64 = 0) (hmd : (flU M).length ≤ D.length) (htk : D.take (flU M).length = flU M) (hM : n + M.length ≤ 1152921504606846976) :
    Calls Tryz.prog 12 #[Pt p, .int .i64 9, .int .i64 n, .int .i64 64] W fun r W' => ∃ j a cp e' c', r = .returned (.tuple #[Pt j, .slice a M.length cp, .int .i64 0]) ∧ EU.Row W' (.slice a M.length cp) (M.map upQ) ∧ (∀ k, (Value.slice a M.length cp).ownBlock = some k → W.heap.size ≤ k ∧ ¬ Dk.Foot p mb [e'] k ∧ k ≠ j) ∧ W.heap.size ≤ j ∧ W'.heap[j]? = some (.cells (jV p c'.age (n + M.length : Nat) n) 72 (0, 0)) ∧ ¬ Dk.Foot p mb [e'] j ∧ JS W' p mb e' c' (flU M) ∧ e'.du = (flU M).length ∧ c'.off = false ∧ c'.left = 0 ∧ Stay (Dk.Foot p mb [e]) W W' ∧ (∀ k, Dk.Foot p mb [e'] k → Dk.Foot p mb [e] k ∨ W.heap.size ≤ k) := by
  refine (open_nine h ho hl ht hT hlk hle hmd htk hM).mono ?_
  rintro r W' ⟨j, a, cp, rfl, k1, k2, k3, k4, k5⟩
  have kj : ∀ k, (Value.slice a M.length cp).ownBlock = some k → k ≠ j := fun k hk e1 => by
    obtain ⟨cur, h1⟩ := row_block k1 hk
    rw [e1, k4] at h1
    simp at h1
  rcases k5 with ⟨k6, k7, k8⟩ | ⟨k6, k7, e', k8, k9, k10, k11, k12⟩
  · have e1 : D = flU M := by
      rw [k6, List.take_length] at htk
      exact htk
    refine ⟨j, a, cp, e, c, rfl, k1, fun k hk => ⟨k2 k hk, fun hf => ?_, kj k hk⟩, k3, k4, fun hf => ?_, by rw [← e1]; exact k7, by rw [hd, k6], ho, hl, .below k8, fun k hk => .inl hk⟩
    · have h1 := h.dk.lt hf
      have h2 := k2 k hk
      omega
    · have h1 := h.dk.lt hf; omega
  · refine ⟨j, a, cp, e', Dk.tick c, rfl, k1, fun k hk => ⟨k2 k hk, k12 k hk, kj k hk⟩, k3, k4, k11, k8, by rw [k9, hd]; omega, ?_, ?_, k7, k10⟩
    · show (c.left == 1) = false
      rw [hl]; rfl
    · show c.left - 1 = 0
      rw [hl]
end
/-- What stands behind a power cut. -/
structure CR (w W : World) (p mb j0 j n : Nat) (A : Int) (e0 e : Ent) (c : Dk.Ctl) (D : List UInt8) (L : List Up) (s m : Nat) (va vs : Value) : Prop where
  js : JS W p mb e c D
  off : c.off = false
  left : c.left = 0
  age : c.age ≠ A
  du : e.du = D.length
  jh : ∃ la sy, W.heap[j]? = some (.cells (jV p A la sy) 72 (0, 0))
  l1 : lkL ⟨D.toArray⟩ n 64 = plU 0 (L.take m)
  l2 : lkE ⟨D.toArray⟩ n 64 = 0
  l3 : (flU (L.take m)).length ≤ D.length
  l4 : D.take (flU (L.take m)).length = flU (L.take m)
  sm : s ≤ m
  ml : m ≤ L.length
  gn : GN n L
  ra : EU.Row W va (L.map upQ)
  rs : EU.Row W vs ((L.take s).map upQ)
  ka : ∀ k, va.ownBlock = some k → ¬ Dk.Foot p mb [e] k
  ks : ∀ k, vs.ownBlock = some k → ¬ Dk.Foot p mb [e] k
  st : Stay (fun k => Dk.Foot p mb [e0] k ∨ k = j0) w W
  ft : ∀ k, Dk.Foot p mb [e] k → Dk.Foot p mb [e0] k ∨ w.heap.size ≤ k
section
variable {w w1 W W1 W2 : World} {p mb j0 j n b9 : Nat} {A : Int} {e0 e e1 e2 : Ent} {c c1 : Dk.Ctl} {H L : List Up} {s m : Nat} {D : List UInt8} {v va vs : Value} {rv : Array Value}
theorem CR.below (h : CR w W p mb j0 j n A e0 e c D L s m va vs) (b : Below W.heap.size W W1) : CR w W1 p mb j0 j n A e0 e c D L s m va vs :=
  { h with
    js := h.js.below b
    jh := by
      obtain ⟨la, sy, h1⟩ := h.jh
      exact ⟨la, sy, (b.block j (Array.getElem?_eq_some_iff.1 h1).1).trans h1⟩
    ra := h.ra.below b
    rs := h.rs.below b
    st := h.st.trans (.below b) }
theorem age_next (a : Int) : wrap64 (a + 1) ≠ a := by unfold wrap64; omega
/-- A life, and the power cut behind it. -/
theorem PW.crash (h : PW w w1 p mb j0 j n e0 e c H v) (hn : n ≤ 1152921504606846976) (hv : LV0 w1 W p mb j n b9 c.age rv e e1 c1 L s va vs) (b : Below W.heap.size W W1) (k : Nat) (sp : UInt8) (hk : e1.du + k ≤ (flU L).length) (st : Stay (Dk.Foot p mb [e1]) W1 W2) (hJ : JS W2 p mb e2 (Dk.crashC c1) (Dk.loseL (flU L) e1.du k sp)) (hd : e2.du = e1.du + k) (hf : ∀ k, Dk.Foot p mb [e2] k → Dk.Foot p mb [e1] k ∨ W1.heap.size ≤ k) :
    ∃ m, CR w W2 p mb j0 j n c.age e0 e2 (Dk.crashC c1) (Dk.loseL (flU L) e1.du k sp) L s m va vs := by
  have hdu := hv.du
  obtain ⟨m, h1, h2, h3, h4, h5, h6⟩ := lk_cut hn hv.gn s k sp hv.sl (by rw [← hdu]; exact hk) (Dk.loseL (flU L) e1.du k sp) (by rw [hdu])
  have hv1 := hv.below b
  have hbs : W.heap.size ≤ W1.heap.size := b.size
  have hkk : ∀ (x : Value), (∀ k, x.ownBlock = some k → w1.heap.size ≤ k ∧ ¬ Dk.Foot p mb [e1] k ∧ k ≠ b9) → (∀ k, x.ownBlock = some k → k < W1.heap.size) → ∀ k, x.ownBlock = some k → ¬ Dk.Foot p mb [e2] k := fun x hx hlt k hk h2 => by
    rcases hf k h2 with h3 | h3
    · exact (hx k hk).2.1 h3
    · have := hlt k hk; omega
  refine ⟨m, { js := hJ, off := rfl, left := rfl, age := ?_, du := ?_, jh := ?_, l1 := h3, l2 := h4, l3 := h5, l4 := h6, sm := h1, ml := h2, gn := hv.gn, ra := row_kept hv1.ra st (fun k hk => (hv.ka k hk).2.1), rs := row_kept hv1.rs st (fun k hk => (hv.ks k hk).2.1), ka := hkk va hv.ka (fun k hk => row_lt hv1.ra hk), ks := hkk vs hv.ks (fun k hk => row_lt hv1.rs hk), st := ?_, ft := ?_ }⟩
  · show wrap64 (c1.age + 1) ≠ c.age
    rw [hv.age]; exact age_next _
  · rw [hd, Dk.loseL_len _ _ _ _ hk]
  · obtain ⟨la, sy, h7⟩ := hv1.jh
    exact ⟨la, sy, (st.block j (Array.getElem?_eq_some_iff.1 h7).1 hv.jfe).trans h7⟩
  · refine (h.stays ((hv.st.trans (.below b)).andThen st (fun k hk h7 => ?_)))
    rcases hv.ft k h7 with h8 | h8
    · exact .inl h8
    · omega
  · intro k hk
    have hw : w.heap.size ≤ w1.heap.size := h.st.size
    have hw1 : w1.heap.size ≤ W.heap.size := hv.st.size
    rcases hf k hk with h7 | h7
    · rcases hv.ft k h7 with h8 | h8
      · exact h.ft k h8
      · exact .inr (by omega)
    · exact .inr (by omega)
/-- What is opened behind a power cut. -/
theorem CR.open_any (h : CR w W p mb j0 j n A e0 e c D L s m va vs) (hx : Cx w p mb j0 e0) (hn : n + L.length ≤ 1152921504606846976) :
    Calls Tryz.prog 12 #[Pt p, .int .i64 9, .int .i64 n, .int .i64 64] W fun r W' => ∃ j' a cp e' c', r = .returned (.tuple #[Pt j', .slice a m cp, .int .i64 0]) ∧ PW w W' p mb j0 j' n e0 e' c' (L.take m) (.slice a m cp) ∧ W'.heap[j']? = some (.cells (jV p c'.age (n + m : Nat) n) 72 (0, 0)) ∧ EU.Row W' va (L.map upQ) ∧ EU.Row W' vs ((L.take s).map upQ) := by
  have hml : (L.take m).length = m := by rw [List.length_take]; have := h.ml; omega
  have ho := open_cut h.js h.off h.left h.du (hx.lat h.st) (hx.nel h.ft) h.l1 h.l2 h.l3 h.l4 (by rw [hml]; have := h.ml; omega)
  rw [hml] at ho
  refine ho.mono ?_
  rintro r W' ⟨j', a, cp, e', c', rfl, k1, k2, k3, k4, k5, k6, k7, k8, k9, k10, k11⟩
  have hw : w.heap.size ≤ W.heap.size := h.st.size
  refine ⟨j', a, cp, e', c', rfl, { js := k6, off := k8, left := k9, du := k7, gn := h.gn.take m, jh := ⟨n, by rw [hml]; exact k4⟩, jf := k5, row := k1, rf := fun k hk => (k2 k hk).2, rg := fun k hk => by (have := (k2 k hk).1; omega), st := h.st.andThen k10 (fun k hk h1 => ?_), ft := fun k hk => ?_, jn := .inr (by omega) }, k4, row_kept h.ra k10 h.ka, row_kept h.rs k10 h.ks⟩
  · rcases h.ft k h1 with h2 | h2
    · exact .inl h2
    · omega
  · rcases k11 k hk with h1 | h1
    · exact h.ft k h1
    · exact .inr (by omega)
/-- Opened again. -/
theorem PW.open_any (h : PW w W p mb j0 j n e0 e c H v) (hx : Cx w p mb j0 e0) (hn : n + H.length ≤ 1152921504606846976) :
    Calls Tryz.prog 12 #[Pt p, .int .i64 9, .int .i64 n, .int .i64 64] W fun r W' => ∃ j' a cp, r = .returned (.tuple #[Pt j', .slice a H.length cp, .int .i64 0]) ∧ PW w W' p mb j0 j' n e0 e c H (.slice a H.length cp) ∧ EU.Row W' v (H.map upQ) ∧ Below W.heap.size W W' := by
  refine (open_told h.js h.off h.left (hx.lat h.st) (hx.nel h.ft) h.gn hn).mono ?_
  rintro r W' ⟨j', a, cp, rfl, k1, k2, k3, k4, k5, k6⟩
  have hw : w.heap.size ≤ W.heap.size := h.st.size
  have kj : ∀ k, (Value.slice a H.length cp).ownBlock = some k → k ≠ j' := fun k hk e1 => by
    obtain ⟨cur, h1⟩ := row_block k1 hk
    rw [e1, k4] at h1
    simp at h1
  refine ⟨j', a, cp, rfl, { js := k5, off := h.off, left := h.left, du := h.du, gn := h.gn, jh := ⟨n, k4⟩, jf := fun hf => ?_, row := k1, rf := fun k hk => ⟨fun hf => ?_, kj k hk⟩, rg := fun k hk => by (have := k2 k hk; omega), st := h.st.trans (.below k6), ft := h.ft, jn := .inr (by omega) }, h.row.below k6, k6⟩
  · have := h.js.dk.lt hf; omega
  · have h1 := h.js.dk.lt hf
    have h2 := k2 k hk
    omega
end
end Go.Proofs.YtcamnalmcghjfaaGreatDoor
set_option linter.unusedVariables false
set_option linter.unusedSimpArgs false
namespace Go.Proofs.YtcamnalmcghjfaaGreatDoor
open Go.RowKit Go.Proofs.SealMath Go.Proofs.DiskMath
abbrev ER : Rw.El Rn := ⟨35, 22, 5, 56, .agg #[.slice none 0 0, .int .i64 0, .int .i64 0, .int .i64 0, .int .u8 0], rnC⟩
theorem okER : ER.Ok Tryz.prog := ⟨fun _ => rfl, fun x u hu => by
  simp [rnC] at hu
  rcases hu with rfl | rfl | rfl | rfl | rfl <;> rfl, by decide, rfl, by decide, by kernel_rfl, by kernel_rfl⟩
/-- The literal, and what came in behind it. -/
theorem runs_any (W : World) (bl : Nat) (r0 : Rn) (hb : W.heap[bl]? = some (.cells (rnC r0).toArray 35 (0, 0))) (ra : Option Addr) (rl rc : Nat) (X : List Rn) (hX : X.length = rl)
    (hat : ∀ i (hi : i < X.length), ∃ g off, ra = some ⟨g, off, none⟩ ∧ ∀ k u, (rnC X[i])[k]? = some u → W.cell? ⟨g, off + (i * 5 + k), none⟩ = some u) (hn : ra = none → rl = 0 ∧ rc = 0) (hl : rl ≤ 2513169434843) :
    ∃ g' cp W', (Builtin.append_ #[22, 22] 22 #[.slice (some ⟨bl, 0, none⟩) 1 1, .slice ra rl rc]).run Tryz.prog W = .ok (.slice (some ⟨g', 0, none⟩) (1 + rl) cp) W' ∧ ER.Row W' (.slice (some ⟨g', 0, none⟩) (1 + rl) cp) (r0 :: X) ∧ (g' = bl ∨ W.heap.size ≤ g') ∧ Stay (fun k => k = bl) W W' := by
  subst hX
  have hrow : ER.Row W (.slice (some ⟨bl, 0, none⟩) 1 1) [r0] := by
    refine ⟨by show _ = 1 * 5; simp [rnC], .inr ⟨bl, 1, (rnC r0).toArray, rfl, Nat.zero_le _, hb, Nat.le_refl _, by unfold maxLen; omega, rfl, by simp [rnC]⟩⟩
  cases ra with
  | none =>
    obtain ⟨h1, h2⟩ := hn rfl
    have hX : X = [] := List.eq_nil_of_length_eq_zero h1
    subst hX h2
    exact ⟨bl, 1, W, by kernel_rfl, hrow, .inl rfl, .refl _ _⟩
  | some a =>
    obtain ⟨i0, hi, hz0, hz1, hz2⟩ := info_parts okER.info
    obtain ⟨v', W', hap, ho, hg, -, hloc⟩ := run_append_own_at (P := Tryz.prog) W 0 22 22 35 i0 _ 5 56 okER.und hi hz0 hz1 hz2 okER.zs (by decide) _ 1 _ hrow a X.length rc (X.flatMap rnC) (okER.len X) (fun j u hu => by
      have hlen := okER.len X
      have hj : j < X.length * 5 := by
        have h1 := (List.getElem?_eq_some_iff.1 hu).1
        rw [hlen] at h1; exact h1
      have hi : j / 5 < X.length := by omega
      obtain ⟨g, off, e3, hr⟩ := hat (j / 5) hi
      simp only [Option.some.injEq] at e3
      subst e3
      have hf := Rw.flat_at rnC 5 (fun _ => rfl) X (j / 5) (j % 5) hi (by omega)
      have e5 : j / 5 * 5 + j % 5 = j := by omega
      rw [e5, hu] at hf
      have h2 := hr (j % 5) u hf.symm
      rw [e5] at h2
      have e4 : (⟨g, off, none⟩ : Addr).add j = ⟨g, off + j, none⟩ := add_plain ..
      rw [e4]; exact h2) (okER.ones X) (by unfold maxLen; omega) (by omega) (Nat.zero_le _)
    have hrow' : ER.Row W' v' (r0 :: X) := by
      show W'.ownsRow 0 35 5 v' (r0 :: X).length _
      rw [List.length_cons, Nat.add_comm X.length 1]
      exact ho
    obtain ⟨a5, c5, e5, -⟩ := hrow'.form
    rw [List.length_cons, Nat.add_comm X.length 1] at e5
    subst e5
    rcases hrow'.2 with ⟨_, h0⟩ | ⟨g', cap, cur, hv, -⟩
    · simp at h0
    · simp only [Value.slice.injEq] at hv
      obtain ⟨rfl, -, rfl⟩ := hv
      refine ⟨g', c5, W', hap, hrow', ?_, Stay.grown (F := fun k => k = bl) hg (fun k hk => (Option.some.inj hk).symm)⟩
      rcases hloc with h8 | h8
      · left; exact Option.some.inj h8
      · right; exact Nat.le_of_eq (Option.some.inj h8).symm
/-- The runs, where the rounds begin. -/
structure RS (w : World) (p mb j0 : Nat) (e0 : Ent) (g : Nat) (X : List Rn) : Prop where
  cell : ∀ i (hi : i < X.length) k u, (rnC X[i])[k]? = some u → w.cell? ⟨g, i * 5 + k, none⟩ = some u
  gf : ¬ (Dk.Foot p mb [e0] g ∨ g = j0)
  ok : ∀ r ∈ X, RnOk w r ∧ (r.In ≠ [] → ∀ g off, r.la = some ⟨g, off, none⟩ → ¬ (Dk.Foot p mb [e0] g ∨ g = j0))
section
variable {w W W1 : World} {p mb j0 j n g : Nat} {e0 e : Ent} {c : Dk.Ctl} {H : List Up} {v : Value} {X : List Rn}
theorem RS.cells (h : RS w p mb j0 e0 g X) (st : Stay (fun k => Dk.Foot p mb [e0] k ∨ k = j0) w W) (i : Nat) (hi : i < X.length) (k : Nat) (u : Value) (hu : (rnC X[i])[k]? = some u) : W.cell? ⟨g, i * 5 + k, none⟩ = some u :=
  cell_stay st (h.cell i hi k u hu) h.gf
/-- A life, over what stands. -/
theorem PW.lives (h : PW w W p mb j0 j n e0 e c H v) (hx : Cx w p mb j0 e0) (hr : RS w p mb j0 e0 g X) (i : Nat) (hi : i < X.length) {ah : Option Addr} {ch : Nat} (hv : v = .slice ah H.length ch) (hH : H.length ≤ 900) (hn : n ≤ 1152921504606845976) :
    Calls Tryz.prog 8 #[Pt p, Pt j, .int .i64 n, .slice ah H.length ch, .agg (rnV X[i].la X[i].In.length X[i].lc X[i].sync X[i].cut X[i].keep X[i].sp.toNat)] W (LvO W p mb j n c.age e H X[i].cut X[i].sync X[i].In.length) := by
  subst hv
  obtain ⟨sy, hj⟩ := h.jh
  obtain ⟨hok, hfo⟩ := hr.ok X[i] (List.getElem_mem hi)
  exact lives_any h.js h.off h.du h.gn hj h.jf h.row (hx.lat h.st) (h.ne hx) (fun V st => ⟨fun hne => by
    obtain ⟨g1, off, e1, hc⟩ := hok.at'.at' hne
    exact ⟨g1, off, e1, fun j x hx => cell_stay (h.stays st) (hc j x hx) (hfo hne g1 off e1)⟩⟩) hok.len hok.bd hok.cut hH hn
/-- The power cut behind a life. -/
theorem PW.crash_lit (h : PW w W p mb j0 j n e0 e c H v) (hn : n ≤ 1152921504606846976) {e1 : Ent} {c1 : Dk.Ctl} {L : List Up} {s b9 : Nat} {rv : Array Value} {va vs : Value} (hv : LV0 W W1 p mb j n b9 c.age rv e e1 c1 L s va vs) (keep : Int) (sp : UInt8) (hk : I64 keep) :
    Calls Tryz.prog 9 #[Pt p, .slice (some ⟨W1.heap.size, 0, none⟩) 1 1] (W1.drew.alloc (.cells #[.string ⟨#[106, 57]⟩, .int .i64 keep, .int .u8 sp.toNat] 40)) fun r W2 => r = .returned (.tuple #[]) ∧ ∃ e2 D m, CR w W2 p mb j0 j n c.age e0 e2 (Dk.crashC c1) D L s m va vs := by
  have b : Below W1.heap.size W1 (W1.drew.alloc (.cells #[.string ⟨#[106, 57]⟩, .int .i64 keep, .int .u8 sp.toNat] 40)) := (b_drew W1).alloc (Nat.le_refl _) _
  have hbx : (W1.drew.alloc (.cells #[.string ⟨#[106, 57]⟩, .int .i64 keep, .int .u8 sp.toNat] 40)).heap[W1.heap.size]? = some (.cells #[.string ⟨#[106, 57]⟩, .int .i64 keep, .int .u8 sp.toNat] 40 (0, 0)) := heap_alloc_last W1.drew _
  have hJ := hv.js.below b
  have hdl : e1.du ≤ (flU L).length := by rw [← hJ.da]; exact (hJ.dk.hf e1 (by simp)).du
  refine (crash_one hJ (some ⟨W1.heap.size, 0, none⟩) 1 keep sp ⟨hk.1, hk.2⟩ (fun V st => ?_)).mono ?_
  · have hV : V.heap[W1.heap.size]? = _ := (st.block W1.heap.size (Array.getElem?_eq_some_iff.1 hbx).1 (fun hf => by have := hv.js.dk.lt hf; omega)).trans hbx
    intro j hj
    have hj0 : j = 0 := by simp at hj; omega
    subst hj0
    refine ⟨W1.heap.size, 0, rfl, ?_, ?_, ?_⟩
    · rw [cell_of_row _ _ _ _ _ (0, 0) hV]; rfl
    · rw [cell_of_row _ _ _ _ _ (0, 0) hV]; rfl
    · rw [cell_of_row _ _ _ _ _ (0, 0) hV]; rfl
  · rintro r W2 ⟨rfl, st, e2, hJ2, hd2, hf2⟩
    obtain ⟨m, hC⟩ := h.crash hn hv b (min keep.toNat ((flU L).length - e1.du)) sp (by omega) st hJ2 hd2 hf2
    exact ⟨rfl, e2, _, m, hC⟩
/-- What stands behind the rounds: an update of the call's own lies at bu. -/
structure FN (w W : World) (p mb j0 j bu : Nat) (e0 e : Ent) (c : Dk.Ctl) (D : List UInt8) (v : Value) (Y : List Uq) (u : Up) : Prop where
  js : JS W p mb e c D
  off : c.off = false
  left : c.left = 0
  jf : ¬ Dk.Foot p mb [e] j
  jl : j < W.heap.size
  row : EU.Row W v Y
  rf : ∀ k, v.ownBlock = some k → ¬ Dk.Foot p mb [e] k ∧ k ≠ j
  rg : ∀ k, v.ownBlock = some k → w.heap.size ≤ k
  bx : W.heap[bu]? = some (.cells (upV u) 32 (0, 0))
  bf : ¬ Dk.Foot p mb [e] bu ∧ bu ≠ j
  st : Stay (fun k => Dk.Foot p mb [e0] k ∨ k = j0) w W
  ft : ∀ k, Dk.Foot p mb [e] k → Dk.Foot p mb [e0] k ∨ w.heap.size ≤ k
  jn : j = j0 ∨ w.heap.size ≤ j
theorem PW.fin (h : PW w W p mb j0 j n e0 e c H v) (u : Up) (b : Below W.heap.size W W1) (bu : Nat) (hb : W1.heap[bu]? = some (.cells (upV u) 32 (0, 0))) (hbu : W.heap.size ≤ bu) : FN w W1 p mb j0 j bu e0 e c (flU H) v (H.map upQ) u := by
  obtain ⟨sy, hj⟩ := h.jh
  have hjl := (Array.getElem?_eq_some_iff.1 hj).1
  exact { js := h.js.below b, off := h.off, left := h.left, jf := h.jf, jl := Nat.lt_of_lt_of_le hjl b.size, row := h.row.below b, rf := h.rf, rg := h.rg, bx := hb, bf := ⟨fun hf => by (have := h.js.dk.lt hf; omega), by omega⟩, st := h.st.trans (.below b), ft := h.ft, jn := h.jn }
theorem FN.step {D D1 : List UInt8} {Y : List Uq} {u : Up} {bu : Nat} {e1 : Ent} {c1 : Dk.Ctl} (h : FN w W p mb j0 j bu e0 e c D v Y u) (st : Stay (fun k => Dk.Foot p mb [e] k ∨ k = j) W W1) (hJ : JS W1 p mb e1 c1 D1) (ho : c1.off = false) (hl : c1.left = 0) (hf : ∀ k, Dk.Foot p mb [e1] k → Dk.Foot p mb [e] k ∨ W.heap.size ≤ k) : FN w W1 p mb j0 j bu e0 e1 c1 D1 v Y u := by
  have hbl := (Array.getElem?_eq_some_iff.1 h.bx).1
  have hw : w.heap.size ≤ W.heap.size := h.st.size
  have hjl := h.jl
  refine { js := hJ, off := ho, left := hl, jf := fun hk => ?_, jl := Nat.lt_of_lt_of_le h.jl st.size, row := row_kept h.row st (fun k hk h1 => ?_), rf := fun k hk => ⟨fun h1 => ?_, (h.rf k hk).2⟩, rg := h.rg, bx := (st.block bu hbl (fun h1 => ?_)).trans h.bx, bf := ⟨fun hk => ?_, h.bf.2⟩, st := h.st.andThen st (fun k hk h2 => ?_), ft := fun k hk => ?_, jn := h.jn }
  · rcases hf j hk with h1 | h1
    · exact h.jf h1
    · omega
  · rcases h1 with h2 | h2
    · exact (h.rf k hk).1 h2
    · exact (h.rf k hk).2 h2
  · rcases hf k h1 with h2 | h2
    · exact (h.rf k hk).1 h2
    · have := row_lt h.row hk; omega
  · rcases h1 with h2 | h2
    · exact h.bf.1 h2
    · exact h.bf.2 h2
  · rcases hf bu hk with h2 | h2
    · exact h.bf.1 h2
    · omega
  · rcases h2 with h1 | h1
    · rcases h.ft k h1 with h3 | h3
      · exact .inl h3
      · omega
    · rcases h.jn with h3 | h3
      · exact .inr (h1.trans h3)
      · omega
  · rcases hf k hk with h1 | h1
    · exact h.ft k h1
    · exact .inr (by omega)
/-- A power cut of which nothing is asked: what is durable stays. -/
theorem crash_none {D : List UInt8} (h : JS W p mb e c D) (hd : e.du = D.length) :
    Calls Tryz.prog 9 #[Pt p, .slice none 0 0] W fun r W' => r = .returned (.tuple #[]) ∧ Stay (Dk.Foot p mb [e]) W W' ∧ ∃ e', JS W' p mb e' (Dk.crashC c) D ∧ e'.du = D.length ∧ ∀ k, Dk.Foot p mb [e'] k → Dk.Foot p mb [e] k ∨ W.heap.size ≤ k := by
  refine Dk.crash_any none [] 0 W h.dk (fun V _ j hj => by simp at hj) (by simp) (fun j hj => by simp at hj) _ (fun W' es' hs hes => ?_)
  have hl := congrArg List.length hes
  simp only [List.length_map, List.length_singleton] at hl
  obtain ⟨e', rfl⟩ : ∃ e', es' = [e'] := List.length_eq_one_iff.1 hl
  simp only [List.map_cons, List.map_nil, List.cons.injEq, and_true] at hes
  have e1 : Dk.cutF [] (Dk.fl e) = Dk.fl e := rfl
  have e2 : Dk.loseF (Dk.fl e) 0 0 = ⟨e.nm, D, D.length⟩ := by
    unfold Dk.loseF Dk.fl
    dsimp only
    rw [h.da, hd]
    have e3 : min (0 : Int).toNat (D.length - D.length) = 0 := by omega
    rw [e3, Nat.add_zero]
    unfold Dk.loseL
    rw [if_pos rfl, List.take_length]
  rw [e1, e2] at hes
  have f1 : e'.nm = e.nm := congrArg Dk.Fl.nm hes
  have f2 : e'.da = D := congrArg Dk.Fl.da hes
  have f3 : e'.du = D.length := congrArg Dk.Fl.du hes
  exact ⟨rfl, hs.stay, e', ⟨hs.dk, by rw [f1, h.nm], f2, h.cap⟩, f3, hs.foot⟩
end
end Go.Proofs.YtcamnalmcghjfaaGreatDoor
set_option linter.unusedVariables false
set_option linter.unusedSimpArgs false
namespace Go.Proofs.YtcamnalmcghjfaaGreatDoor
open Go.RowKit Go.Proofs.SealMath Go.Proofs.DiskMath
theorem new_one (w : World) : Calls Tryz.prog 4 #[.int .i64 16777216] w fun r w1 => ∃ p mb, r = .returned (Pt p) ∧ Dk.DK w1 p mb [] (Dk.newC 16777216) ∧ (∀ k, Dk.Foot p mb [] k → w.heap.size ≤ k) ∧ Below w.heap.size w w1 := by
  refine Dk.new_any 16777216 w _ (fun h => by omega) (fun _ _ w' h b => ⟨_, _, rfl, h, fun k hk => ?_, b⟩)
  rcases hk with e | e | ⟨x, hx, -⟩
  · omega
  · omega
  · cases hx
/-- The law's first run. -/
def rn0 (bu : Nat) : Rn := ⟨some ⟨bu, 0, none⟩, [(0, 0, 0, ⟨#[]⟩)], 1, 1, 0, 0, 0⟩
theorem law_start {w w1 w2 : World} {p mb j0 n rl rc : Nat} {e0 : Ent} {c0 : Dk.Ctl} {ra : Option Addr} {X : List Rn} (ht : Tb w) (hX : X.length = rl)
    (hat : ∀ i (hi : i < X.length), ∃ g off, ra = some ⟨g, off, none⟩ ∧ ∀ k u, (rnC X[i])[k]? = some u → w.cell? ⟨g, off + (i * 5 + k), none⟩ = some u) (hn : ra = none → rl = 0 ∧ rc = 0) (hl : rl ≤ 2513169434843) (hok : ∀ r ∈ X, RnOk w r)
    (b1 : Below w.heap.size w w1) (hf : ∀ k, Dk.Foot p mb [] k → w.heap.size ≤ k) (hJ : JS w2 p mb e0 c0 []) (hdu : e0.du = 0) (hoff : c0.off = false) (hleft : c0.left = 0) (hj0 : w1.heap.size ≤ j0) (hjf : ¬ Dk.Foot p mb [e0] j0) (hjc : w2.heap[j0]? = some (.cells (jV p c0.age n n) 72 (0, 0))) (st2 : Stay (Dk.Foot p mb []) w1 w2) (hft : ∀ k, Dk.Foot p mb [e0] k → Dk.Foot p mb [] k ∨ w1.heap.size ≤ k) :
    ∃ g cp W4, (Builtin.append_ #[22, 22] 22 #[.slice (some ⟨w2.heap.size + 1, 0, none⟩) 1 1, .slice ra rl rc]).run Tryz.prog ((w2.alloc (.cells #[.int .i64 0, .int .i64 0, .int .i64 0, .string ⟨#[]⟩] 32)).alloc (.cells #[.slice (some ⟨w2.heap.size, 0, none⟩) 1 1, .int .i64 1, .int .i64 0, .int .i64 0, .int .u8 0] 35)) = .ok (.slice (some ⟨g, 0, none⟩) (1 + rl) cp) W4 ∧ 1 + rl ≤ cp ∧ RS W4 p mb j0 e0 g (rn0 w2.heap.size :: X) ∧ Cx W4 p mb j0 e0 ∧ PW W4 W4 p mb j0 j0 n e0 e0 c0 [] (.slice none 0 0) ∧ ∀ V, Stay (fun k => Dk.Foot p mb [e0] k ∨ k = j0) W4 V → Below w.heap.size w V := by
  have s1 : w.heap.size ≤ w1.heap.size := b1.size
  have s2 : w1.heap.size ≤ w2.heap.size := st2.size
  have hfw : ∀ k, Dk.Foot p mb [e0] k → w.heap.size ≤ k := fun k hk => by
    rcases hft k hk with h1 | h1
    · exact hf k h1
    · omega
  have hfl : ∀ k, Dk.Foot p mb [e0] k → k < w2.heap.size := fun k hk => hJ.dk.lt hk
  have hjl : j0 < w2.heap.size := (Array.getElem?_eq_some_iff.1 hjc).1
  have b2 : Below w.heap.size w w2 := b1.trans (st2.toBelow (fun k hk hf' => by have := hf k hf'; omega) s1)
  obtain ⟨Wa, hWa⟩ : ∃ Wa, Wa = w2.alloc (.cells #[.int .i64 0, .int .i64 0, .int .i64 0, .string ⟨#[]⟩] 32) := ⟨_, rfl⟩
  have ba : Below w2.heap.size w2 Wa := hWa ▸ (Below.refl _ w2).alloc (Nat.le_refl _) _
  have sa : Wa.heap.size = w2.heap.size + 1 := by rw [hWa]; simp
  have ha : Wa.heap[w2.heap.size]? = some (.cells #[.int .i64 0, .int .i64 0, .int .i64 0, .string ⟨#[]⟩] 32 (0, 0)) := hWa ▸ heap_alloc_last w2 _
  rw [← hWa]
  obtain ⟨W3, hW3⟩ : ∃ W3, W3 = Wa.alloc (.cells #[.slice (some ⟨w2.heap.size, 0, none⟩) 1 1, .int .i64 1, .int .i64 0, .int .i64 0, .int .u8 0] 35) := ⟨_, rfl⟩
  have b3 : Below w2.heap.size w2 W3 := hW3 ▸ ba.alloc (by omega) _
  have b3a : Below Wa.heap.size Wa W3 := hW3 ▸ (Below.refl _ Wa).alloc (Nat.le_refl _) _
  have s3 : W3.heap.size = w2.heap.size + 2 := by rw [hW3]; simp [sa]
  have h3 : W3.heap[w2.heap.size + 1]? = some (.cells (rnC (rn0 w2.heap.size)).toArray 35 (0, 0)) := by
    rw [← sa, hW3]; exact heap_alloc_last Wa _
  have ha3 : W3.heap[w2.heap.size]? = _ := (b3a.block w2.heap.size (by omega)).trans ha
  rw [← hW3]
  have bw3 : Below w.heap.size w W3 := b2.trans (b3.mono (by omega))
  obtain ⟨g, cp, W4, hap, hrow, hg, st4⟩ := runs_any W3 (w2.heap.size + 1) (rn0 w2.heap.size) h3 ra rl rc X hX (fun i hi => by
    obtain ⟨g, off, e, hc⟩ := hat i hi
    exact ⟨g, off, e, fun k u hu => cell_lat bw3 (hc k u hu)⟩) hn hl
  have s4 : W3.heap.size ≤ W4.heap.size := st4.size
  have b4 : Below (w2.heap.size + 1) W3 W4 := st4.toBelow (fun k hk e => by omega) (by omega)
  have b24 : Below w2.heap.size w2 W4 := b3.trans (b4.mono (by omega))
  have bw4 : Below w.heap.size w W4 := b2.trans (b24.mono (by omega))
  have ha4 : W4.heap[w2.heap.size]? = _ := (b4.block w2.heap.size (by omega)).trans ha3
  have hp2 := pow_pos ht.pow
  refine ⟨g, cp, W4, hap, ?_, ⟨fun i hi k u hu => ?_, fun h => ?_, fun r hr => ?_⟩, ⟨ht.lat bw4, fun k hk => ?_⟩, { js := hJ.below b24, off := hoff, left := hleft, du := hdu, gn := GN.nil n, jh := ⟨n, (b24.block j0 hjl).trans hjc⟩, jf := hjf, row := Rw.El.Row.nil EU W4, rf := fun k hk => (by cases hk), rg := fun k hk => (by cases hk), st := .refl _ _, ft := fun k hk => .inl hk, jn := .inl rfl }, fun V st => bw4.trans (st.toBelow (fun k hk h1 => ?_) bw4.size)⟩
  · obtain ⟨a', c', e, hc⟩ := hrow.form
    simp only [Value.slice.injEq] at e
    obtain ⟨-, -, rfl⟩ := e
    rw [List.length_cons, hX] at hc; omega
  · obtain ⟨g', cap, e, hc, -⟩ := Rw.El.cells okER hrow i hi
    simp only [Value.slice.injEq, Option.some.injEq, Addr.mk.injEq] at e
    obtain ⟨⟨rfl, -⟩, -⟩ := e
    exact hc k u hu
  · rcases h with h | h
    · have := hfl g h; omega
    · omega
  · rcases List.mem_cons.1 hr with rfl | hr
    · refine ⟨⟨⟨fun _ => ⟨w2.heap.size, 0, rfl, fun j x hx => ?_⟩⟩, by show (1 : Nat) ≤ _; omega, fun e he => ?_, ?_, ?_⟩, fun _ g1 off e1 => ?_⟩
      · rw [cell_of_row _ _ _ _ _ (0, 0) ha4]
        have hx' : ([.int .i64 0, .int .i64 0, .int .i64 0, .string ⟨#[]⟩] : List Value)[j]? = some x := hx
        rw [Nat.zero_add]
        simpa using hx'
      · have he' : e ∈ [((0, 0, 0, ⟨#[]⟩) : Uq)] := he
        rw [List.mem_singleton] at he'
        subst he'
        exact ⟨by decide, by decide, by show (0 : Nat) ≤ _; omega⟩
      · show I64 0; decide
      · show I64 0; decide
      · have e2 : (some ⟨w2.heap.size, 0, none⟩ : Option Addr) = some ⟨g1, off, none⟩ := e1
        simp only [Option.some.injEq, Addr.mk.injEq] at e2
        obtain ⟨rfl, -⟩ := e2
        intro h
        rcases h with h | h
        · have := hfl _ h; omega
        · omega
    · have h5 := hok r hr
      refine ⟨⟨h5.at'.below bw4, h5.len, h5.bd, h5.cut, h5.keep⟩, fun hne g1 off e1 h => ?_⟩
      obtain ⟨g2, off2, e2, hc⟩ := h5.at'.at' hne
      rw [e1] at e2
      simp only [Option.some.injEq, Addr.mk.injEq] at e2
      obtain ⟨rfl, rfl, -⟩ := e2
      have h6 : g1 < w.heap.size := by
        obtain ⟨x, l, hxl⟩ : ∃ x l, r.In = x :: l := by
          cases hI : r.In with
          | nil => exact absurd hI hne
          | cons x l => exact ⟨x, l, rfl⟩
        have h7 := hc 0 (.int .i64 x.1) (by rw [hxl]; rfl)
        exact World.block_lt_of_cell? w _ h7
      rcases h with h | h
      · have := hfw g1 h; omega
      · omega
  · rcases hk with h | h
    · have := hfw k h; exact ⟨by omega, by omega⟩
    · exact ⟨by omega, by omega⟩
  · rcases h1 with h | h
    · have := hfw k h; omega
    · omega
/-- append, where it is guarded and wanted. -/
theorem append_wanted {P : Program} {w : World} {ops : Array Oper} {rest : List Oper} {o : Oper} {a : Act} {Q : Exit → Act → World → Prop} (hgd : Region.wanted o (yielded ops a.tmps) = true) (s x : Operand) (t u : TypeId)
    (ho : o.op = .call { callee := .builtin .append, args := #[s, x], argTypes := #[t, u] }) (v xv v' : Value) (w' : World) (hs : a.eval s = v) (hx : a.eval x = xv) (hr : (Builtin.append_ #[t, u] o.type #[v, xv]).run P w = .ok v' w')
    (h : wpList P ops Q rest (a.put o.dst v') w') : wpList P ops Q (o :: rest) a w := by
  refine wpList_step fun K hK => ?_
  rw [if_pos hgd]
  unfold Oper.wp execOp
  simp only [ho, resolve, invoke, builtin, Sem.run_bind, Sem.run_pure, Result.andThen_ok, List.map_toArray, List.map_cons, List.map_nil, hs, hx, hr]
  exact hK _ _ h
end Go.Proofs.YtcamnalmcghjfaaGreatDoor
set_option linter.unusedVariables false
set_option linter.unusedSimpArgs false
namespace Go.Proofs.YtcamnalmcghjfaaGreatDoor
open Go.RowKit Go.Proofs.SealMath Go.Proofs.DiskMath
set_option maxHeartbeats 16000000 in
set_option maxRecDepth 100000 in
theorem law_prefix (ra : Option Addr) (rl rc : Nat) (X : List Rn) (seq : Int) (w : World) (ht : Tb w) (hX : X.length = rl) (hat : ∀ i (hi : i < X.length), ∃ g off, ra = some ⟨g, off, none⟩ ∧ ∀ k u, (rnC X[i])[k]? = some u → w.cell? ⟨g, off + (i * 5 + k), none⟩ = some u) (hn : ra = none → rl = 0 ∧ rc = 0) (hl : rl ≤ 2513169434843) (hok : ∀ r ∈ X, RnOk w r) (hs : I64 seq) :
    Calls Tryz.prog 3 #[.int .i64 seq, .slice ra rl rc] w fun e w' => e = .returned (.bool true) ∧ Below w.heap.size w w' := by
  have HA := Hid.mk (And.intro ht (And.intro hX (And.intro hat (And.intro hn (And.intro hl hok)))))
  have hpk := fun (V : World) => pick_any seq 1152921504606845976 V (by omega) (by omega) hs
  rw [show ((1152921504606845976 : Nat) : Int) = 1152921504606845976 from rfl] at hpk
  obtain ⟨n, hq⟩ : ∃ n : Nat, seq % 1152921504606845976 = n := ⟨(seq % 1152921504606845976).toNat, by omega⟩
  have hn1 : n < 1152921504606845976 := by omega
  rw [hq] at hpk
  have h1 := new_one w
  clear hq hs ht hX hat hn hok
  go_enter Tryz.func3, Tryz.ntmps3
  go_wp2_with fail
  refine h1.mono ?_
  clear h1
  rintro r w1 ⟨p, mb, rfl, hdk, hf, b1⟩
  have h2 := create_nine n (by omega) hdk (HA.out.1.lat b1) (fun k hk => by (have h3 := hf k hk; have h4 := pow_pos HA.out.1.pow; exact ⟨by omega, by omega⟩))
  have H1 := Hid.mk (And.intro hf b1)
  clear hdk hf b1
  go_wp2_with fail
  refine (hpk w1).mono ?_
  clear hpk
  rintro r w1' ⟨rfl, rfl⟩
  go_wp2_with fail
  refine h2.mono ?_
  clear h2
  rintro r w2 ⟨j0, e0, c0, rfl, hJ, hdu, hoff, hleft, hj0, hjf, hjc, st2, hft⟩
  obtain ⟨g, cp, W4, hap, hcp, hRS, hCx, hP, hbase⟩ := law_start HA.out.1 HA.out.2.1 HA.out.2.2.1 HA.out.2.2.2.1 HA.out.2.2.2.2.1 HA.out.2.2.2.2.2 H1.out.2 H1.out.1 hJ hdu hoff hleft hj0 hjf hjc st2 hft
  obtain ⟨N, hN⟩ : ∃ N, N = 1 + rl := ⟨_, rfl⟩
  have hXl : (rn0 w2.heap.size :: X).length = N := by rw [List.length_cons, HA.out.2.1]; omega
  have hX0 : ∀ (hi : 0 < (rn0 w2.heap.size :: X).length), (rn0 w2.heap.size :: X)[0].cut = 0 ∧ (rn0 w2.heap.size :: X)[0].sync = 1 ∧ 0 < (rn0 w2.heap.size :: X)[0].In.length := fun _ => ⟨rfl, rfl, Nat.zero_lt_one⟩
  obtain ⟨XX, hXX⟩ : ∃ XX, XX = rn0 w2.heap.size :: X := ⟨_, rfl⟩
  rw [← hXX] at hRS hXl hX0
  rw [← hN] at hap hcp
  have hN0 : 1 ≤ N := by omega
  have hNb : N ≤ 2513169434844 := by omega
  have HC := Hid.mk (And.intro hRS (And.intro hCx (And.intro hbase (And.intro hXl hX0))))
  have HP0 := Hid.mk (show ∃ (e : Ent) (c : Dk.Ctl) (H : List Up), PW W4 W4 p mb j0 j0 n e0 e c H (.slice none 0 0) ∧ H.length = 0 from ⟨e0, c0, [], hP, rfl⟩)
  clear hJ hdu hoff hleft hj0 hjf hjc st2 hft hRS hCx hbase hP H1 HA hN hXl hXX hX0 hl
  go_wp2_with fail
  refine (num_any 0 w2).mono ?_
  rintro r w3 ⟨rfl, rfl⟩
  go_wp2_with (at_builtin; refine Rw.wpList_append_eq rfl _ _ _ _ rfl _ _ _ _ rfl rfl hap ?_; clear hap)
  try go_wp2
  go_loopw [7, 10, 11] (fun uj uh ui wr => ∃ (i h j : Nat) (ah : Option Addr) (ch : Nat), uj = Pt j ∧ uh = .slice ah h ch ∧ ui = .int .i64 i ∧ i ≤ 8 ∧ h ≤ 60 * i ∧ (0 < i → 0 < h) ∧ Hid (∃ (e : Ent) (c : Dk.Ctl) (H : List Up), PW W4 wr p mb j0 j n e0 e c H (.slice ah h ch) ∧ H.length = h)) (fun _ _ u _ => N - (intOf u).toNat)
  case atStart => exact ⟨0, 0, j0, none, 0, rfl, rfl, rfl, by omega, by omega, fun h => absurd h (Nat.lt_irrefl 0), HP0⟩
  case round =>
    clear HP0
    obtain ⟨i, h, j, ah, ch, rfl, rfl, rfl, hi, hh, hp, HM⟩ := hrel
    by_cases hlt : i < N ∧ i < 8
    · have i1 : (i : Int) < (N : Int) := by omega
      have i2 : (0 : Int) ≤ (i : Int) := by omega
      have i4 : (i : Int) < 8 := by omega
      obtain ⟨e, c, H, hP, hHl⟩ := HM.out
      have hiX : i < XX.length := by rw [HC.out.2.2.2.1]; omega
      have hcl := fun (V : World) (st : Stay (fun k => Dk.Foot p mb [e0] k ∨ k = j0) W4 V) => HC.out.1.cells st i hiX
      have hlv := hP.lives HC.out.2.1 HC.out.1 i hiX (by rw [hHl]) (by omega) (by omega)
      rw [hHl] at hlv
      have hf0 : i = 0 → XX[i].cut = 0 ∧ XX[i].sync = 1 ∧ 0 < XX[i].In.length := by
        intro h0
        subst h0
        exact HC.out.2.2.2.2 hiX
      have hkp := (HC.out.1.ok XX[i] (List.getElem_mem hiX)).1.keep
      generalize XX[i] = R at hcl hlv hf0 hkp
      obtain ⟨la, In, lc, sync, cut, keep, sp⟩ := R
      dsimp only at hlv hf0 hkp
      have x0 : wr.cell? ⟨g, i * 5, none⟩ = some (.slice la In.length lc) := hcl wr hP.st 0 _ rfl
      have x1 : wr.cell? ⟨g, i * 5 + 1, none⟩ = some (.int .i64 sync) := hcl wr hP.st 1 _ rfl
      have x2 : wr.cell? ⟨g, i * 5 + 2, none⟩ = some (.int .i64 cut) := hcl wr hP.st 2 _ rfl
      have x3 : wr.cell? ⟨g, i * 5 + 3, none⟩ = some (.int .i64 keep) := hcl wr hP.st 3 _ rfl
      have x4 : wr.cell? ⟨g, i * 5 + 4, none⟩ = some (.int .u8 sp.toNat) := hcl wr hP.st 4 _ rfl
      obtain ⟨M, hM⟩ : ∃ M, M = In.length := ⟨_, rfl⟩
      rw [← hM] at hlv hf0 x0
      have HX := Hid.mk hcl
      have HL := Hid.mk (And.intro hP (And.intro hHl (And.intro hf0 hkp)))
      clear hcl hP hHl hf0 hkp hM HM hiX
      dsimp only [rnV] at hlv
      go_wp2_with fail
      refine hlv.mono ?_
      clear hlv x0 x1 x2 x3 x4
      rintro r w1 ⟨e1, c1, L, s, b9, rv, a1, a2, d1, d2, rfl, hv, hHs, hHt, h60, hfi⟩
      rw [HL.out.2.1] at hHs h60 hfi
      have hcr := HL.out.1.crash_lit (by omega) hv keep sp HL.out.2.2.2
      have y3 : w1.cell? ⟨g, i * 5 + 3, none⟩ = some (.int .i64 keep) := HX.out w1 (HL.out.1.stays hv.st) 3 _ rfl
      have y4 : w1.cell? ⟨g, i * 5 + 4, none⟩ = some (.int .u8 sp.toNat) := HX.out w1 (HL.out.1.stays hv.st) 4 _ rfl
      have hHs2 : h < s ∨ 0 < h := by
        by_cases h0 : i = 0
        · obtain ⟨f1, f2, f3⟩ := HL.out.2.2.1 h0
          exact .inl (hfi f1 f2 f3)
        · exact .inr (hp (by omega))
      obtain ⟨l, hl⟩ : ∃ l, l = L.length := ⟨_, rfl⟩
      rw [← hl] at hv h60 hcr ⊢
      have HV := Hid.mk (And.intro hv (And.intro hHs (And.intro h60 (And.intro hHs2 (And.intro hl hh)))))
      have y3b : (w1.drew.alloc (.cells #[.string ⟨#[106, 57]⟩, .int .i64 keep, .int .u8 sp.toNat] 40)).cell? ⟨g, i * 5 + 3, none⟩ = some (.int .i64 keep) := cell_lat ((b_drew w1).alloc (Nat.le_refl _) _) y3
      have y4b : (w1.drew.alloc (.cells #[.string ⟨#[106, 57]⟩, .int .i64 keep, .int .u8 sp.toNat] 40)).cell? ⟨g, i * 5 + 4, none⟩ = some (.int .u8 sp.toNat) := cell_lat ((b_drew w1).alloc (Nat.le_refl _) _) y4
      have HY := Hid.mk (And.intro y3b y4b)
      have hlb : n + l + 1 ≤ 1152921504606846976 := by omega
      clear hv hHs hHt hfi hHs2 hl y3b y4b hh hp
      go_wp2_with fail
      refine wp_region_held_drew (S := fun w' => w'.cell? ⟨g, i * 5 + 3, none⟩ = some (.int .i64 keep) ∧ w'.cell? ⟨g, i * 5 + 4, none⟩ = some (.int .u8 sp.toNat)) (by kernel_rfl) ?_ (fun hHeld => ?_)
      · exact ⟨y3, y4⟩
      refine wpAnyH_take (i := 0) (oi := { dst := some 76, op := Op.move (Operand.tmp 5), type := 23, pos := "outright.go:112", after := #[], guard := none }) (v := ?vp0) rfl (by kernel_rfl) (by kernel_rfl) (by kernel_rfl) (fun _ _ _ h => h) (Or.inl ⟨by rfl, ?hp0⟩) (by assumption) ?rp0
      case hp0 => (intro w0 hSw; (try dsimp only at hSw); go_simp; first | done | (with_reducible rfl) | (rw [if_pos (by omega)]; try (with_reducible rfl)))
      simp only [Act.put, List.setIfInBounds_toArray, List.set_cons_zero, List.set_cons_succ]
      refine wpAnyH_take (i := 1) (oi := { dst := some 77, op := Op.move (Operand.tmp 9), type := 22, pos := "outright.go:112", after := #[], guard := none }) (v := ?vp1) rfl (by kernel_rfl) (by kernel_rfl) (by kernel_rfl) (fun _ _ _ h => h) (Or.inl ⟨by rfl, ?hp1⟩) (by assumption) ?rp1
      case hp1 => (intro w0 hSw; (try dsimp only at hSw); go_simp; first | done | (with_reducible rfl) | (rw [if_pos (by omega)]; try (with_reducible rfl)))
      simp only [Act.put, List.setIfInBounds_toArray, List.set_cons_zero, List.set_cons_succ]
      refine wpAnyH_take (i := 2) (oi := { dst := some 78, op := Op.move (Operand.tmp 11), type := 3, pos := "outright.go:112", after := #[], guard := none }) (v := ?vp2) rfl (by kernel_rfl) (by kernel_rfl) (by kernel_rfl) (fun _ _ _ h => h) (Or.inl ⟨by rfl, ?hp2⟩) (by assumption) ?rp2
      case hp2 => (intro w0 hSw; (try dsimp only at hSw); go_simp; first | done | (with_reducible rfl) | (rw [if_pos (by omega)]; try (with_reducible rfl)))
      simp only [Act.put, List.setIfInBounds_toArray, List.set_cons_zero, List.set_cons_succ]
      refine wpAnyH_take (i := 3) (oi := { dst := some 79, op := Op.indexAddr 22 (Operand.tmp 77) (Operand.tmp 78), type := 0, pos := "outright.go:112", after := #[{ on := 1, ground := Ground.data }, { on := 2, ground := Ground.data }], guard := none }) (v := ?vp3) rfl (by kernel_rfl) (by kernel_rfl) (by kernel_rfl) (fun _ _ _ h => h) (Or.inl ⟨by rfl, ?hp3⟩) (by assumption) ?rp3
      case hp3 => (intro w0 hSw; (try dsimp only at hSw); go_simp; first | done | (with_reducible rfl) | (rw [if_pos (by omega)]; try (with_reducible rfl)))
      simp only [Act.put, List.setIfInBounds_toArray, List.set_cons_zero, List.set_cons_succ]
      refine wpAnyH_take (i := 4) (oi := { dst := some 80, op := Op.fieldAddr 35 (Operand.tmp 79) 3, type := 0, pos := "outright.go:112", after := #[{ on := 3, ground := Ground.data }], guard := none }) (v := ?vp4) rfl (by kernel_rfl) (by kernel_rfl) (by kernel_rfl) (fun _ _ _ h => h) (Or.inl ⟨by rfl, ?hp4⟩) (by assumption) ?rp4
      case hp4 => (intro w0 hSw; (try dsimp only at hSw); go_simp; first | done | (with_reducible rfl) | (rw [if_pos (by omega)]; try (with_reducible rfl)))
      simp only [Act.put, List.setIfInBounds_toArray, List.set_cons_zero, List.set_cons_succ]
      refine wpAnyH_take (i := 5) (oi := { dst := some 81, op := Op.load 3 (Operand.tmp 80), type := 3, pos := "outright.go:112", after := #[{ on := 4, ground := Ground.data }], guard := none }) (v := ?vp5) rfl (by kernel_rfl) (by kernel_rfl) (by kernel_rfl) (fun _ _ _ h => h) (Or.inl ⟨by rfl, ?hp5⟩) (by assumption) ?rp5
      case hp5 => (intro w0 hSw; (try dsimp only at hSw); go_simp; first | done | (with_reducible rfl) | (rw [if_pos (by omega)]; try (with_reducible rfl)))
      simp only [Act.put, List.setIfInBounds_toArray, List.set_cons_zero, List.set_cons_succ]
      refine wpAnyH_take (i := 6) (oi := { dst := some 82, op := Op.move (Operand.tmp 9), type := 22, pos := "outright.go:112", after := #[], guard := none }) (v := ?vp6) rfl (by kernel_rfl) (by kernel_rfl) (by kernel_rfl) (fun _ _ _ h => h) (Or.inl ⟨by rfl, ?hp6⟩) (by assumption) ?rp6
      case hp6 => (intro w0 hSw; (try dsimp only at hSw); go_simp; first | done | (with_reducible rfl) | (rw [if_pos (by omega)]; try (with_reducible rfl)))
      simp only [Act.put, List.setIfInBounds_toArray, List.set_cons_zero, List.set_cons_succ]
      refine wpAnyH_take (i := 7) (oi := { dst := some 83, op := Op.move (Operand.tmp 11), type := 3, pos := "outright.go:112", after := #[], guard := none }) (v := ?vp7) rfl (by kernel_rfl) (by kernel_rfl) (by kernel_rfl) (fun _ _ _ h => h) (Or.inl ⟨by rfl, ?hp7⟩) (by assumption) ?rp7
      case hp7 => (intro w0 hSw; (try dsimp only at hSw); go_simp; first | done | (with_reducible rfl) | (rw [if_pos (by omega)]; try (with_reducible rfl)))
      simp only [Act.put, List.setIfInBounds_toArray, List.set_cons_zero, List.set_cons_succ]
      refine wpAnyH_take (i := 8) (oi := { dst := some 84, op := Op.indexAddr 22 (Operand.tmp 82) (Operand.tmp 83), type := 0, pos := "outright.go:112", after := #[{ on := 6, ground := Ground.data }, { on := 7, ground := Ground.data }], guard := none }) (v := ?vp8) rfl (by kernel_rfl) (by kernel_rfl) (by kernel_rfl) (fun _ _ _ h => h) (Or.inl ⟨by rfl, ?hp8⟩) (by assumption) ?rp8
      case hp8 => (intro w0 hSw; (try dsimp only at hSw); go_simp; first | done | (with_reducible rfl) | (rw [if_pos (by omega)]; try (with_reducible rfl)))
      simp only [Act.put, List.setIfInBounds_toArray, List.set_cons_zero, List.set_cons_succ]
      refine wpAnyH_take (i := 9) (oi := { dst := some 85, op := Op.fieldAddr 35 (Operand.tmp 84) 4, type := 0, pos := "outright.go:112", after := #[{ on := 8, ground := Ground.data }], guard := none }) (v := ?vp9) rfl (by kernel_rfl) (by kernel_rfl) (by kernel_rfl) (fun _ _ _ h => h) (Or.inl ⟨by rfl, ?hp9⟩) (by assumption) ?rp9
      case hp9 => (intro w0 hSw; (try dsimp only at hSw); go_simp; first | done | (with_reducible rfl) | (rw [if_pos (by omega)]; try (with_reducible rfl)))
      simp only [Act.put, List.setIfInBounds_toArray, List.set_cons_zero, List.set_cons_succ]
      refine wpAnyH_take (i := 10) (oi := { dst := some 86, op := Op.load 5 (Operand.tmp 85), type := 5, pos := "outright.go:112", after := #[{ on := 9, ground := Ground.data }], guard := none }) (v := ?vp10) rfl (by kernel_rfl) (by kernel_rfl) (by kernel_rfl) (fun _ _ _ h => h) (Or.inl ⟨by rfl, ?hp10⟩) (by assumption) ?rp10
      case hp10 => (intro w0 hSw; (try dsimp only at hSw); go_simp; first | done | (with_reducible rfl) | (rw [if_pos (by omega)]; try (with_reducible rfl)))
      simp only [Act.put, List.setIfInBounds_toArray, List.set_cons_zero, List.set_cons_succ]
      refine wpAnyH_take (i := 11) (oi := { dst := some 87, op := Op.build 40 #[(0, Operand.const (Value.string { data := #[106, 57] })), (1, Operand.tmp 81), (2, Operand.tmp 86)], type := 40, pos := "outright.go:112", after := #[{ on := 5, ground := Ground.data }, { on := 10, ground := Ground.data }], guard := none }) (v := ?vp11) rfl (by kernel_rfl) (by kernel_rfl) (by kernel_rfl) (fun _ _ _ h => h) (Or.inl ⟨by rfl, ?hp11⟩) (by assumption) ?rp11
      case hp11 => (intro w0 hSw; (try dsimp only at hSw); go_simp; first | done | (with_reducible rfl) | (rw [if_pos (by omega)]; try (with_reducible rfl)))
      simp only [Act.put, List.setIfInBounds_toArray, List.set_cons_zero, List.set_cons_succ]
      refine wpAnyH_ready (rs := [12]) (by kernel_rfl) (by simp) ?_
      refine AllReadyH.cons rfl (fun K hK => ?_) AllReadyH.nil
      go_simp
      refine hK.out _ _ ?_ (fun hHeld => ?_)
      · exact HY.out
      clear hK K
      refine wpAnyH_ready (rs := [13]) (by kernel_rfl) (by simp) ?_
      refine AllReadyH.cons rfl (fun K hK => ?_) AllReadyH.nil
      go_simp
      go_wp2_with (go_at_call 9; refine hcr.mono ?_; clear hcr; rintro r w2 ⟨rfl, e2, D, m, hC⟩)
      refine hK.out _ _ ?_ (fun hHeld => ?_)
      · exact ⟨HX.out w2 hC.st 3 _ rfl, HX.out w2 hC.st 4 _ rfl⟩
      clear hK K
      refine wpAnyH_done (by kernel_rfl) ?_ _
      have hg := goes_any 0 0 0 ⟨#[]⟩ (n + l + 1) w2 (by show (0 : Nat) ≤ _; omega) (by omega) (by omega)
      dsimp only [uC] at hg
      obtain ⟨U, hU⟩ : ∃ U, U = goU 0 0 ⟨#[]⟩ (n + l + 1) := ⟨_, rfl⟩
      rw [← hU] at hg
      rw [show ((n + l + 1 : Nat) : Int) = (n : Int) + (l : Int) + 1 from by omega] at hg
      clear hU
      obtain ⟨us, uk, ui, uc⟩ := U
      dsimp only [upV] at hg
      have HCR := Hid.mk hC
      clear hC HY y3 y4 HX
      go_wp2_with fail
      refine hg.mono ?_
      clear hg
      rintro r v3 ⟨rfl, b3⟩
      have hC3 := HCR.out.below b3
      obtain ⟨la', sy', hj3⟩ := hC3.jh
      have hga := app_gone (u := ⟨us, uk, ui, uc⟩) hC3.js.dk hC3.off hC3.age hj3
      dsimp only [upV] at hga
      have HC3 := Hid.mk hC3
      clear hC3 hj3 b3 HCR
      go_wp2_with fail
      refine hga.mono ?_
      clear hga
      rintro r v4 ⟨rfl, b4⟩
      have hC4 := HC3.out.below b4
      have hop := hC4.open_any HC.out.2.1 (by rw [← HV.out.2.2.2.2.1]; omega)
      have hsm := hC4.sm
      have hml : m ≤ l := by rw [HV.out.2.2.2.2.1]; exact hC4.ml
      clear hC4 b4 HC3
      go_wp2_with fail
      refine hop.mono ?_
      clear hop
      rintro r v5 ⟨k, a3, d3, e3, c3, rfl, hP5, hk5, hra5, hrs5⟩
      have hLm : (L.take m).length = m := by rw [List.length_take]; have := HV.out.2.2.2.2.1; omega
      have H5 := Hid.mk (And.intro hP5 (And.intro hk5 (And.intro hra5 (And.intro hrs5 hLm))))
      clear hP5 hk5 hra5 hrs5 hLm
      go_wp2_with fail
      refine (num_any 45 v5).mono ?_
      rintro r v6 ⟨rfl, rfl⟩
      go_wp2_with fail
      refine (num_any 0 v6).mono ?_
      rintro r v7 ⟨rfl, rfl⟩
      have hb1 := begins_any H5.out.2.2.2.1 H5.out.1.row (by rw [List.length_map, List.length_take]; have := HV.out.2.2.2.2.1; omega) (by rw [List.length_map, H5.out.2.2.2.2]) (by rw [← List.map_take, List.take_take, Nat.min_eq_left hsm]) hsm (by omega)
      go_wp2_with fail
      refine hb1.mono ?_
      clear hb1
      rintro r v8 ⟨rfl, b8⟩
      have hb2 := begins_any (H5.out.1.row.below b8) (H5.out.2.2.1.below b8) (by rw [List.length_map, H5.out.2.2.2.2]) (by rw [List.length_map, HV.out.2.2.2.2.1]) (by rw [← List.map_take]) hml (by omega)
      go_wp2_with fail
      refine hb2.mono ?_
      clear hb2
      rintro r v9 ⟨rfl, b9'⟩
      have b79 := chain b8 b9' (Nat.le_refl _)
      have hk9 : v9.heap[k]? = _ := (b79.block k (Array.getElem?_eq_some_iff.1 H5.out.2.1).1).trans H5.out.2.1
      rw [show ((n + m : Nat) : Int) = (n : Int) + (m : Int) from by omega] at hk9
      have hla := last_any hk9
      have hsy := synced_any hk9
      have hP9 := H5.out.1.below b79
      have hw := Dk.writes_any v9 hP9.js.dk
      have hi1 := fun (V : World) (hJ : JS V p mb e3 c3 (flU (L.take m))) => Dk.image_any V hJ.dk (fun r W' => r = .returned (.string ⟨(Dk.imgL ([e3].map Dk.fl)).toArray⟩) ∧ Below V.heap.size V W') (fun W' b => ⟨rfl, b⟩)
      obtain ⟨I, hI⟩ : ∃ I : ByteArray, I = ⟨(Dk.imgL ([e3].map Dk.fl)).toArray⟩ := ⟨_, rfl⟩
      rw [← hI] at hi1
      have HI := Hid.mk hi1
      have HP9 := Hid.mk (And.intro hP9 H5.out.2.2.2.2)
      clear hP9 b8 b9' b79 hk9 H5 hI hi1
      go_wp2_with fail
      refine hla.mono ?_
      clear hla
      rintro r v10 ⟨rfl, rfl⟩
      go_wp2_with fail
      refine hsy.mono ?_
      clear hsy
      rintro r v11 ⟨rfl, rfl⟩
      go_wp2_with fail
      refine hw.mono ?_
      clear hw
      rintro r v12 ⟨rfl, rfl⟩
      have hi2 := HI.out v12 HP9.out.1.js
      go_wp2_with fail
      refine hi2.mono ?_
      clear hi2
      rintro r v13 ⟨rfl, b13⟩
      have hop := (HP9.out.1.below b13).open_any HC.out.2.1 (by rw [HP9.out.2]; omega)
      rw [HP9.out.2] at hop
      clear b13
      go_wp2_with fail
      refine hop.mono ?_
      clear hop
      rintro r v14 ⟨j2, a4, d4, rfl, hP14, hr14, b14⟩
      have hs := same_any _ _ _ v14 hP14.row hr14 (by rw [List.length_map, HP9.out.2]; omega)
      have HP14 := Hid.mk hP14
      clear hP14 hr14 b14
      go_wp2_with fail
      refine (num_any 0 v14).mono ?_
      rintro r v15 ⟨rfl, rfl⟩
      go_wp2_with fail
      refine hs.mono ?_
      clear hs
      rintro r v16 ⟨rfl, d16⟩
      have hP16 := HP14.out.below (d16.below _)
      have hw := Dk.writes_any v16 hP16.js.dk
      have hi2 := HI.out v16 hP16.js
      have HP16 := Hid.mk hP16
      clear hP16 d16 HP14
      go_wp2_with fail
      refine hw.mono ?_
      clear hw
      rintro r v17 ⟨rfl, rfl⟩
      go_wp2_with fail
      refine hi2.mono ?_
      clear hi2
      rintro r v18 ⟨rfl, b18⟩
      have HP18 := Hid.mk (HP16.out.below b18)
      have HF := Hid.mk (show m ≤ 60 * (i + 1) ∧ 0 < m from by
        have h1 := HV.out.2.1
        have h2 := HV.out.2.2.1
        have h3 := HV.out.2.2.2.1
        have h4 := HV.out.2.2.2.2.2
        omega)
      clear HP16 b18
      go_wp2
      exact ⟨⟨i + 1, m, j2, a4, d4, rfl, rfl, rfl, by omega, HF.out.1, fun _ => HF.out.2, ⟨e3, c3, L.take m, HP18.out, HP9.out.2⟩⟩, by simp only [intOf]; omega⟩
    · obtain ⟨e, c, H, hP, hHl⟩ := HM.out
      have hh0 : 0 < h := hp (by omega)
      have hh8 : h ≤ 480 := by omega
      have hg := goes_any 0 1 0 ⟨#[]⟩ (n + h + 1) wr (by show (0 : Nat) ≤ _; omega) (by omega) (by omega)
      have hgu := go_good 1 0 ⟨#[]⟩ (n + h + 1) ⟨by omega, by omega⟩
      have hus : (goU 1 0 ⟨#[]⟩ (n + h + 1)).s = n + h + 1 := rfl
      obtain ⟨U, hU⟩ : ∃ U, U = goU 1 0 ⟨#[]⟩ (n + h + 1) := ⟨_, rfl⟩
      rw [← hU] at hg hgu hus
      clear hU
      obtain ⟨us, uk, ui, uc⟩ := U
      dsimp only [upV, uC] at hg
      dsimp only at hus
      rw [show ((n + h + 1 : Nat) : Int) = (n : Int) + (h : Int) + 1 from by omega] at hg
      have HP := Hid.mk (And.intro hP (And.intro hHl (And.intro hgu hus)))
      clear hP hHl hgu hus HM hp hh
      by_cases h1 : i < N
      · have i1 : (i : Int) < (N : Int) := by omega
        have i4 : ¬ (i : Int) < 8 := by omega
        have hlen0 : (0 : Int) < (h : Int) := by omega
        have hle1 : h + 1 ≤ 481 := by omega
        go_wp2_with fail
        refine hg.mono ?_
        clear hg
        rintro r v1 ⟨rfl, bg1⟩
        obtain ⟨V, hV⟩ : ∃ V, V = v1.alloc (.cells #[.int .i64 us, .int .i64 uk, .int .i64 ui, .string ⟨uc.toArray⟩] 32) := ⟨_, rfl⟩
        have bV : Below wr.heap.size wr V := hV ▸ bg1.alloc bg1.size _
        have hbx : V.heap[v1.heap.size]? = some (.cells #[.int .i64 us, .int .i64 uk, .int .i64 ui, .string ⟨uc.toArray⟩] 32 (0, 0)) := hV ▸ heap_alloc_last v1 _
        have hF0 := HP.out.1.fin ⟨us, uk, ui, uc⟩ bV v1.heap.size hbx bg1.size
        obtain ⟨sy, hj0⟩ := HP.out.1.jh
        have hjV : V.heap[j]? = _ := (bV.block j (Array.getElem?_eq_some_iff.1 hj0).1).trans hj0
        rw [HP.out.2.1] at hjV
        have hZ0 := flU_le HP.out.1.gn.g
        rw [HP.out.2.1] at hZ0
        have happ := app_any (u := ⟨us, uk, ui, uc⟩) hF0.js hjV hF0.jf (HC.out.2.1.lat hF0.st).tab HP.out.2.2.1 HP.out.2.2.2 (by omega) (by omega) hF0.off
        have ok0 : Dk.okE c = 0 := by unfold Dk.okE; rw [if_neg (by rw [hF0.left]; decide)]
        rw [ok0] at happ
        dsimp only [upV] at happ
        have HF0 := Hid.mk hF0
        have HV := Hid.mk hV
        clear bV hbx hF0 hj0 hjV hZ0 ok0 hV bg1
        go_wp2_with fail
        rw [← HV.out]
        refine happ.mono ?_
        clear happ
        rintro r Z1 ⟨v, rfl, hv0, ⟨e1, hJ1, hdu1, hft1⟩, hj1, st1⟩
        subst hv0
        rw [if_pos rfl] at hj1
        have hoff1 : (Dk.tick c).off = false := by show (c.left == 1) = false; rw [HF0.out.left]; rfl
        have hleft1 : (Dk.tick c).left = 0 := by show c.left - 1 = 0; rw [HF0.out.left]
        have hF1 := HF0.out.step st1 hJ1 hoff1 hleft1 hft1
        have hsy := sync_any hF1.js (show Z1.heap[j]? = some (.cells (jV p (Dk.tick c).age (us : Int) sy) 72 (0, 0)) from hj1) hF1.jf hF1.off
        have ok1 : Dk.okE (Dk.tick c) = 0 := by unfold Dk.okE; rw [if_neg (by rw [hleft1]; decide)]
        rw [ok1] at hsy
        have HF1 := Hid.mk (And.intro hF1 hleft1)
        clear hF1 hJ1 hdu1 hft1 hj1 st1 hoff1 hleft1 ok1 HF0 HV
        go_wp2_with fail
        refine hsy.mono ?_
        clear hsy
        rintro r Z2 ⟨v, rfl, hv0, ⟨e2, hJ2, hdu2, hft2⟩, -, st2⟩
        subst hv0
        rw [if_neg (by rw [HF1.out.2]; decide)] at hdu2
        have hF2 := HF1.out.1.step st2 hJ2 (by show ((Dk.tick c).left == 1) = false; rw [HF1.out.2]; rfl) (by show (Dk.tick c).left - 1 = 0; rw [HF1.out.2]) hft2
        have hcr := crash_none hF2.js hdu2
        have HF2 := Hid.mk hF2
        clear hF2 hJ2 hdu2 hft2 st2 HF1
        go_wp2_with fail
        refine hcr.mono ?_
        clear hcr
        rintro r Z3 ⟨rfl, st3, e3, hJ3, hdu3, hft3⟩
        have hF3 := HF2.out.step (st3.mono (fun k _ hf => .inl hf)) hJ3 rfl rfl hft3
        have hLl : (H ++ [(⟨us, uk, ui, uc⟩ : Up)]).length = h + 1 := by rw [List.length_append, List.length_singleton, HP.out.2.1]
        have hop := open_told (H := H ++ [(⟨us, uk, ui, uc⟩ : Up)]) (by rw [flU_one]; exact hJ3) rfl rfl (HC.out.2.1.lat hF3.st) (HC.out.2.1.nel hF3.ft) (HP.out.1.gn.snoc HP.out.2.2.1 (by rw [HP.out.2.1]; exact HP.out.2.2.2)) (by rw [hLl]; omega)
        rw [hLl] at hop
        have HF3 := Hid.mk hF3
        clear hF3 hJ3 hdu3 hft3 st3 HF2
        go_wp2_with fail
        refine hop.mono ?_
        clear hop
        rintro r Z4 ⟨j4, a4, d4, rfl, hr4, ho4, -, -, -, b4⟩
        have hrh := HF3.out.row.below b4
        have hbx4 : Z4.heap[v1.heap.size]? = _ := (b4.block v1.heap.size (Array.getElem?_eq_some_iff.1 HF3.out.bx).1).trans HF3.out.bx
        have y0 : Z4.cell? ⟨v1.heap.size, 0, none⟩ = some (.int .i64 us) := by rw [cell_of_row _ _ 0 _ _ (0, 0) hbx4]; rfl
        have y1 : Z4.cell? ⟨v1.heap.size, 1, none⟩ = some (.int .i64 uk) := by rw [cell_of_row _ _ 1 _ _ (0, 0) hbx4]; rfl
        have y2 : Z4.cell? ⟨v1.heap.size, 2, none⟩ = some (.int .i64 ui) := by rw [cell_of_row _ _ 2 _ _ (0, 0) hbx4]; rfl
        have y3 : Z4.cell? ⟨v1.heap.size, 3, none⟩ = some (.string ⟨uc.toArray⟩) := by rw [cell_of_row _ _ 3 _ _ (0, 0) hbx4]; rfl
        obtain ⟨v', Z5, hap, hr5, st5, ho5⟩ := Rw.El.app1 okEU Z4 (H.map upQ) (.slice ah h ch) hrh (upQ ⟨us, uk, ui, uc⟩) (by show (_ + 1) * 40 ≤ _; rw [List.length_map, HP.out.2.1]; omega) (by rw [List.length_map, HP.out.2.1]; omega)
        obtain ⟨a5, d5, e5, -⟩ := hr5.form
        rw [List.length_append, List.length_map, List.length_singleton, HP.out.2.1] at e5
        subst e5
        have hr45 : EU.Row Z5 (.slice a4 (h + 1) d4) ((H ++ [(⟨us, uk, ui, uc⟩ : Up)]).map upQ) := row_kept hr4 st5 (fun k hk hk2 => by have h1 := ho4 k hk; have h2 := row_lt HF3.out.row hk2; omega)
        have hs := same_any (.slice a4 (h + 1) d4) (.slice a5 (h + 1) d5) _ Z5 hr45 (by rw [List.map_append]; exact hr5) (by rw [List.length_map, hLl]; omega)
        have HB := Hid.mk (HC.out.2.2.1 Z5 ((HF3.out.st.trans (.below b4)).andThen st5 (fun k hk h2 => by have h3 := HF3.out.rg k h2; omega)))
        dsimp only [EU, upQ] at hap
        clear hr4 ho4 b4 hrh hbx4 hr5 st5 ho5 hr45 hLl HF3
        go_wp2_with fail
        refine (num_any 0 Z4).mono ?_
        rintro r Z6 ⟨rfl, rfl⟩
        go_wp2_with fail
        refine (num_any 0 Z6).mono ?_
        rintro r Z7 ⟨rfl, rfl⟩
        go_wp2_with fail
        refine (num_any 0 Z7).mono ?_
        rintro r Z8 ⟨rfl, rfl⟩
        go_wp2_with (at_builtin; refine append_wanted (by kernel_rfl) _ _ _ _ rfl _ _ _ _ rfl rfl hap ?_; clear hap)
        refine hs.mono ?_
        clear hs
        rintro r Z9 ⟨rfl, d9⟩
        have HF := Hid.mk (HB.out.trans ((d9.below _).mono HB.out.size))
        clear d9 HB
        go_wp2
        first | go_ret | go_ret3
        exact ⟨rfl, HF.out⟩
      · have i1 : ¬ (i : Int) < (N : Int) := by omega
        have hlen0 : (0 : Int) < (h : Int) := by omega
        have hle1 : h + 1 ≤ 481 := by omega
        go_wp2_with fail
        refine hg.mono ?_
        clear hg
        rintro r v1 ⟨rfl, bg1⟩
        obtain ⟨V, hV⟩ : ∃ V, V = v1.alloc (.cells #[.int .i64 us, .int .i64 uk, .int .i64 ui, .string ⟨uc.toArray⟩] 32) := ⟨_, rfl⟩
        have bV : Below wr.heap.size wr V := hV ▸ bg1.alloc bg1.size _
        have hbx : V.heap[v1.heap.size]? = some (.cells #[.int .i64 us, .int .i64 uk, .int .i64 ui, .string ⟨uc.toArray⟩] 32 (0, 0)) := hV ▸ heap_alloc_last v1 _
        have hF0 := HP.out.1.fin ⟨us, uk, ui, uc⟩ bV v1.heap.size hbx bg1.size
        obtain ⟨sy, hj0⟩ := HP.out.1.jh
        have hjV : V.heap[j]? = _ := (bV.block j (Array.getElem?_eq_some_iff.1 hj0).1).trans hj0
        rw [HP.out.2.1] at hjV
        have hZ0 := flU_le HP.out.1.gn.g
        rw [HP.out.2.1] at hZ0
        have happ := app_any (u := ⟨us, uk, ui, uc⟩) hF0.js hjV hF0.jf (HC.out.2.1.lat hF0.st).tab HP.out.2.2.1 HP.out.2.2.2 (by omega) (by omega) hF0.off
        have ok0 : Dk.okE c = 0 := by unfold Dk.okE; rw [if_neg (by rw [hF0.left]; decide)]
        rw [ok0] at happ
        dsimp only [upV] at happ
        have HF0 := Hid.mk hF0
        have HV := Hid.mk hV
        clear bV hbx hF0 hj0 hjV hZ0 ok0 hV bg1
        go_wp2_with fail
        rw [← HV.out]
        refine happ.mono ?_
        clear happ
        rintro r Z1 ⟨v, rfl, hv0, ⟨e1, hJ1, hdu1, hft1⟩, hj1, st1⟩
        subst hv0
        rw [if_pos rfl] at hj1
        have hoff1 : (Dk.tick c).off = false := by show (c.left == 1) = false; rw [HF0.out.left]; rfl
        have hleft1 : (Dk.tick c).left = 0 := by show c.left - 1 = 0; rw [HF0.out.left]
        have hF1 := HF0.out.step st1 hJ1 hoff1 hleft1 hft1
        have hsy := sync_any hF1.js (show Z1.heap[j]? = some (.cells (jV p (Dk.tick c).age (us : Int) sy) 72 (0, 0)) from hj1) hF1.jf hF1.off
        have ok1 : Dk.okE (Dk.tick c) = 0 := by unfold Dk.okE; rw [if_neg (by rw [hleft1]; decide)]
        rw [ok1] at hsy
        have HF1 := Hid.mk (And.intro hF1 hleft1)
        clear hF1 hJ1 hdu1 hft1 hj1 st1 hoff1 hleft1 ok1 HF0 HV
        go_wp2_with fail
        refine hsy.mono ?_
        clear hsy
        rintro r Z2 ⟨v, rfl, hv0, ⟨e2, hJ2, hdu2, hft2⟩, -, st2⟩
        subst hv0
        rw [if_neg (by rw [HF1.out.2]; decide)] at hdu2
        have hF2 := HF1.out.1.step st2 hJ2 (by show ((Dk.tick c).left == 1) = false; rw [HF1.out.2]; rfl) (by show (Dk.tick c).left - 1 = 0; rw [HF1.out.2]) hft2
        have hcr := crash_none hF2.js hdu2
        have HF2 := Hid.mk hF2
        clear hF2 hJ2 hdu2 hft2 st2 HF1
        go_wp2_with fail
        refine hcr.mono ?_
        clear hcr
        rintro r Z3 ⟨rfl, st3, e3, hJ3, hdu3, hft3⟩
        have hF3 := HF2.out.step (st3.mono (fun k _ hf => .inl hf)) hJ3 rfl rfl hft3
        have hLl : (H ++ [(⟨us, uk, ui, uc⟩ : Up)]).length = h + 1 := by rw [List.length_append, List.length_singleton, HP.out.2.1]
        have hop := open_told (H := H ++ [(⟨us, uk, ui, uc⟩ : Up)]) (by rw [flU_one]; exact hJ3) rfl rfl (HC.out.2.1.lat hF3.st) (HC.out.2.1.nel hF3.ft) (HP.out.1.gn.snoc HP.out.2.2.1 (by rw [HP.out.2.1]; exact HP.out.2.2.2)) (by rw [hLl]; omega)
        rw [hLl] at hop
        have HF3 := Hid.mk hF3
        clear hF3 hJ3 hdu3 hft3 st3 HF2
        go_wp2_with fail
        refine hop.mono ?_
        clear hop
        rintro r Z4 ⟨j4, a4, d4, rfl, hr4, ho4, -, -, -, b4⟩
        have hrh := HF3.out.row.below b4
        have hbx4 : Z4.heap[v1.heap.size]? = _ := (b4.block v1.heap.size (Array.getElem?_eq_some_iff.1 HF3.out.bx).1).trans HF3.out.bx
        have y0 : Z4.cell? ⟨v1.heap.size, 0, none⟩ = some (.int .i64 us) := by rw [cell_of_row _ _ 0 _ _ (0, 0) hbx4]; rfl
        have y1 : Z4.cell? ⟨v1.heap.size, 1, none⟩ = some (.int .i64 uk) := by rw [cell_of_row _ _ 1 _ _ (0, 0) hbx4]; rfl
        have y2 : Z4.cell? ⟨v1.heap.size, 2, none⟩ = some (.int .i64 ui) := by rw [cell_of_row _ _ 2 _ _ (0, 0) hbx4]; rfl
        have y3 : Z4.cell? ⟨v1.heap.size, 3, none⟩ = some (.string ⟨uc.toArray⟩) := by rw [cell_of_row _ _ 3 _ _ (0, 0) hbx4]; rfl
        obtain ⟨v', Z5, hap, hr5, st5, ho5⟩ := Rw.El.app1 okEU Z4 (H.map upQ) (.slice ah h ch) hrh (upQ ⟨us, uk, ui, uc⟩) (by show (_ + 1) * 40 ≤ _; rw [List.length_map, HP.out.2.1]; omega) (by rw [List.length_map, HP.out.2.1]; omega)
        obtain ⟨a5, d5, e5, -⟩ := hr5.form
        rw [List.length_append, List.length_map, List.length_singleton, HP.out.2.1] at e5
        subst e5
        have hr45 : EU.Row Z5 (.slice a4 (h + 1) d4) ((H ++ [(⟨us, uk, ui, uc⟩ : Up)]).map upQ) := row_kept hr4 st5 (fun k hk hk2 => by have h1 := ho4 k hk; have h2 := row_lt HF3.out.row hk2; omega)
        have hs := same_any (.slice a4 (h + 1) d4) (.slice a5 (h + 1) d5) _ Z5 hr45 (by rw [List.map_append]; exact hr5) (by rw [List.length_map, hLl]; omega)
        have HB := Hid.mk (HC.out.2.2.1 Z5 ((HF3.out.st.trans (.below b4)).andThen st5 (fun k hk h2 => by have h3 := HF3.out.rg k h2; omega)))
        dsimp only [EU, upQ] at hap
        clear hr4 ho4 b4 hrh hbx4 hr5 st5 ho5 hr45 hLl HF3
        go_wp2_with fail
        refine (num_any 0 Z4).mono ?_
        rintro r Z6 ⟨rfl, rfl⟩
        go_wp2_with fail
        refine (num_any 0 Z6).mono ?_
        rintro r Z7 ⟨rfl, rfl⟩
        go_wp2_with fail
        refine (num_any 0 Z7).mono ?_
        rintro r Z8 ⟨rfl, rfl⟩
        go_wp2_with (at_builtin; refine append_wanted (by kernel_rfl) _ _ _ _ rfl _ _ _ _ rfl rfl hap ?_; clear hap)
        refine hs.mono ?_
        clear hs
        rintro r Z9 ⟨rfl, d9⟩
        have HF := Hid.mk (HB.out.trans ((d9.below _).mono HB.out.size))
        clear d9 HB
        go_wp2
        first | go_ret | go_ret3
        exact ⟨rfl, HF.out⟩
end Go.Proofs.YtcamnalmcghjfaaGreatDoor
set_option linter.unusedVariables false
set_option linter.unusedSimpArgs false
namespace Go.Proofs.YtcamnalmcghjfaaGreatDoor
open Go.ChangeMaps (open_string shut_string)
open Go.ChangeShapes Go.WideShapes Go.ChangeAt Go.WideMaps Go.WideElems Go.RowKit Go.Proofs.SealMath
set_option maxRecDepth 100000 in
theorem prefix_lifted (os : Os) (started : os.Started) (H : Type) (enc : TypeId × Value → H) :
    ReturnsInHanded {} Tryz.checked os 3 .any (fun w args => (Rows.journalPrefixSpec.pre enc Tryz.prog Tryz.f3 [] false w args ∧ laidMetH Tryz.prog lst w) ∧ sizedMet enc Tryz.prog Tryz.f3 (OpenSpec.ofChange Rows.journalPrefixSpec) false w args)
      (Rows.journalPrefixSpec.post enc Tryz.prog Tryz.f3 false true false false) := by
  refine returnsInHanded_of_change_and (C := Tryz.checked) (X := fun w _ => laidMetH Tryz.prog lst w) (fun _ _ _ hh h => h.of_heap hh) own started (by kernel_rfl) Tryz.func3
    (ChangeSpec.witness_shaped (enc := enc) (C := Tryz.checked) (os := os) (X := fun w _ => laidMetH Tryz.prog lst w) false (World.doorLaid Tryz.prog 4000 os) #[.int .i64 0, .slice none 0 0] 8 rfl (World.shaped_of_RefB (by kernel_rfl) (by kernel_rfl)) (by kernel_rfl) (by kernel_rfl) (by kernel_rfl) (door_met os _)) ?_
  intro W base args ds gs before hval0 hW _ hsz0 hL _
  have hsz : (DataW.weightsEach Tryz.prog (Tryz.f3.params.toList ++ Rows.journalPrefixSpec.plain.varTypes Tryz.prog) (ds ++ gs)).all (· ≤ reachBytes) = true := hsz0
  clear hsz0
  have hval : ∀ (j : Nat) t v, Tryz.f3.params[j]? = some t → args[j]? = some v → Value.okWide Tryz.prog W .any base t v := hval0
  have hW' := hW
  obtain ⟨p, q, hA0, hV, rfl, hfz, hnd⟩ := hW
  have hA : DataW.TrodAll enc Tryz.prog W 0 (fun _ => true) true Tryz.f3.params.toList args.toList ds p := hA0
  rw [Tryz.params3] at hA hval hsz
  obtain ⟨v0, v1, d0, d1, p0, p1, rfl, rfl, rfl, h0, h1⟩ := trodAll_two hA
  obtain ⟨rfl, rfl⟩ := trodVars_none hV
  obtain ⟨k, rfl, rfl, rfl, wk⟩ := open_int Tryz.underlying3 (hval 0 3 v0 rfl rfl) h0
  obtain ⟨a1, len1, cap1, rfl⟩ := okWide_slice Tryz.underlying22 (hval 1 22 v1 rfl rfl)
  have h1k := h1
  obtain ⟨fuel1, hf1⟩ := h1
  have hs1 : ∀ n ∈ d1.weights Tryz.prog 22, n ≤ reachBytes := fun n hn => by simpa using List.all_eq_true.1 hsz n (DataW.weights_mem_each (j := 1) (t := 22) rfl rfl n hn)
  obtain ⟨l, hl1, hL1, hB1, hC1, hD1, hE1⟩ := open_runs (by simpa [Value.cells] using hf1) hs1
  subst hl1
  clear hA0 hval0
  simp only [List.append_nil, List.nil_append] at hW'
  have hlt1 : ∀ x ∈ p1, x.block < W.heap.size := fun x hx => hW'.lt x (by simp [hx])
  have ht := tab_of hL
  have hg0 := tab_pos ht
  have e1 : Rows.journalPrefixSpec.fn H ([.lit (.int .i64 k), d1] ++ []) = { results := [.lit (.bool true)], args := [.lit (.int .i64 k), d1] } := by simp [Rows.journalPrefixSpec]
  have fin : ∀ (e : Ending) (W' : World), (e = .returned (.bool true) ∧ Below W.heap.size W W') → ∃ v, e = .returned v ∧ Rows.journalPrefixSpec.post enc Tryz.prog Tryz.f3 false true false false W #[.int .i64 k, .slice a1 l.length cap1] v W' := by
    rintro e W' ⟨rfl, hbl⟩
    refine ⟨_, rfl, _, _, _, [], [] ++ p1, [], hW', ?_, ?_, ?_, hbl.frame _, fun h => by cases h⟩
    · rw [e1]; exact trodAll_mk1 (shut_bool Tryz.underlying4 true)
    · rw [e1]; exact trodAll_mk2 (shut_int Tryz.underlying3 wk) (Below.trod laidOut (by kernel_rfl) (of_decide_eq_true (by kernel_rfl)) h1k hbl hlt1)
    · rw [e1]; rfl
  exact (law_prefix a1 l.length cap1 l k W ⟨ht, pow_of hL⟩ rfl hL1 hE1 hC1 hB1 (i64_wf wk)).mono fin

theorem prefix_row : Rows.JournalPrefixSaid :=
  OpenClaim.holds_of_wide 3 Tryz.f3 rfl rfl rfl rfl rfl rfl rfl ⟨rfl, rfl, rfl, rfl, rfl⟩ rfl rfl rfl rfl rfl (by kernel_rfl) Tryz.func3 (by kernel_rfl)
    (of_decide_eq_true (by kernel_rfl)) (by unfold Func.isWrapper; rw [if_neg (of_decide_eq_false (by kernel_rfl))]; exact ⟨rfl, rfl⟩)
    (fun os started H enc _ => prefix_lifted os started H enc)
theorem prefix_holds : Rows.JournalPrefixCardSaid :=
  Claim7.holds_tied_plain_at .later [] [.data, .data, .data, .called] true (true, "d6fce24982984d7b67daed85670e7b9c240efcca70fa0565b6584cec99672b12") false
    prefix_row (fun _ h => by cases h) (by kernel_rfl) (fun _ h => by cases h) journalPrefix_row_tie rfl ⟨rfl, rfl⟩ (by kernel_rfl) rfl
    (fun f fn hf hfn => by
      obtain rfl : f = 3 := Option.some.inj ((show Tryz.prog.funcNamed "kindred/kindredlaw5.JournalPrefix" = some 3 by kernel_rfl).symm.trans hf) |>.symm
      obtain rfl : fn = Tryz.f3 := (Option.some.inj (Tryz.func3.symm.trans hfn)).symm
      exact ⟨by kernel_rfl, fun j t ht => by
        rw [Tryz.params3] at ht
        have hm : t ∈ [3, 22] := by simpa using Array.mem_of_getElem? ht
        have hall : ([3, 22].all fun u => !Tryz.prog.wantsStandIn u) = true := by kernel_rfl
        exact (show Tryz.prog.wantsStandIn t = false by simpa using List.all_eq_true.1 hall t hm)⟩)
    (by kernel_rfl)
#print axioms prefix_holds
end Go.Proofs.YtcamnalmcghjfaaGreatDoor
