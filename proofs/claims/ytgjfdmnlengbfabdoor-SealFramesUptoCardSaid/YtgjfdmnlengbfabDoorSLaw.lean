/-
  DERIVED. SealFrames' walk.
-/
import Derived.Test.YtgjfdmnlengbfabDoorSSame
import Derived.Test.YtgjfdmnlengbfabDoorSApart
import Derived.Test.YtgjfdmnlengbfabDoorSRFrame
namespace Go.Proofs.YtgjfdmnlengbfabDoor
open Go.RowKit Go.Proofs.SealMath
theorem own_belowB {w w' : World} {base n size B : Nat} {e : TypeId} {v : Value} {xs : List Value} (h : w.ownsRow base e size v n xs) (hb : Below B w w') (hlt : ∀ g, v.ownBlock = some g → g < B) : w'.ownsRow base e size v n xs := by
  obtain ⟨h1, h2⟩ := h
  refine ⟨h1, ?_⟩
  rcases h2 with h2 | ⟨g, cap, cur, rfl, hg, hc, r⟩
  · exact .inl h2
  · exact .inr ⟨g, cap, cur, rfl, hg, (hb.block g (hlt g rfl)).trans hc, r⟩
theorem own_mono {w : World} {base base' n size : Nat} {e : TypeId} {v : Value} {xs : List Value} (h : w.ownsRow base e size v n xs) (hb : base' ≤ base) : w.ownsRow base' e size v n xs := by
  obtain ⟨h1, h2⟩ := h
  refine ⟨h1, ?_⟩
  rcases h2 with h2 | ⟨g, cap, cur, rfl, hg, r⟩
  · exact .inl h2
  · exact .inr ⟨g, cap, cur, rfl, Nat.le_trans hb hg, r⟩
/-- Five lists, one made behind the other. -/
theorem apart_five (W : World) (s : Nat → Nat) (D : Nat → Option Addr) (n E : Nat → Nat) (X : Nat → List Value) (hs : ∀ i, i < 5 → s i ≤ s (i + 1)) (h5 : s 5 ≤ W.heap.size)
    (ho : ∀ i, i < 5 → W.ownsRow (s i) 28 3 (.slice (D i) (n i) (E i)) (n i) (X i)) (hh : ∀ i, i < 5 → ∀ g, D i = some ⟨g, 0, none⟩ → g < s (i + 1)) (hn : ∀ i, i < 5 → (n i + 64) * 32 ≤ 140737488355328) :
    Calls Tryd.prog 15 #[.slice (some ⟨W.heap.size, 0, none⟩) 5 5] (W.alloc (.cells #[.slice (D 0) (n 0) (E 0), .slice (D 1) (n 1) (E 1), .slice (D 2) (n 2) (E 2), .slice (D 3) (n 3) (E 3), .slice (D 4) (n 4) (E 4)] 22)) fun e w' => e = .returned (.bool true) ∧ Below (s 0) (W.alloc (.cells #[.slice (D 0) (n 0) (E 0), .slice (D 1) (n 1) (E 1), .slice (D 2) (n 2) (E 2), .slice (D 3) (n 3) (E 3), .slice (D 4) (n 4) (E 4)] 22)) w' := by
  have mono : ∀ d i, i + d ≤ 5 → s i ≤ s (i + d) := by
    intro d
    induction d with
    | zero => intro i _; exact Nat.le_refl _
    | succ d ih => intro i h; exact Nat.le_trans (ih i (by omega)) (hs (i + d) (by omega))
  have m2 : ∀ i j, i ≤ j → j ≤ 5 → s i ≤ s j := fun i j h1 h2 => by
    have := mono (j - i) i (by omega); rwa [show i + (j - i) = j by omega] at this
  have lo : ∀ i, i < 5 → ∀ g, D i = some ⟨g, 0, none⟩ → s i ≤ g := fun i hi g hg => ((ho i hi).lt g (by rw [hg]; rfl)).1
  have hh0 := heap_alloc_last W (.cells #[.slice (D 0) (n 0) (E 0), .slice (D 1) (n 1) (E 1), .slice (D 2) (n 2) (E 2), .slice (D 3) (n 3) (E 3), .slice (D 4) (n 4) (E 4)] 22)
  refine apart_any W.heap.size 5 5 (s 0) D n E X _ ⟨fun i hi => ?_, fun i j hi hj hij g hg he => ?_, fun i hi he => ?_⟩ (by omega) ?_ (by simp) (fun i hi => own_mono ((ho i hi).alloc _) (m2 0 i (by omega) (by omega))) hn
  · rw [cell_of_row _ _ i _ 22 (0, 0) hh0]
    have : i = 0 ∨ i = 1 ∨ i = 2 ∨ i = 3 ∨ i = 4 := by omega
    rcases this with rfl | rfl | rfl | rfl | rfl <;> rfl
  · rcases Nat.lt_or_gt_of_ne hij with h | h
    · have a1 := hh i hi g hg
      have a2 := lo j hj g he
      have a3 := m2 (i + 1) j h (by omega)
      omega
    · have a1 := hh j hj g he
      have a2 := lo i hi g hg
      have a3 := m2 (j + 1) i h (by omega)
      omega
  · have a1 := hh i hi _ he
    have a3 := m2 (i + 1) 5 (by omega) (by omega)
    omega
  · have a3 := m2 0 5 (by omega) (by omega)
    simp; omega
/-- The other text. -/
def txO : ByteArray := ⟨#[97, 110, 111, 116, 104, 101, 114, 32, 116, 101, 120, 116]⟩
set_option maxRecDepth 100000 in
set_option maxHeartbeats 16000000 in
theorem law_frames (b : ByteArray) (w : World) (ht : Tab w) (hg : 0 < w.heap.size) (hb : b.size ≤ 1048576) :
    Calls Tryd.prog 6 #[.string b] w fun e w' => e = .returned (.bool true) ∧ Below w.heap.size w w' := by
  have hb2 : b.size < 4611686018427387904 := by omega
  have hr0 := rframe_any 7 txO w
  obtain ⟨O, hO⟩ : ∃ O : ByteArray, O = ⟨(frT 7 txO).toArray⟩ := ⟨_, rfl⟩
  rw [← hO] at hr0
  have hOs : O.size = 26 := by
    obtain ⟨_, h2⟩ := frT_yes 7 txO (by omega) (by omega) (by decide)
    have h2' : frT (7 : Int) txO = frL 7 txO.data.toList := h2
    rw [ba_size, hO, h2']; show (frL 7 txO.data.toList).length = 26; rw [frL_len]; rfl
  clear hO
  generalize frE 7 txO = eO at hr0
  obtain ⟨R, hR⟩ : ∃ R, R = frs b (b.size + 1) 0 := ⟨_, rfl⟩
  obtain ⟨Q, hQ⟩ : ∃ Q, Q = frs O (O.size + 1) 0 := ⟨_, rfl⟩
  have hRl : 14 * R.1.length ≤ 1048576 := by have := frs_len b (b.size + 1) 0 (by omega); rw [← hR] at this; omega
  have hQl : 14 * Q.1.length ≤ 1048576 := by have := frs_len O (O.size + 1) 0 (by omega); rw [← hQ] at this; omega
  have fRef := fun (W : World) => rframes_any b W hb2 R hR (by omega)
  have fRefO := fun (W : World) => rframes_any O W (by omega) Q hQ (by omega)
  have fB := fun (W : World) (h1 : Tab W) (h2 : 0 < W.heap.size) => frames_any b W h1 h2 hb2 R hR (by omega)
  have fO := fun (W : World) (h1 : Tab W) (h2 : 0 < W.heap.size) => frames_any O W h1 h2 (by omega) Q hQ (by omega)
  clear hR hQ
  have eT : (⟨#[97, 110, 111, 116, 104, 101, 114, 32, 116, 101, 120, 116]⟩ : ByteArray) = txO := rfl
  go_enter Tryd.func6, Tryd.ntmps6
  go_wp2_with fail
  refine hr0.mono ?_
  rintro e w1 ⟨rfl, b1⟩
  clear hr0
  have z1 := Nat.lt_of_lt_of_le hg b1.size
  go_wp2_with fail
  refine (fRef w1).mono ?_
  rintro e w2 ⟨⟨vw, rfl, ow⟩, b2⟩
  obtain ⟨Dw, Ew, rfl, _⟩ := own_form ow
  have c2 := chain b1 b2 (Nat.le_refl _)
  go_wp2_with fail
  refine (fRefO w2).mono ?_
  rintro e w3 ⟨⟨vs, rfl, os⟩, b3⟩
  obtain ⟨Ds, Es, rfl, _⟩ := own_form os
  have c3 := chain c2 b3 (Nat.le_refl _)
  have ow3 := own_below ow b3
  go_wp2_with fail
  refine (fB w3 (ht.below c3 hg) (Nat.lt_of_lt_of_le hg c3.size)).mono ?_
  rintro e w4 ⟨⟨v1, rfl, o1⟩, b4⟩
  obtain ⟨D1, E1, rfl, _⟩ := own_form o1
  have c4 := chain c3 b4 (Nat.le_refl _)
  go_wp2_with fail
  refine (fB w4 (ht.below c4 hg) (Nat.lt_of_lt_of_le hg c4.size)).mono ?_
  rintro e w5 ⟨⟨v2, rfl, o2⟩, b5⟩
  obtain ⟨D2, E2, rfl, _⟩ := own_form o2
  have c5 := chain c4 b5 (Nat.le_refl _)
  go_wp2_with fail
  refine (fO w5 (ht.below c5 hg) (Nat.lt_of_lt_of_le hg c5.size)).mono ?_
  rintro e w6 ⟨⟨v3, rfl, o3⟩, b6⟩
  obtain ⟨D3, E3, rfl, _⟩ := own_form o3
  have c6 := chain c5 b6 (Nat.le_refl _)
  go_wp2_with fail
  refine (fO w6 (ht.below c6 hg) (Nat.lt_of_lt_of_le hg c6.size)).mono ?_
  rintro e w7 ⟨⟨v4, rfl, o4⟩, b7⟩
  obtain ⟨D4, E4, rfl, _⟩ := own_form o4
  have c7 := chain c6 b7 (Nat.le_refl _)
  go_wp2_with fail
  refine (fB w7 (ht.below c7 hg) (Nat.lt_of_lt_of_le hg c7.size)).mono ?_
  rintro e w8 ⟨⟨v5, rfl, o5⟩, b8⟩
  obtain ⟨D5, E5, rfl, _⟩ := own_form o5
  have c8 := chain c7 b8 (Nat.le_refl _)
  have o1a := own_below o1 b5
  have o1b := own_below o1a b6
  have o1c := own_below o1b b7
  have p1 := own_below o1c b8
  have o2a := own_below o2 b6
  have o2b := own_below o2a b7
  have p2 := own_below o2b b8
  have o3a := own_below o3 b7
  have p3 := own_below o3a b8
  have p4 := own_below o4 b8
  have pw := own_below (own_below (own_below (own_below (own_below ow3 b4) b5) b6) b7) b8
  have ps := own_below (own_below (own_below (own_below (own_below os b4) b5) b6) b7) b8
  have l1 : ∀ g, D1 = some ⟨g, 0, none⟩ → g < w4.heap.size := fun g hgg => (o1.lt g (by rw [hgg]; rfl)).2
  have l2 : ∀ g, D2 = some ⟨g, 0, none⟩ → g < w5.heap.size := fun g hgg => (o2.lt g (by rw [hgg]; rfl)).2
  have l3 : ∀ g, D3 = some ⟨g, 0, none⟩ → g < w6.heap.size := fun g hgg => (o3.lt g (by rw [hgg]; rfl)).2
  have l4 : ∀ g, D4 = some ⟨g, 0, none⟩ → g < w7.heap.size := fun g hgg => (o4.lt g (by rw [hgg]; rfl)).2
  have l5 : ∀ g, D5 = some ⟨g, 0, none⟩ → g < w8.heap.size := fun g hgg => (o5.lt g (by rw [hgg]; rfl)).2
  have lw : ∀ g, (Value.slice Dw R.1.length Ew).ownBlock = some g → g < w3.heap.size := fun g hgg => Nat.lt_of_lt_of_le (ow.lt g hgg).2 b3.size
  have S4 := b4.size
  have S5 := b5.size
  have S6 := b6.size
  have S7 := b7.size
  have S8 := b8.size
  have S3 := c3.size
  have p5 := o5
  clear o1a o1b o1c o2a o2b o3a o1 o2 o3 o4 o5 os ow ow3 fRef fRefO fO b1 b2 b3 b4 b5 b6 b7 b8
  have L8 : Below w8.heap.size w8 w8 := Below.refl _ _
  go_wp2_with fail
  refine (same_any _ _ R.1 _ _ w8 (by omega) (own_below p1 L8) (own_below pw L8)).mono ?_
  rintro e w9 ⟨rfl, d9⟩
  have L9 := L8.trans (d9.below w8.heap.size)
  go_wp2_with fail
  refine (same_any _ _ R.1 _ _ w9 (by omega) (own_below p2 L9) (own_below pw L9)).mono ?_
  rintro e w10 ⟨rfl, d10⟩
  have L10 := L9.trans (d10.below w8.heap.size)
  go_wp2_with fail
  refine (same_any _ _ R.1 _ _ w10 (by omega) (own_below p5 L10) (own_below pw L10)).mono ?_
  rintro e w11 ⟨rfl, d11⟩
  have L11 := L10.trans (d11.below w8.heap.size)
  go_wp2_with fail
  refine (same_any _ _ Q.1 _ _ w11 (by omega) (own_below p3 L11) (own_below ps L11)).mono ?_
  rintro e w12 ⟨rfl, d12⟩
  have L12 := L11.trans (d12.below w8.heap.size)
  go_wp2_with fail
  refine (same_any _ _ Q.1 _ _ w12 (by omega) (own_below p4 L12) (own_below ps L12)).mono ?_
  rintro e w13 ⟨rfl, d13⟩
  have L13 := L12.trans (d13.below w8.heap.size)
  have S13 := L13.size
  have hR64 : (R.1.length + 64) * 32 ≤ 140737488355328 := by omega
  have hQ64 : (Q.1.length + 64) * 32 ≤ 140737488355328 := by omega
  have hap := apart_five w13 (fun | 0 => w3.heap.size | 1 => w4.heap.size | 2 => w5.heap.size | 3 => w6.heap.size | 4 => w7.heap.size | _ => w8.heap.size) (fun | 0 => D1 | 1 => D2 | 2 => D3 | 3 => D4 | _ => D5) (fun | 0 => R.1.length | 1 => R.1.length | 2 => Q.1.length | 3 => Q.1.length | _ => R.1.length) (fun | 0 => E1 | 1 => E2 | 2 => E3 | 3 => E4 | _ => E5) (fun | 0 => frC R.1 | 1 => frC R.1 | 2 => frC Q.1 | 3 => frC Q.1 | _ => frC R.1)
    (fun i hi => by
      have : i = 0 ∨ i = 1 ∨ i = 2 ∨ i = 3 ∨ i = 4 := by omega
      rcases this with rfl | rfl | rfl | rfl | rfl
      · exact S4
      · exact S5
      · exact S6
      · exact S7
      · exact S8)
    S13
    (fun i hi => by
      have : i = 0 ∨ i = 1 ∨ i = 2 ∨ i = 3 ∨ i = 4 := by omega
      rcases this with rfl | rfl | rfl | rfl | rfl
      · exact own_below p1 L13
      · exact own_below p2 L13
      · exact own_below p3 L13
      · exact own_below p4 L13
      · exact own_below p5 L13)
    (fun i hi => by
      have : i = 0 ∨ i = 1 ∨ i = 2 ∨ i = 3 ∨ i = 4 := by omega
      rcases this with rfl | rfl | rfl | rfl | rfl
      · exact l1
      · exact l2
      · exact l3
      · exact l4
      · exact l5)
    (fun i hi => by
      have : i = 0 ∨ i = 1 ∨ i = 2 ∨ i = 3 ∨ i = 4 := by omega
      rcases this with rfl | rfl | rfl | rfl | rfl
      · exact hR64
      · exact hR64
      · exact hQ64
      · exact hQ64
      · exact hR64)
  go_wp2_with fail
  refine hap.mono ?_
  rintro e w15 ⟨rfl, b15⟩
  clear hap
  have a14 : Below w8.heap.size w8 (w13.alloc (.cells #[.slice D1 R.1.length E1, .slice D2 R.1.length E2, .slice D3 Q.1.length E3, .slice D4 Q.1.length E4, .slice D5 R.1.length E5] 22)) := L13.alloc S13 _
  have b15' : Below w3.heap.size (w13.alloc (.cells #[.slice D1 R.1.length E1, .slice D2 R.1.length E2, .slice D3 Q.1.length E3, .slice D4 Q.1.length E4, .slice D5 R.1.length E5] 22)) w15 := b15
  have c14 := chain c8 a14 (Nat.le_refl _)
  have c15 : Below w.heap.size w w15 := c14.trans (b15'.mono S3)
  have q15 := own_belowB (own_below pw a14) b15' lw
  clear b15
  go_wp2_with fail
  refine (fB w15 (ht.below c15 hg) (Nat.lt_of_lt_of_le hg c15.size)).mono ?_
  rintro e w16 ⟨⟨v6, rfl, o6⟩, b16⟩
  have c16 := chain c15 b16 (Nat.le_refl _)
  go_wp2_with fail
  refine (same_any _ _ R.1 _ _ w16 (by omega) o6 (own_below q15 b16)).mono ?_
  rintro e w17 ⟨rfl, d17⟩
  go_wp2
  go_ret
  exact ⟨rfl, c16.trans (d17.below _)⟩
end Go.Proofs.YtgjfdmnlengbfabDoor
