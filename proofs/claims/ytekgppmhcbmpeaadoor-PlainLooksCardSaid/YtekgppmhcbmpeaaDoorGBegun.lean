/-
  DERIVED. The laws' sameHits; what is asked first.
-/
import Derived.Test.YtekgppmhcbmpeaaDoorGAns
import Derived.Test.YtekgppmhcbmpeaaDoorGFill
set_option linter.unusedVariables false
set_option linter.unusedSimpArgs false
namespace Go.Proofs.YtekgppmhcbmpeaaDoor
open Classical
open Go.RowKit
theorem LAt.hit {w W : World} {la : Option Addr} {l : List Ht} (h : LAt w la l) (hW : ∀ k : Nat, k < w.heap.size → W.heap[k]? = w.heap[k]?) (i : Nat) (hi : i < l.length) : ∃ g off, la = some ⟨g, off, none⟩ ∧ W.cell? ⟨g, off + i * 3, none⟩ = some (.int .i64 l[i].d) ∧ W.cell? ⟨g, off + i * 3 + 1, none⟩ = some (.int .i64 l[i].i) ∧ W.cell? ⟨g, off + i * 3 + 2, none⟩ = some (.string l[i].c) := by
  have hne : l ≠ [] := fun e => by rw [e] at hi; simp at hi
  obtain ⟨g, off, e, r⟩ := h.at' hne
  exact ⟨g, off, e, row_en r (hW g (h.lt e hne)) i hi⟩
theorem LAt.take {w : World} {la : Option Addr} {l : List Ht} (h : LAt w la l) (i : Nat) : LAt w la (l.take i) := ⟨fun hn => by
  obtain ⟨g, off, e, hr⟩ := h.at' (fun e => hn (by rw [e]; simp))
  refine ⟨g, off, e, fun j x hx => hr j x ?_⟩
  conv => lhs; rw [← List.take_append_drop i l, List.flatMap_append]
  rw [List.getElem?_append_left (List.getElem?_eq_some_iff.1 hx).1]
  exact hx⟩
set_option maxRecDepth 100000 in
theorem sameHits_any (l : List Ht) (la lb : Option Addr) (ca cb : Nat) (w : World) (ha : LAt w la l) (hb : LAt w lb l) (hl : l.length < 4611686018427387904) :
    Calls Tryd.prog 16 #[.slice la l.length ca, .slice lb l.length cb] w fun e w' => e = .returned (.bool true) ∧ Drew w w' := by
  obtain ⟨n, hn⟩ : ∃ n, n = l.length := ⟨_, rfl⟩
  have HA := Hid.mk (And.intro ha (And.intro hb hn))
  rw [← hn] at hl ⊢
  clear ha hb hn
  go_enter Tryd.func16, Tryd.ntmps16
  go_wp2
  go_loopw [5] (fun u wr => ∃ i : Nat, u = .int .i64 i ∧ i ≤ n ∧ Drew w wr) (fun u _ => n - (intOf u).toNat)
  case atStart => exact ⟨0, rfl, Nat.zero_le _, Drew.refl _⟩
  case round =>
    obtain ⟨i, rfl, hi, hd⟩ := hrel
    by_cases hlt : i < n
    · have hln : i < l.length := by have := HA.out.2.2; omega
      have hne : l ≠ [] := fun h => by rw [h] at hln; simp at hln
      obtain ⟨g1, o1, e1, r1⟩ := HA.out.1.at' hne
      obtain ⟨g2, o2, e2, r2⟩ := HA.out.2.1.at' hne
      subst e1
      subst e2
      have hh : ∀ k : Nat, wr.heap[k]? = w.heap[k]? := fun k => by obtain ⟨m, rfl⟩ := hd; rfl
      obtain ⟨x0, x1, x2⟩ := row_en r1 (hh g1) i hln
      obtain ⟨y0, y1, y2⟩ := row_en r2 (hh g2) i hln
      obtain ⟨e, he⟩ : ∃ e, e = l[i] := ⟨_, rfl⟩
      rw [← he] at x0 x1 x2 y0 y1 y2
      have i1 : (i : Int) < (n : Int) := by omega
      have i2 : 0 ≤ (i : Int) := by omega
      clear he hh r1 r2 hne hln
      go_wp2
      go_quiet (fail)
      go_wp2
      refine ⟨⟨i + 1, rfl, hlt, hd.more _⟩, by simp only [intOf]; omega⟩
    · go_wp2
      go_ret
      exact ⟨rfl, hd⟩
/-- A list that was told lies somewhere. -/
theorem Told.lat {w w' : World} {v : Value} {X : List Ht} (h : Told w w' v X) : ∃ a c, v = .slice a X.length c ∧ X.length ≤ c ∧ LAt w' a X := own_lat h.1
def zC : ByteArray := fitC ⟨#[]⟩ 8
def oC : ByteArray := fitC ⟨#[1]⟩ 8
def threeP : List Pr := [⟨5, zC⟩, ⟨3, zC⟩, ⟨4, oC⟩]
def twoH : List Ht := [⟨0, 4, oC⟩, ⟨1, 3, zC⟩]
theorem three_fl : flL 8 threeP = threeP := by kernel_rfl
theorem three_top : topL 2 (hitsOf oC threeP) = twoH := by kernel_rfl
set_option maxHeartbeats 2000000 in
set_option maxRecDepth 100000 in
theorem begun_any (w : World) (ht : Tab w) : Calls Tryd.prog 7 #[] w fun e w' => e = .returned (.bool true) ∧ Below w.heap.size w w' := by
  have f1 := fun W => fit_any ⟨#[]⟩ 8 64 W (by decide) (by decide) (by decide) (by decide)
  have f2 := fun W => fit_any ⟨#[1]⟩ 8 64 W (by decide) (by decide) (by decide) (by decide)
  have e1 : fitC ⟨#[]⟩ 8 = zC := rfl
  have e2 : fitC ⟨#[1]⟩ 8 = oC := rfl
  rw [e1] at f1
  rw [e2] at f2
  clear e1 e2
  have HT := Hid.mk ht
  clear ht
  go_enter Tryd.func7, Tryd.ntmps7
  go_wp2_with fail
  refine (f1 _).mono ?_
  clear f1
  rintro e w1 ⟨rfl, b1⟩
  go_wp2_with fail
  refine (f2 _).mono ?_
  clear f2
  rintro e w2 ⟨rfl, b2⟩
  have PL : PLAt (w2.alloc (.cells #[.int .i64 5, .string zC, .int .i64 3, .string zC, .int .i64 4, .string oC] 56)) (some ⟨w2.heap.size, 0, none⟩) threeP := ⟨fun _ => ⟨_, 0, rfl, fun j u hu => by
    rw [Nat.zero_add, cell_of_row _ _ j _ _ (0, 0) (heap_alloc_last w2 _)]
    simpa [threeP, pC] using hu⟩⟩
  have bA : Below w.heap.size w (w2.alloc (.cells #[.int .i64 5, .string zC, .int .i64 3, .string zC, .int .i64 4, .string oC] 56)) := (b1.trans (b2.mono b1.size)).alloc (Nat.le_trans b1.size b2.size) _
  have hf : Calls Tryd.prog 10 #[.int .i64 64, .slice (some ⟨w2.heap.size, 0, none⟩) 3 3] (w2.alloc (.cells #[.int .i64 5, .string zC, .int .i64 3, .string zC, .int .i64 4, .string oC] 56)) fun e w' => ∃ p mb a c, e = .returned (.tuple #[Pt p, .slice a 3 c, .bool true]) ∧ FI (w2.alloc (.cells #[.int .i64 5, .string zC, .int .i64 3, .string zC, .int .i64 4, .string oC] 56)) w' 64 (.slice a 3 c) p mb threeP := by
    have h := filled_any 64 8 rfl rfl threeP (fun x hx => by
      simp [threeP] at hx
      rcases hx with rfl | rfl | rfl <;> refine ⟨⟨by decide, by decide⟩, ?_⟩ <;> (first | (show (fitC ⟨#[]⟩ 8).size ≤ _) | (show (fitC ⟨#[1]⟩ 8).size ≤ _)) <;> rw [fitC_size] <;> decide) (some ⟨w2.heap.size, 0, none⟩) 3 (w2.alloc (.cells #[.int .i64 5, .string zC, .int .i64 3, .string zC, .int .i64 4, .string oC] 56)) PL (by decide)
    rw [three_fl] at h
    exact h
  have TA : Hid (Tab (w2.alloc (.cells #[.int .i64 5, .string zC, .int .i64 3, .string zC, .int .i64 4, .string oC] 56))) := HT.out.lat bA
  have HB := Hid.mk bA
  clear PL b1 b2 bA
  go_wp2_with fail
  refine hf.mono ?_
  clear hf
  rintro e w4 ⟨p, mb, a, c, rfl, F4⟩
  have htop := topk_any p mb 64 _ threeP oC 2 w4 F4.mp (by rw [show oC.size = 8 from fitC_size _ _]; rfl) (by decide) (TA.out.lat F4.st) (by decide)
  rw [three_top] at htop
  have b4 : Hid (Below w.heap.size w w4) := HB.out.trans (F4.st.mono HB.out.size)
  clear F4 TA HB
  go_wp2_with fail
  refine htop.mono ?_
  clear htop
  rintro e w5 ⟨v, rfl, t5⟩
  obtain ⟨a5, c5, hv, -, l5⟩ := t5.lat
  subst hv
  have hlen : twoH.length = 2 := rfl
  rw [hlen]
  have b5 : Hid (Below w.heap.size w w5) := b4.out.trans (t5.2.2.mono b4.out.size)
  have bA : Below w5.heap.size w5 (w5.alloc (.cells #[.int .i64 0, .int .i64 4, .string oC, .int .i64 1, .int .i64 3, .string zC] 36)) := (Below.refl _ w5).alloc (Nat.le_refl _) _
  have l6 : LAt (w5.alloc (.cells #[.int .i64 0, .int .i64 4, .string oC, .int .i64 1, .int .i64 3, .string zC] 36)) (some ⟨w5.heap.size, 0, none⟩) twoH := ⟨fun _ => ⟨_, 0, rfl, fun j u hu => by
    rw [Nat.zero_add, cell_of_row _ _ j _ _ (0, 0) (heap_alloc_last w5 _)]
    simpa [twoH, hC] using hu⟩⟩
  have hs := sameHits_any twoH a5 (some ⟨w5.heap.size, 0, none⟩) c5 2 _ (l5.below bA) l6 (by decide)
  rw [hlen] at hs
  have b6 : Hid (Below w.heap.size w (w5.alloc (.cells #[.int .i64 0, .int .i64 4, .string oC, .int .i64 1, .int .i64 3, .string zC] 36))) := b5.out.trans (bA.mono b5.out.size)
  clear t5 l5 l6 bA b4
  go_wp2_with fail
  refine hs.mono ?_
  clear hs
  rintro e w7 ⟨rfl, d7⟩
  have b7 : Below w.heap.size w w7 := b6.out.trans (d7.below _)
  clear d7
  go_wp2_with fail
  go_ret
  exact ⟨rfl, b7⟩
end Go.Proofs.YtekgppmhcbmpeaaDoor
