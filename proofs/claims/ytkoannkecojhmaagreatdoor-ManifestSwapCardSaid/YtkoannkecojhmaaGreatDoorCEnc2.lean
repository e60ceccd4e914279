/-
  DERIVED. Encode: the walk.
-/
import Derived.Test.YtkoannkecojhmaaGreatDoorCEnc
set_option linter.unusedVariables false
set_option linter.unusedSimpArgs false
namespace Go.Proofs.YtkoannkecojhmaaGreatDoor
open Go.RowKit Go.Proofs.SealMath
theorem SAt.take {w : World} {g : Nat} {l m : List Value} (h : SAt w g (l ++ m)) : SAt w g l := fun j v hv => h j v (by
  have hj : j < l.length := by
    rcases Nat.lt_or_ge j l.length with h | h
    · exact h
    · rw [List.getElem?_eq_none h] at hv; cases hv
  rw [List.getElem?_append_left hj]; exact hv)
theorem SAt.stay {F : Nat → Prop} {w w' : World} {g : Nat} {l : List Value} (h : SAt w g l) (s : Stay F w w') (hn : ¬ F g) : SAt w' g l := fun j v hv => by
  have fg := h j v hv
  have := s.block g (World.block_lt_of_cell? w _ fg) hn
  unfold World.cell? at fg ⊢; simp only at fg ⊢; rw [this]; exact fg
theorem own_lt {w : World} {b : Nat} {p v : Value} {l : List UInt8} (h : BdC w b p v l) : ∀ k, v.ownBlock = some k → k < w.heap.size := fun k hk => row_lt h.row hk
theorem bd_lt {w : World} {b : Nat} {p v : Value} {l : List UInt8} (h : BdC w b p v l) : b < w.heap.size := (Array.getElem?_eq_some_iff.1 h.cells).1
theorem pv_pos (n : Nat) : 0 < (pv n).length := by unfold pv; rw [pvL]; split <;> simp
/-- What is kept while the runs are written. -/
def RE (w : World) (b : Nat) (L : List UInt8) (rs : List Ru) (u : Value) (wr : World) : Prop :=
  ∃ (i : Nat) (p v : Value), u = .int .i64 i ∧ i ≤ rs.length ∧ BdC wr b p v (L ++ ((rs.take i).flatMap ruN).flatMap pv) ∧ (∀ k, v.ownBlock = some k → w.heap.size ≤ k) ∧ Below w.heap.size w wr
set_option maxHeartbeats 8000000 in
set_option maxRecDepth 100000 in
theorem encode_any (m : Mf) (la : Option Addr) (c : Nat) (w : World) (hL : LAt w la m.rs) (hw : MfW m) (hcap : m.rs.length ≤ c) (hs : m.rs.length < 4611686018427387904) (ht : Tab w) (hg0 : 0 < w.heap.size) :
    Calls Tryz.prog 6 #[.agg (mfC m la c).toArray] w fun e w' => e = .returned (.tuple #[.string (enT m), .int .i64 (chE m)]) ∧ Below w.heap.size w w' := by
  obtain ⟨wa, hwa⟩ : ∃ wa, wa = w.alloc (.cells (mfC m la c).toArray 26) := ⟨_, rfl⟩
  have ba : Below w.heap.size w wa := by rw [hwa]; exact (Below.refl _ w).alloc (Nat.le_refl _) _
  have sza : wa.heap.size = w.heap.size + 1 := by rw [hwa]; simp
  have SA : SAt wa w.heap.size (mfC m la c) := by rw [hwa]; exact SAt.new w _ _
  have hwa' : w.alloc (.cells (mfC m la c).toArray 26) = wa := hwa.symm
  have cc := ccheck_any m la c wa (hL.below ba) hw hs
  have a0 := SA 0 _ rfl
  have a1 := SA 1 _ rfl
  have a2 := SA 2 _ rfl
  have a3 := SA 3 _ rfl
  have a4 := SA 4 _ rfl
  have a5 := SA 5 _ rfl
  have a6 := SA 6 _ rfl
  clear hwa
  by_cases hE : chE m = 0
  · have hGo := goes_of hE
    have hT : enT m = ⟨(frL 3 (payL m)).toArray⟩ := by unfold enT; rw [if_pos hE]
    rw [hE] at cc
    rw [hE, hT]
    have hPL := pay_len hGo
    have HP : Hid (payL m = (hdN m).flatMap pv ++ pv m.rs.length ++ (m.rs.flatMap ruN).flatMap pv) := rfl
    have hD := pvs_len (hdN m)
    have hD6 : (hdN m).length = 6 := rfl
    rw [hD6] at hD
    have hcl := hdN_cells hGo
    have hle := hdN_le hGo
    have hlen := hGo.len
    have pl := pv_len m.rs.length
    have hszp : (⟨(pvL 9 m.rs.length).toArray⟩ : ByteArray).size ≤ 10 := pl
    have HW := fun (q b k : Nat) (p v : Value) (l : List UInt8) (W : World) (h1 : BdC W b p v l) => cwrite_any (hdN m) w.heap.size q b k p v l W h1
    rw [hD6, hcl] at HW
    have HR := Hid.mk hGo.rs
    have HLL := Hid.mk hL
    have HT := Hid.mk ht
    obtain ⟨Q, hQ⟩ : ∃ Q, Q = payL m := ⟨_, rfl⟩
    obtain ⟨L0, hL0⟩ : ∃ L0, L0 = (hdN m).flatMap pv := ⟨_, rfl⟩
    rw [← hQ] at HP hPL ⊢
    rw [← hL0] at HP hD HW
    clear hE hGo hT hQ hL0 hcl hL ht hD6
    simp only [mfC] at hwa' cc SA ⊢
    go_enter Tryz.func6, Tryz.ntmps6
    have TK : ∀ W : World, SAt W w.heap.size [.int .i64 m.w, .int .i64 m.ch, .int .i64 m.md, .int .i64 m.seq, .int .i64 m.nx, .int .i64 m.jn, .slice la m.rs.length c] → SAt W w.heap.size [.int .i64 m.w, .int .i64 m.ch, .int .i64 m.md, .int .i64 m.seq, .int .i64 m.nx, .int .i64 m.jn] := fun W h => SAt.take (m := [.slice la m.rs.length c]) h
    go_wp2_with first
      | (go_at_call 18; refine cc.mono ?_; rintro e w1 ⟨rfl, b1⟩; clear cc; have S1 := SA.lat b1; have sz1 := b1.size; have bd := BdC.new w1; have bn : Below w1.heap.size w1 (w1.alloc (.cells #[.pointer none, .slice none 0 0] 59)) := (Below.refl _ w1).alloc (Nat.le_refl _) _)
      | (go_at_call 20; refine (numbers_any w.heap.size _).mono ?_; rintro e w3 ⟨rfl, rq, b3⟩; have rq' : RowAt w3 (w1.heap.size + 1) 0 (ptsV w.heap.size 6) := (by simpa using rq); have bd3 := bd.kept (F := fun _ => False) (.below b3) (fun h => h) (fun _ _ h => h); have b13 := chain bn b3 (Nat.le_refl _); have S3 := S1.lat b13; clear bd bn rq b3)
      | (go_at_call 19; refine (HW (w1.heap.size + 1) w1.heap.size 6 _ _ _ w3 bd3 rq' (TK _ S3) (by omega) (by omega) (fun k hk => by cases hk) hle (by decide) (by decide)).mono ?_; rintro e w4 ⟨rfl, p4, v4, bd4, st4, loc4⟩; have S4 := S3.stay st4 (fun h => by rcases h with h | h; omega; cases h); have q6 := S4 6 _ rfl; clear HW)
      | (go_at_call 22; refine (putvar_any m.rs.length w4 (by omega)).mono ?_; rintro e w5 ⟨rfl, b5⟩)
      | (go_at_call 21; refine wstrC_any _ w5 (bd4.kept (F := fun _ => False) (.below b5) (fun h => h) (fun _ _ h => h)) (by simp only [List.nil_append]; omega) _ ?_; intro v6 w6 bd6 st6 loc6; have q6b := (S4.lat b5).stay st6 (fun h => by rcases h with h | h; omega; rcases loc4 _ h with h | h; cases h; (have := b13.size; omega)) 6 _ rfl)
    have g1 : w.heap.size + 1 ≤ w1.heap.size := by omega
    have b04 : Below w.heap.size w w4 := by
      have x1 : Below w.heap.size w w1 := chain ba b1 (Nat.le_refl _)
      have x3 : Below w.heap.size w w3 := chain x1 b13 (Nat.le_refl _)
      exact x3.trans (st4.toBelow (B := w.heap.size) (fun k hk h => by rcases h with h | h; omega; cases h) x3.size)
    have b05 := chain b04 b5 (Nat.le_refl _)
    have own4 : ∀ k, v4.ownBlock = some k → w.heap.size ≤ k := fun k hk => by
      rcases loc4 k hk with h | h
      · cases h
      · have := b13.size; omega
    have b06 : Below w.heap.size w w6 := b05.trans (st6.toBelow (B := w.heap.size) (fun k hk h => by
      rcases h with h | h
      · omega
      · have := own4 k h; omega) b05.size)
    have own6 : ∀ k, v6.ownBlock = some k → w.heap.size ≤ k := fun k hk => by
      rcases loc6 k hk with h | h
      · exact own4 k h
      · have := b05.size; omega
    obtain ⟨b, hb⟩ : ∃ b, b = w1.heap.size := ⟨_, rfl⟩
    have hbb : w.heap.size ≤ b := by omega
    have bd6' : BdC w6 b (Pt b) v6 (L0 ++ pv m.rs.length) := by rw [hb]; simpa [pv] using bd6
    rw [← hb]
    obtain ⟨L1, hL1⟩ : ∃ L1, L1 = L0 ++ pv m.rs.length := ⟨_, rfl⟩
    have l1 : L1.length ≤ 70 := by rw [hL1, List.length_append]; omega
    have l1p : 0 < L1.length := by have := pv_pos m.rs.length; rw [hL1, List.length_append]; omega
    rw [← hL1] at bd6' HP
    have H6 := Hid.mk bd6'
    have HO := Hid.mk own6
    have HB6 := Hid.mk b06
    clear hL1 hb bd6 bd6' own6 own4 loc6 loc4 st6 st4 b04 b05 b06 b5 b1 b13 ba S1 S3 S4 q6 q6b rq' bd3 bd4 a0 a1 a2 a3 a4 a5 a6 hwa' SA TK sza sz1 g1
    go_loopw [24] (fun u wr => RE w b L1 m.rs u wr) (fun u _ => m.rs.length - (intOf u).toNat)
    case atStart => exact ⟨0, _, v6, rfl, Nat.zero_le _, by simpa using H6.out, HO.out, HB6.out⟩
    case round =>
      obtain ⟨i, p, v, rfl, hi, bd, own, bw⟩ := hrel
      by_cases hlt : i < m.rs.length
      · obtain ⟨g, off, rfl, hra⟩ := (HLL.out.below bw).at' (by intro h; rw [h] at hlt; simp at hlt)
        obtain ⟨x0, x1, x2, x3⟩ := row_ru hra i hlt
        have hr := HR.out m.rs[i] (List.getElem_mem hlt)
        have HT2 : Hid (L1 ++ ((m.rs.take (i + 1)).flatMap ruN).flatMap pv = L1 ++ ((m.rs.take i).flatMap ruN).flatMap pv ++ (ruN m.rs[i]).flatMap pv) := by
          show _ = _
          rw [List.take_add_one, List.getElem?_eq_getElem hlt, List.flatMap_append, List.flatMap_append, List.append_assoc]
          simp only [Option.toList_some, List.flatMap_cons, List.flatMap_nil, List.append_nil]
        have hLL : (L1 ++ ((m.rs.take i).flatMap ruN).flatMap pv).length ≤ 100000 := by
          have a := pvs_len ((m.rs.take i).flatMap ruN)
          rw [ruNs_len, List.length_take] at a
          rw [List.length_append]; omega
        obtain ⟨R, hR⟩ : ∃ R, R = m.rs[i] := ⟨_, rfl⟩
        rw [← hR] at x0 x1 x2 x3 hr HT2
        obtain ⟨W, hW⟩ : ∃ W, W = wr.alloc (.cells (ruC R).toArray 54) := ⟨_, rfl⟩
        have bW : Below wr.heap.size wr W := by rw [hW]; exact (Below.refl _ wr).alloc (Nat.le_refl _) _
        have szW : W.heap.size = wr.heap.size + 1 := by rw [hW]; simp
        have SR : SAt W wr.heap.size (ruC R) := by rw [hW]; exact SAt.new wr _ _
        have hW' : wr.alloc (.cells (ruC R).toArray 54) = W := hW.symm
        have bdl := bd_lt bd
        have ol := own_lt bd
        have HW := fun (W2 : World) (h1 : BdC W2 b p v (L1 ++ ((m.rs.take i).flatMap ruN).flatMap pv)) => cwrite_any (ruN R) wr.heap.size (wr.heap.size + 1) b 4 p v _ W2 h1
        rw [show (ruN R).length = 4 from rfl, ruN_cells hr] at HW
        have hle4 := ruN_le hr
        have HBd := Hid.mk bd
        have HOw := Hid.mk own
        have HBw := Hid.mk bw
        clear hR hra hW HR HLL H6 HO HB6 bd own bw hr HT HP
        simp only [ruC] at hW'
        go_wp2_with first
          | (go_at_call 23; refine (runNumbers_any wr.heap.size _).mono ?_; rintro e w2 ⟨rfl, rq, b2⟩; rw [szW]; rw [szW] at rq)
          | (go_at_call 19; refine (HW w2 ((HBd.out.kept (F := fun _ => False) (.below bW) (fun h => h) (fun _ _ h => h)).kept (F := fun _ => False) (.below b2) (fun h => h) (fun _ _ h => h)) rq (SR.lat b2) (by omega) (by omega) (fun k hk => by have := ol k hk; omega) hle4 (by decide) hLL).mono ?_; rintro e w3 ⟨rfl, p3, v3, bd3, st3, loc3⟩; clear HW)
        have x2 := chain HBw.out bW (Nat.le_refl _)
        have x3 := chain x2 b2 (Nat.le_refl _)
        refine ⟨⟨i + 1, p3, v3, rfl, hlt, by rw [HT2.out]; exact bd3, fun k hk => ?_, x3.trans (st3.toBelow (B := w.heap.size) (fun k hk h => ?_) x3.size)⟩, by simp only [intOf]; omega⟩
        · rcases loc3 k hk with h | h
          · exact HOw.out k h
          · have := x3.size; omega
        · rcases h with h | h
          · omega
          · have := HOw.out k h; omega
      · have e : i = m.rs.length := by omega
        subst e
        rw [List.take_of_length_le (Nat.le_refl _), ← HP.out] at bd
        have hne : Q ≠ [] := fun h => by
          have := congrArg List.length HP.out
          rw [h, List.length_append] at this
          simp at this
          omega
        have cs := string_any wr bd hne
        have HOw := Hid.mk own
        have HBw := Hid.mk bw
        clear HR HLL H6 HO HB6 bd own bw
        go_wp2_with first
          | (go_at_call 25; refine cs.mono ?_; rintro e w2 ⟨rfl, st2⟩; clear cs; have b2 : Below w.heap.size w w2 := HBw.out.trans (st2.toBelow (B := w.heap.size) (fun k hk h => by have := HOw.out k h; omega) HBw.out.size))
          | (go_at_call 24; refine (frame_any 3 _ w2 (HT.out.below b2 hg0) (Nat.lt_of_lt_of_le hg0 b2.size)).mono ?_; rintro e w3 ⟨rfl, b3⟩)
        have t1 : frT 3 ⟨Q.toArray⟩ = frL 3 Q := by unfold frT; rw [if_pos (by decide), if_pos (by show Q.length ≤ 65536; omega)]; rfl
        have t2 : frE 3 ⟨Q.toArray⟩ = 0 := by unfold frE; rw [if_pos (by decide), if_pos (by show Q.length ≤ 65536; omega)]
        rw [t1, t2]
        go_ret2
        exact ⟨rfl, chain b2 b3 (Nat.le_refl _)⟩
  · have hE' : (chE m != 0) = true := by simpa [bne_iff_ne] using hE
    have hT : enT m = ⟨#[]⟩ := by unfold enT; rw [if_neg hE]
    rw [hT]
    generalize chE m = E at cc hE' ⊢
    clear SA hE hT
    simp only [mfC] at hwa' cc ⊢
    go_enter Tryz.func6, Tryz.ntmps6
    go_wp2_with (go_at_call 18; refine cc.mono ?_; rintro e w1 ⟨rfl, b1⟩; clear cc)
    go_ret2
    exact ⟨rfl, chain ba b1 (Nat.le_refl _)⟩
end Go.Proofs.YtkoannkecojhmaaGreatDoor
