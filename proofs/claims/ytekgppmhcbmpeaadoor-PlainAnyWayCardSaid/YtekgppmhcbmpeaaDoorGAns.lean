/-
  DERIVED. A plain map's searches: TopK, Radius.
-/
import Derived.Test.YtekgppmhcbmpeaaDoorGLook
import Derived.Test.YtekgppmhcbmpeaaDoorEBall
set_option linter.unusedVariables false
set_option linter.unusedSimpArgs false
namespace Go.Proofs.YtekgppmhcbmpeaaDoor
open Classical
open Go.RowKit Go.Maps Go.Proofs.BitMath
theorem inD_snoc (r : Int) (L : List Ht) (h : Ht) : srtL (inD r (L ++ [h])) = putB r h (srtL (inD r L)) := by
  unfold putB inD
  rw [List.filter_append]
  by_cases hd : h.d ≤ r
  · rw [if_pos hd]
    have : List.filter (fun h => decide (h.d ≤ r)) [h] = [h] := by simp [hd]
    rw [this]
    unfold srtL
    rw [List.foldl_append]; rfl
  · rw [if_neg hd]
    have : List.filter (fun h => decide (h.d ≤ r)) [h] = [] := by simp [hd]
    rw [this, List.append_nil]
/-- The variable that a literal has caught holds a pointer. -/
def Caught (W : World) (g t : Nat) : Prop := W.cell? ⟨g, 0, none⟩ = some (Pk t)
/-- What a look keeps that hands on to a top. -/
structure TI (B g t k kp r : Nat) (hs : List Ht) (W : World) : Prop where
  box : Caught W g t
  tt : TT W t k kp (topL k hs)
  far : ∀ j, Ft W kp j → B ≤ j ∧ j ≠ r ∧ j ≠ g
  tr : t ≠ r
  gr : g ≠ r
theorem TI.stay {B g t k kp r : Nat} {hs : List Ht} {W W' : World} (h : TI B g t k kp r hs W) (s : Stay (fun j => j = r) W W') : TI B g t k kp r hs W' := by
  obtain ⟨h1, h2⟩ := h.tt.keep s h.tr (fun j hj e => (h.far j hj).2.1 e)
  refine ⟨?_, h1, fun j hj => h.far j ((h2 j).1 hj), h.tr, h.gr⟩
  have hb := s.block g (World.block_lt_of_cell? W _ h.box) h.gr
  have := h.box
  unfold Caught at this ⊢
  rw [← this]; simp only [World.cell?, hb]
set_option maxRecDepth 100000 in
theorem topLit_any (B g t k kp r : Nat) (hs : List Ht) (x : Ht) (W : World) (hr : r < W.heap.size) (hBW : B ≤ W.heap.size) (hx : HtW x) (h : TI B g t k kp r hs W) :
    Calls Tryd.prog 35 #[.agg (hC x).toArray, Pt g] W fun e W' => e = .returned (.tuple #[]) ∧ TI B g t k kp r (hs ++ [x]) W' ∧ Stay (fun j => B ≤ j ∧ j ≠ r) W W' := by
  have hg : g < W.heap.size := World.block_lt_of_cell? W _ h.box
  have bA : Below W.heap.size W (W.alloc (.cells (hC x).toArray 36)) := (Below.refl _ W).alloc (Nat.le_refl _) _
  have h1 := h.stay (.below bA)
  have hadd := tadd_any t k kp (topL k hs) x (W.alloc (.cells (hC x).toArray 36)) h1.tt hx
  have e1 : putK k x (topL k hs) = topL k (hs ++ [x]) := by rw [topL_snoc]; rfl
  rw [e1] at hadd
  have HE : Hid (∀ W', TT W' t k kp (topL k (hs ++ [x])) → FrK kp (W.alloc (.cells (hC x).toArray 36)) W' → TI B g t k kp r (hs ++ [x]) W' ∧ Stay (fun j => B ≤ j ∧ j ≠ r) W W') := fun W' hT f => by
    have st : Stay (fun j => B ≤ j ∧ j ≠ r) (W.alloc (.cells (hC x).toArray 36)) W' := f.stay.mono (fun j _ hj => ⟨(h1.far j hj).1, (h1.far j hj).2.1⟩)
    refine ⟨⟨?_, hT, fun j hj => ?_, h.tr, h.gr⟩, ((Stay.refl _ W).alloc _).trans st⟩
    · have hb := f.stay.block g (World.block_lt_of_cell? _ _ h1.box) (fun hF => (h1.far g hF).2.2 rfl)
      have := h1.box
      unfold Caught at this ⊢
      rw [← this]; simp only [World.cell?, hb]
    · rcases f.loc j hj with h2 | h2
      · exact h1.far j h2
      · simp at h2; omega
  have c0 : (W.alloc (.cells (hC x).toArray 36)).cell? ⟨g, 0, none⟩ = some (Pk t) := h1.box
  obtain ⟨bq, hbq⟩ : ∃ bq, bq = decide (x ∈ topL k (hs ++ [x])) := ⟨_, rfl⟩
  rw [← hbq] at hadd
  simp only [hC] at hadd HE c0 ⊢
  clear hbq h1 h bA e1 hr hBW hg
  go_enter Tryd.func35, Tryd.ntmps35
  go_wp2_with (go_at_call 36; refine hadd.mono ?_; clear hadd; rintro e w4 ⟨rfl, T4, f4⟩)
  go_end0
  exact ⟨rfl, HE.out _ T4 f4⟩
/-- What a look keeps that hands on to a ball. -/
structure BI (B g t : Nat) (rad : Int) (kp r : Nat) (hs : List Ht) (W : World) : Prop where
  box : Caught W g t
  tt : BT W t rad kp (srtL (inD rad hs))
  far : ∀ j, Ft W kp j → B ≤ j ∧ j ≠ r ∧ j ≠ g
  tr : t ≠ r
  gr : g ≠ r
theorem BI.stay {B g t kp r : Nat} {rad : Int} {hs : List Ht} {W W' : World} (h : BI B g t rad kp r hs W) (s : Stay (fun j => j = r) W W') : BI B g t rad kp r hs W' := by
  obtain ⟨h1, h2⟩ := h.tt.keep s h.tr (fun j hj e => (h.far j hj).2.1 e)
  refine ⟨?_, h1, fun j hj => h.far j ((h2 j).1 hj), h.tr, h.gr⟩
  have hb := s.block g (World.block_lt_of_cell? W _ h.box) h.gr
  have := h.box
  unfold Caught at this ⊢
  rw [← this]; simp only [World.cell?, hb]
theorem srtL_le (L : List Ht) : (srtL L).length ≤ L.length := nodup_len (srtL_srt L).nodup (fun x hx => (srtL_mem L x).1 hx)
set_option maxRecDepth 100000 in
theorem ballLit_any (B g t kp r : Nat) (rad : Int) (hs : List Ht) (x : Ht) (W : World) (hr : r < W.heap.size) (hBW : B ≤ W.heap.size) (hx : HtW x) (hl : hs.length < 1048576) (h : BI B g t rad kp r hs W) :
    Calls Tryd.prog 31 #[.agg (hC x).toArray, Pt g] W fun e W' => e = .returned (.tuple #[]) ∧ BI B g t rad kp r (hs ++ [x]) W' ∧ Stay (fun j => B ≤ j ∧ j ≠ r) W W' := by
  have hg : g < W.heap.size := World.block_lt_of_cell? W _ h.box
  have bA : Below W.heap.size W (W.alloc (.cells (hC x).toArray 36)) := (Below.refl _ W).alloc (Nat.le_refl _) _
  have h1 := h.stay (.below bA)
  have hadd := badd_any t kp rad (srtL (inD rad hs)) x (W.alloc (.cells (hC x).toArray 36)) h1.tt hx (by
    have a1 := srtL_le (inD rad hs)
    have a2 : (inD rad hs).length ≤ hs.length := List.length_filter_le _ _
    unfold LIM; omega)
  rw [← inD_snoc] at hadd
  have HE : Hid (∀ W', BT W' t rad kp (srtL (inD rad (hs ++ [x]))) → FrK kp (W.alloc (.cells (hC x).toArray 36)) W' → BI B g t rad kp r (hs ++ [x]) W' ∧ Stay (fun j => B ≤ j ∧ j ≠ r) W W') := fun W' hT f => by
    have st : Stay (fun j => B ≤ j ∧ j ≠ r) (W.alloc (.cells (hC x).toArray 36)) W' := f.stay.mono (fun j _ hj => ⟨(h1.far j hj).1, (h1.far j hj).2.1⟩)
    refine ⟨⟨?_, hT, fun j hj => ?_, h.tr, h.gr⟩, ((Stay.refl _ W).alloc _).trans st⟩
    · have hb := f.stay.block g (World.block_lt_of_cell? _ _ h1.box) (fun hF => (h1.far g hF).2.2 rfl)
      have := h1.box
      unfold Caught at this ⊢
      rw [← this]; simp only [World.cell?, hb]
    · rcases f.loc j hj with h2 | h2
      · exact h1.far j h2
      · simp at h2; omega
  have c0 : (W.alloc (.cells (hC x).toArray 36)).cell? ⟨g, 0, none⟩ = some (Pk t) := h1.box
  obtain ⟨bq, hbq⟩ : ∃ bq, bq = decide (x.d ≤ rad) := ⟨_, rfl⟩
  rw [← hbq] at hadd
  simp only [hC] at hadd HE c0 ⊢
  clear hbq h1 h bA hr hBW hg hl
  go_enter Tryd.func31, Tryd.ntmps31
  go_wp2_with (go_at_call 32; refine hadd.mono ?_; clear hadd; rintro e w4 ⟨rfl, T4, f4⟩)
  go_end0
  exact ⟨rfl, HE.out _ T4 f4⟩
set_option maxRecDepth 100000 in
theorem ent_top (args : Array Value) (W : World) : (callFunc 35 args).run Tryd.prog W = .ok (.enter 35 args) W := rfl
set_option maxRecDepth 100000 in
theorem ent_ball (args : Array Value) (W : World) : (callFunc 31 args).run Tryd.prog W = .ok (.enter 31 args) W := rfl
/-- The box of the variable that is caught. -/
theorem box_new (w2 : World) (t ty : Nat) : Caught (w2.alloc (.cells #[Pk t] ty)) w2.heap.size t := by
  unfold Caught
  rw [cell_of_row _ _ 0 _ _ (0, 0) (heap_alloc_last w2 _)]; rfl
theorem TI.start {w w2 : World} {t k kp ty : Nat} (T2 : TT w2 t k kp []) (F2 : FreshK w w2 kp) (W' : World) (b : Below (w2.alloc (.cells #[Pk t] ty)).heap.size (w2.alloc (.cells #[Pk t] ty)) W') : TI w.heap.size w2.heap.size t k kp (w2.alloc (.cells #[Pk t] ty)).heap.size [] W' := by
  have bA : Below w2.heap.size w2 (w2.alloc (.cells #[Pk t] ty)) := (Below.refl _ w2).alloc (Nat.le_refl _) _
  have b2 : Below w2.heap.size w2 W' := bA.trans (b.mono bA.size)
  obtain ⟨h1, h2⟩ := T2.below b2
  have htl := T2.1.lt
  refine ⟨cell_lat b (box_new w2 t ty), h1, fun j hj => ?_, by simp; omega, by simp⟩
  have h3 := (h2 j).1 hj
  have h4 := F2.1 j h3
  have h5 := T2.2.1.ftlt j h3
  refine ⟨h4, by simp; omega, by omega⟩
theorem BI.start {w w2 : World} {t kp ty : Nat} {rad : Int} (T2 : BT w2 t rad kp []) (F2 : FreshK w w2 kp) (W' : World) (b : Below (w2.alloc (.cells #[Pk t] ty)).heap.size (w2.alloc (.cells #[Pk t] ty)) W') : BI w.heap.size w2.heap.size t rad kp (w2.alloc (.cells #[Pk t] ty)).heap.size [] W' := by
  have bA : Below w2.heap.size w2 (w2.alloc (.cells #[Pk t] ty)) := (Below.refl _ w2).alloc (Nat.le_refl _) _
  have b2 : Below w2.heap.size w2 W' := bA.trans (b.mono bA.size)
  obtain ⟨h1, h2⟩ := T2.below b2
  have htl := T2.1.lt
  refine ⟨cell_lat b (box_new w2 t ty), h1, fun j hj => ?_, by simp; omega, by simp⟩
  have h3 := (h2 j).1 hj
  have h4 := F2.1 j h3
  have h5 := T2.2.ftlt j h3
  refine ⟨h4, by simp; omega, by omega⟩
theorem Tab.lt {w : World} (h : Tab w) : 0 < w.heap.size := World.block_lt_of_cell? w _ (h 0 (by decide))
theorem Tab.lat {w w' : World} (h : Tab w) (b : Below w.heap.size w w') : Tab w' := h.below b h.lt
theorem look_top (p mb : Nat) (wd n : Int) (xs : List Pr) (q : ByteArray) (t k kp : Nat) (w w2 : World) (h : MP w p mb wd xs n) (hq : (q.size : Int) = wd / 8) (ht : Tab w) (hl : xs.length ≤ 1048576) (T2 : TT w2 t k kp []) (F2 : FreshK w w2 kp) :
    Calls Tryd.prog 30 #[Pt p, .string q, .func (.func 35) #[] #[Pt w2.heap.size]] (w2.alloc (.cells #[Pk t] 75)) fun e w' => e = .returned (.tuple #[]) ∧ Caught w' w2.heap.size t ∧ TT w' t k kp (topL k (hitsOf q xs)) ∧ Below w.heap.size w w' := by
  have bA : Below w.heap.size w (w2.alloc (.cells #[Pk t] 75)) := F2.2.alloc F2.2.size _
  have hm := h.below bA
  have hW := hit_W h.isW hq h.fit
  refine (look_any p mb w.heap.size wd n xs q 35 (Pt w2.heap.size) (TI w.heap.size w2.heap.size t k kp) (w2.alloc (.cells #[Pk t] 75)) hm hq (ht.lat bA) ht.lt h.at'.lt h.pm.lt bA.size hl ent_top (fun W' b => TI.start T2 F2 W' b) (fun r hs W W' h s => h.stay s) (fun r hs x W hr hr2 hx _ hI => topLit_any _ _ _ _ _ _ _ _ _ hr (by have := bA.size; omega) (hW x hx).1 hI)).mono ?_
  rintro e w' ⟨rfl, r, sn, hp, hI, st⟩
  refine ⟨rfl, hI.box, ?_, bA.trans (st.toBelow (fun k hk => by omega) bA.size)⟩
  rw [← topL_ext (hits_perm hp)]; exact hI.tt
theorem look_ball (p mb : Nat) (wd n : Int) (xs : List Pr) (q : ByteArray) (t kp : Nat) (rad : Int) (w w2 : World) (h : MP w p mb wd xs n) (hq : (q.size : Int) = wd / 8) (ht : Tab w) (hl : xs.length ≤ 1048576) (T2 : BT w2 t rad kp []) (F2 : FreshK w w2 kp) :
    Calls Tryd.prog 30 #[Pt p, .string q, .func (.func 31) #[] #[Pt w2.heap.size]] (w2.alloc (.cells #[Pk t] 68)) fun e w' => e = .returned (.tuple #[]) ∧ Caught w' w2.heap.size t ∧ BT w' t rad kp (srtL (inD rad (hitsOf q xs))) ∧ Below w.heap.size w w' := by
  have bA : Below w.heap.size w (w2.alloc (.cells #[Pk t] 68)) := F2.2.alloc F2.2.size _
  have hm := h.below bA
  have hW := hit_W h.isW hq h.fit
  refine (look_any p mb w.heap.size wd n xs q 31 (Pt w2.heap.size) (BI w.heap.size w2.heap.size t rad kp) (w2.alloc (.cells #[Pk t] 68)) hm hq (ht.lat bA) ht.lt h.at'.lt h.pm.lt bA.size hl ent_ball (fun W' b => BI.start T2 F2 W' b) (fun r hs W W' h s => h.stay s) (fun r hs x W hr hr2 hx hlen hI => ballLit_any _ _ _ _ _ _ _ _ _ hr (by have := bA.size; omega) (hW x hx).1 (by omega) hI)).mono ?_
  rintro e w' ⟨rfl, r, sn, hp, hI, st⟩
  refine ⟨rfl, hI.box, ?_, bA.trans (st.toBelow (fun k hk => by omega) bA.size)⟩
  rw [← srtL_ext (L := inD rad (hitsOf q sn)) (fun x => by rw [inD_mem, inD_mem, hits_perm hp])]; exact hI.tt
set_option maxHeartbeats 2000000 in
set_option maxRecDepth 100000 in
theorem topk_any (p mb : Nat) (wd n : Int) (xs : List Pr) (q : ByteArray) (k : Nat) (w : World) (h : MP w p mb wd xs n) (hq : (q.size : Int) = wd / 8) (hk : k ≤ 4096) (ht : Tab w) (hl : xs.length ≤ 1048576) :
    Calls Tryd.prog 13 #[Pt p, .string q, .int .i64 k] w fun e w' => ∃ v, e = .returned (.tuple #[v, .int .i64 0]) ∧ Told w w' v (topL k (hitsOf q xs)) := by
  have htk := takes_any p mb wd n xs q w h
  rw [decide_eq_true hq] at htk
  have hnt := fun W => newTop_any k hk W
  have HL : Hid (∀ t kp w2, TT w2 t k kp [] → FreshK w w2 kp → Calls Tryd.prog 30 #[Pt p, .string q, .func (.func 35) #[] #[Pt w2.heap.size]] (w2.alloc (.cells #[Pk t] 75)) fun e w' => e = .returned (.tuple #[]) ∧ Caught w' w2.heap.size t ∧ TT w' t k kp (topL k (hitsOf q xs)) ∧ Below w.heap.size w w') := fun t kp w2 T2 F2 => look_top p mb wd n xs q t k kp w w2 h hq ht hl T2 F2
  clear h hq ht hl hk
  go_enter Tryd.func13, Tryd.ntmps13
  go_wp2_with (first
    | (go_at_call 28; refine htk.mono ?_; clear htk; rintro e w1 ⟨rfl, h1⟩; subst h1)
    | (go_at_call 34; refine (hnt _).mono ?_; clear hnt; rintro e w2 ⟨t, kp, rfl, T2, F2, t2⟩; have hlk := HL.out t kp w2 T2 F2)
    | (go_at_call 30; refine hlk.mono ?_; clear hlk; rintro e w3 ⟨rfl, C3, T3, b3⟩; have hc3 : w3.cell? ⟨w2.heap.size, 0, none⟩ = some (Pk t) := C3; have hlist := tlist_any t k kp _ w3 T3)
    | (go_at_call 37; refine hlist.mono ?_; clear hlist; rintro e w4 ⟨v, rfl, t4⟩))
  go_ret2
  exact ⟨_, rfl, t4.1, fun j hj => Nat.le_trans b3.size (t4.2.1 j hj), b3.trans (t4.2.2.mono b3.size)⟩
set_option maxHeartbeats 2000000 in
set_option maxRecDepth 100000 in
theorem radius_any (p mb : Nat) (wd n : Int) (xs : List Pr) (q : ByteArray) (r : Int) (w : World) (h : MP w p mb wd xs n) (hq : (q.size : Int) = wd / 8) (hr : 0 ≤ r ∧ r ≤ wd) (ht : Tab w) (hl : xs.length ≤ 1048576) :
    Calls Tryd.prog 12 #[Pt p, .string q, .int .i64 r] w fun e w' => ∃ v, e = .returned (.tuple #[v, .int .i64 0]) ∧ Told w w' v (srtL (inD r (hitsOf q xs))) := by
  have htk := takes_any p mb wd n xs q w h
  rw [decide_eq_true hq] at htk
  have hnt := fun W => newBall_any r hr.1 (by have := isW_bd h.isW; omega) W
  obtain ⟨c0, -⟩ := h.at'.cells
  have hr1 : ¬ wd < r := by omega
  have HL : Hid (∀ t kp w2, BT w2 t r kp [] → FreshK w w2 kp → Calls Tryd.prog 30 #[Pt p, .string q, .func (.func 31) #[] #[Pt w2.heap.size]] (w2.alloc (.cells #[Pk t] 68)) fun e w' => e = .returned (.tuple #[]) ∧ Caught w' w2.heap.size t ∧ BT w' t r kp (srtL (inD r (hitsOf q xs))) ∧ Below w.heap.size w w') := fun t kp w2 T2 F2 => look_ball p mb wd n xs q t kp r w w2 h hq ht hl T2 F2
  clear h hq ht hl hr
  go_enter Tryd.func12, Tryd.ntmps12
  go_wp2_with (first
    | (go_at_call 28; refine htk.mono ?_; clear htk; rintro e w1 ⟨rfl, h1⟩; subst h1)
    | (go_at_call 29; refine (hnt _).mono ?_; clear hnt; rintro e w2 ⟨t, kp, rfl, T2, F2, t2⟩; have hlk := HL.out t kp w2 T2 F2)
    | (go_at_call 30; refine hlk.mono ?_; clear hlk; rintro e w3 ⟨rfl, C3, T3, b3⟩; have hc3 : w3.cell? ⟨w2.heap.size, 0, none⟩ = some (Pk t) := C3; have hlist := blist_any t kp _ _ w3 T3)
    | (go_at_call 33; refine hlist.mono ?_; clear hlist; rintro e w4 ⟨v, rfl, t4⟩))
  go_ret2
  exact ⟨_, rfl, t4.1, fun j hj => Nat.le_trans b3.size (t4.2.1 j hj), b3.trans (t4.2.2.mono b3.size)⟩
end Go.Proofs.YtekgppmhcbmpeaaDoor
