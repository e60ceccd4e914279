/-
  DERIVED. DCrash, as one text.
-/
import Derived.Test.YtcamnalmcghjfaaGreatDoorTzAE
import Derived.Test.YtcamnalmcghjfaaGreatDoorTzAG
set_option linter.unusedVariables false
set_option linter.unusedSimpArgs false
set_option linter.unnecessarySimpa false
namespace Go.Proofs.YtcamnalmcghjfaaGreatDoor.Dk
open Go.RowKit Go.Maps Go.Proofs.DiskMath
/-- A file as one tells of it. -/
structure Fl where
  nm : List UInt8
  da : List UInt8
  du : Nat
def fl (e : Ent) : Fl := ⟨e.nm, e.da, e.du⟩
/-- The blocks of a file. -/
def bk (e : Ent) : Nat × Option Nat := (e.fb, e.v.ownBlock)
def loseF (f : Fl) (keep : Int) (sp : UInt8) : Fl := ⟨f.nm, loseL f.da f.du (min keep.toNat (f.da.length - f.du)) sp, f.du + min keep.toNat (f.da.length - f.du)⟩
/-- The files and the map. -/
structure FM (w : World) (mb : Nat) (es : List Ent) : Prop where
  hm : w.ownsMap Tryz.prog 9 ptrE mb es.length (dmap es)
  hf : ∀ e ∈ es, FileAt w e
  sep : es.Pairwise fun a b => a.fb ≠ b.fb ∧ ∀ k, a.v.ownBlock = some k → b.v.ownBlock ≠ some k
  srt : Srt es
theorem DK.fm {w : World} {p mb : Nat} {es : List Ent} {c : Ctl} (h : DK w p mb es c) : FM w mb es := ⟨h.hm, h.hf, h.sep, h.srt⟩
theorem FM.apart {w : World} {mb : Nat} {es : List Ent} (h : FM w mb es) {a b : Ent} (ha : a ∈ es) (hb : b ∈ es) (hne : a.nm ≠ b.nm) : ∀ k, foot a k → ¬ foot b k := by
  have hsep : a.fb ≠ b.fb ∧ ∀ k, a.v.ownBlock = some k → b.v.ownBlock ≠ some k :=
    pair_sym (R := fun x y : Ent => x.fb ≠ y.fb ∧ ∀ k, x.v.ownBlock = some k → y.v.ownBlock ≠ some k) (fun h => ⟨Ne.symm h.1, fun k h1 h2 => h.2 k h2 h1⟩) h.sep ha hb (fun e => hne (by rw [e]))
  have key : ∀ {x y : Ent}, FileAt w x → FileAt w y → y.v.ownBlock ≠ some x.fb := fun hx hy he => by
    obtain ⟨cur, hc⟩ := row_block hy.row he
    rw [hx.cells] at hc
    simp at hc
  rintro k (rfl | h1) (h2 | h2)
  · exact hsep.1 h2
  · exact key (h.hf a ha) (h.hf b hb) h2
  · exact key (h.hf b hb) (h.hf a ha) (h2 ▸ h1)
  · exact hsep.2 k h1 h2
theorem FM.mb_foot {w : World} {mb : Nat} {es : List Ent} (h : FM w mb es) {e : Ent} (he : e ∈ es) : ¬ foot e mb := by
  obtain ⟨a, b, hm⟩ := map_block h.hm
  rintro (hk | hk)
  · have := (h.hf e he).cells; rw [← hk, hm] at this; simp at this
  · obtain ⟨cur, hb⟩ := row_block (h.hf e he).row hk
    rw [hm] at hb; simp at hb
theorem FM.kept {w w' : World} {mb : Nat} {es : List Ent} {F : Nat → Prop} (h : FM w mb es) (s : Stay F w w') (h1 : ¬ F mb) (h2 : ∀ e ∈ es, ∀ k, foot e k → ¬ F k) : FM w' mb es :=
  ⟨map_kept h.hm s h1, fun e he => (h.hf e he).kept s (h2 e he), h.sep, h.srt⟩
theorem bk_foot {a b : Ent} (h : bk a = bk b) (k : Nat) : foot a k ↔ foot b k := by
  unfold bk at h
  simp only [Prod.mk.injEq] at h
  unfold foot
  rw [h.1, h.2]
theorem FM.look {w : World} {mb : Nat} {es : List Ent} (h : FM w mb es) (s : ByteArray) (hs : s.size ≤ maxLen) :
    (Instr.lookup 51 (.map (some mb)) (.string s) false).run Tryz.prog w = .ok (ptrOf es s.data.toList) w := by
  obtain ⟨v, ps, hr, hv⟩ := h.hm.lookup law9 Tryz.underlying51 (zeroP w) (zd := .nil) (zp := []) rfl (WideMaps.keyOf_string_mk Tryz.underlying9 hs)
  rw [hr]
  rw [dmap_at] at hv
  unfold ptrOf
  cases hf : findE es s.data.toList with
  | none => rw [hf] at hv; rw [ptrE_nil hv]
  | some e => rw [hf] at hv; rw [ptrE_block hv]
/-- One file has lost. -/
theorem FM.lose {w W : World} {mb : Nat} {es : List Ent} (h : FM w mb es) {e x : Ent} (he : e ∈ es) (hn : x.nm = e.nm) (hb : bk x = bk e) (s : Stay (foot e) w W) (hx : FileAt W x) : FM W mb (modE es x) := by
  have hb1 : x.fb = e.fb := congrArg Prod.fst hb
  have hb2 : x.v.ownBlock = e.v.ownBlock := congrArg Prod.snd hb
  refine ⟨?_, fun a ha => ?_, ?_, h.srt.mod x⟩
  · rw [modE_len, dmap_mod h.srt he hn hb1]
    exact map_kept h.hm s (h.mb_foot he)
  · rcases modE_mem ha with rfl | ⟨ha, hne⟩
    · exact hx
    · exact (h.hf a ha).kept s fun k hk hk' => h.apart ha he (by rw [← hn]; exact hne) k hk hk'
  · unfold modE
    refine List.pairwise_map.2 (List.Pairwise.imp_of_mem (fun {a b} ha hbm hab => ?_) (h.srt.and h.sep))
    obtain ⟨hlt, hab⟩ := hab
    have nameNe : a.nm ≠ b.nm := fun e => by rw [e] at hlt; exact List.lt_irrefl _ hlt
    split <;> split
    · rename_i h1 h2; exact absurd (h1.trans h2.symm) nameNe
    · rename_i h1 h2
      have hae := h.srt.uniq ha he (h1.trans hn)
      subst hae
      rw [hb1, hb2]; exact hab
    · rename_i h1 h2
      have hbe := h.srt.uniq hbm he (h2.trans hn)
      subst hbe
      rw [hb1, hb2]; exact hab
    · exact hab
theorem modE_bk {es : List Ent} (hs : Srt es) {e x : Ent} (he : e ∈ es) (hn : x.nm = e.nm) (hb : bk x = bk e) : (modE es x).map bk = es.map bk := by
  unfold modE; rw [List.map_map]
  refine List.map_congr_left fun a ha => ?_
  show bk (if a.nm = x.nm then x else a) = bk a
  split
  · rename_i h1
    rw [hs.uniq ha he (h1.trans hn), hb]
  · rfl
theorem modE_fl {es : List Ent} (hs : Srt es) {e x : Ent} (he : e ∈ es) (hn : x.nm = e.nm) (f : Fl → Fl) (hf : fl x = f (fl e)) : (modE es x).map fl = (es.map fl).map fun y => if e.nm = y.nm then f y else y := by
  unfold modE; rw [List.map_map, List.map_map]
  refine List.map_congr_left fun a ha => ?_
  show fl (if a.nm = x.nm then x else a) = if e.nm = a.nm then f (fl a) else fl a
  by_cases h1 : a.nm = x.nm
  · rw [if_pos h1, if_pos (h1.trans hn).symm, hs.uniq ha he (h1.trans hn), hf]
  · rw [if_neg h1, if_neg (fun h2 => h1 (h2.symm.trans hn.symm))]
theorem foot_of_bk {es es' : List Ent} (h : es'.map bk = es.map bk) (k : Nat) : (∃ e ∈ es', foot e k) ↔ ∃ e ∈ es, foot e k := by
  have key : ∀ {l l' : List Ent}, l'.map bk = l.map bk → (∃ e ∈ l', foot e k) → ∃ e ∈ l, foot e k := by
    intro l l' h ⟨e, he, hk⟩
    have : bk e ∈ l.map bk := by rw [← h]; exact List.mem_map_of_mem he
    obtain ⟨y, hy, hyb⟩ := List.mem_map.1 this
    exact ⟨y, hy, (bk_foot hyb k).2 hk⟩
  exact ⟨key h, key h.symm⟩
theorem Foot_of_bk {es es' : List Ent} (h : es'.map bk = es.map bk) (p mb k : Nat) : Foot p mb es' k ↔ Foot p mb es k := by
  unfold Foot; rw [foot_of_bk h]
/-- The cuts, one behind the other. -/
def cutF (cs : List (ByteArray × Int × UInt8)) (f : Fl) : Fl := cs.foldl (fun f c => if c.1.data.toList = f.nm then loseF f c.2.1 c.2.2 else f) f
theorem cutF_snoc (cs : List (ByteArray × Int × UInt8)) (c : ByteArray × Int × UInt8) (f : Fl) : cutF (cs ++ [c]) f = if c.1.data.toList = (cutF cs f).nm then loseF (cutF cs f) c.2.1 c.2.2 else cutF cs f := by
  unfold cutF; rw [List.foldl_append]; rfl
theorem cutF_nm (cs : List (ByteArray × Int × UInt8)) (f : Fl) : (cutF cs f).nm = f.nm := by
  induction cs generalizing f with
  | nil => rfl
  | cons c r ih =>
    show (cutF r _).nm = _
    rw [ih]
    dsimp only
    split <;> rfl
/-- A list of cuts in memory. -/
def CutsAt (W : World) (a : Option Addr) (cs : List (ByteArray × Int × UInt8)) : Prop :=
  ∀ j (hj : j < cs.length), ∃ b o, a = some ⟨b, o, none⟩ ∧ W.cell? ⟨b, o + j * 3, none⟩ = some (.string (cs[j]).1) ∧ W.cell? ⟨b, o + j * 3 + 1, none⟩ = some (.int .i64 (cs[j]).2.1) ∧ W.cell? ⟨b, o + j * 3 + 2, none⟩ = some (.int .u8 (cs[j]).2.2.toNat)
/-- A sum over the files that are done. -/
def doneU (es : List Ent) (left : Lit → Bool) : Nat := (es.map fun e => if left (.string e.nm) then 0 else e.da.length).sum
theorem doneU_cons (e : Ent) (r : List Ent) (left : Lit → Bool) : doneU (e :: r) left = (if left (.string e.nm) then 0 else e.da.length) + doneU r left := by simp [doneU]
def strike (left : Lit → Bool) (x : List UInt8) : Lit → Bool := fun z => left z && !z.sameKey (.string x)
theorem strike_same (left : Lit → Bool) (x : List UInt8) : strike left x (.string x) = false := by simp [strike, Lit.sameKey]
theorem strike_other (left : Lit → Bool) {x y : List UInt8} (h : y ≠ x) : strike left x (.string y) = left (.string y) := by simp [strike, Lit.sameKey, h]
theorem doneU_gone {r : List Ent} (left : Lit → Bool) {x : List UInt8} (h : ∀ a ∈ r, a.nm ≠ x) : doneU r (strike left x) = doneU r left := by
  induction r with
  | nil => rfl
  | cons z r ih =>
    rw [doneU_cons, doneU_cons, ih (fun a ha => h a (by simp [ha])), strike_other left (h z (by simp))]
theorem doneU_step {es : List Ent} (hs : Srt es) {e x : Ent} (he : e ∈ es) (hn : x.nm = e.nm) (left : Lit → Bool) (hl : left (.string e.nm) = true) : doneU (modE es x) (strike left e.nm) = doneU es left + x.da.length := by
  induction es with
  | nil => cases he
  | cons z r ih =>
    have h1 := List.pairwise_cons.1 hs
    have e2 : modE (z :: r) x = (if z.nm = x.nm then x else z) :: modE r x := rfl
    rw [e2, doneU_cons, doneU_cons]
    by_cases hz : z.nm = e.nm
    · have := Srt.uniq hs (List.mem_cons_self ..) he hz
      subst this
      have hr : ∀ a ∈ r, a.nm ≠ z.nm := fun a ha e1 => by have := h1.1 a ha; rw [e1] at this; exact List.lt_irrefl _ this
      have e4 : modE r x = r := by
        unfold modE
        conv => rhs; rw [← List.map_id r]
        refine List.map_congr_left fun a ha => ?_
        rw [if_neg]; · rfl
        rw [hn]; exact hr a ha
      rw [e4, if_pos hn.symm, hn, strike_same, hl, doneU_gone left hr]
      simp; omega
    · rw [show (if z.nm = x.nm then x else z) = z from if_neg (by rw [hn]; exact hz), strike_other left hz]
      rcases List.mem_cons.1 he with rfl | he
      · exact absurd rfl hz
      · rw [ih h1.2 he]; omega
theorem doneU_end {es : List Ent} {left : Lit → Bool} (h : ∀ kl, left kl = false) : doneU es left = used es := by
  induction es with
  | nil => rfl
  | cons z r ih => rw [doneU_cons, ih, h]; simp [used]
theorem doneU_start {es : List Ent} {left : Lit → Bool} (h : ∀ e ∈ es, left (.string e.nm) = true) : doneU es left = 0 := by
  induction es with
  | nil => rfl
  | cons z r ih => rw [doneU_cons, ih (fun e he => h e (by simp [he])), h z (by simp)]; rfl
theorem doneU_le (es : List Ent) (left : Lit → Bool) : doneU es left ≤ used es := by
  induction es with
  | nil => exact Nat.le_refl _
  | cons z r ih =>
    rw [doneU_cons]
    have : used (z :: r) = z.da.length + used r := by simp [used]
    split <;> omega
theorem ranges_kept {w w' : World} {mb r n : Nat} {D : DataW Unit} {left : Lit → Bool} {cnt : Nat} {F : Nat → Prop} (h : w.ranges Tryz.prog 9 ptrE mb r n D left cnt) (s : Stay F w w') (h1 : ¬ F mb) (h2 : ¬ F r) : w'.ranges Tryz.prog 9 ptrE mb r n D left cnt := by
  have hr := h.lt
  have hb := h.owns.lt
  obtain ⟨es, clock, since, seen, c0, a1, a2, a3, a4, a5, a6⟩ := h
  exact ⟨es, clock, since, seen, c0, (s.block mb hb h1).trans a1, a2, a3, a4, (s.block r hr h2).trans a5, a6⟩
def nb (e : Ent) : List UInt8 × Nat × Option Nat := (e.nm, bk e)
theorem nb_bk {a b : List Ent} (h : a.map nb = b.map nb) : a.map bk = b.map bk := by
  have := congrArg (List.map Prod.snd) h
  simpa [List.map_map, nb, Function.comp_def] using this
theorem nb_find {a b : List Ent} (h : a.map nb = b.map nb) {e : Ent} (he : e ∈ b) : ∃ x ∈ a, x.nm = e.nm ∧ bk x = bk e := by
  have : nb e ∈ a.map nb := by rw [h]; exact List.mem_map_of_mem he
  obtain ⟨x, hx, hxe⟩ := List.mem_map.1 this
  unfold nb at hxe
  simp only [Prod.mk.injEq] at hxe
  exact ⟨x, hx, hxe.1, hxe.2⟩
theorem nb_dmap {a b : List Ent} (h : a.map nb = b.map nb) : dmap a = dmap b := by
  have := congrArg (List.map fun t : List UInt8 × Nat × Option Nat => ((Lit.string t.1, DataW.lit (.int .i64 t.2.1)) : Lit × DataW Unit)) h
  rw [List.map_map, List.map_map] at this
  show DataW.map _ = DataW.map _
  exact congrArg _ this
theorem modE_nb {es : List Ent} (hs : Srt es) {e x : Ent} (he : e ∈ es) (hn : x.nm = e.nm) (hb : bk x = bk e) : (modE es x).map nb = es.map nb := by
  unfold modE; rw [List.map_map]
  refine List.map_congr_left fun a ha => ?_
  show nb (if a.nm = x.nm then x else a) = nb a
  split
  · rename_i h1
    rw [hs.uniq ha he (h1.trans hn)]
    unfold nb; rw [hn, hb]
  · rfl
def crashC (c : Ctl) : Ctl := { c with off := false, left := 0, age := wrap64 (c.age + 1) }
/-- The files while the cuts go by. -/
structure Mid (w W : World) (p mb : Nat) (es es' : List Ent) : Prop where
  fm : FM W mb es'
  bks : es'.map bk = es.map bk
  stay : Stay (Foot p mb es) w W
theorem loseF_len (f : Fl) (keep : Int) (sp : UInt8) (h : f.du ≤ f.da.length) : (loseF f keep sp).da.length ≤ f.da.length ∧ (loseF f keep sp).du ≤ (loseF f keep sp).da.length := by
  have := loseL_len f.da f.du (min keep.toNat (f.da.length - f.du)) sp (by omega)
  unfold loseF; dsimp only; omega
theorem cutF_len (cs : List (ByteArray × Int × UInt8)) (f : Fl) (h : f.du ≤ f.da.length) : (cutF cs f).da.length ≤ f.da.length ∧ (cutF cs f).du ≤ (cutF cs f).da.length := by
  induction cs generalizing f with
  | nil => exact ⟨Nat.le_refl _, h⟩
  | cons c r ih =>
    show (cutF r _).da.length ≤ _ ∧ (cutF r _).du ≤ (cutF r _).da.length
    dsimp only
    split
    · have h1 := loseF_len f c.2.1 c.2.2 h
      have := ih (loseF f c.2.1 c.2.2) h1.2
      exact ⟨Nat.le_trans this.1 h1.1, this.2⟩
    · exact ih f h
def usedF (fs : List Fl) : Nat := (fs.map fun f => f.da.length).sum
theorem used_fl (es : List Ent) : used es = usedF (es.map fl) := by unfold used usedF; rw [List.map_map]; rfl
theorem usedF_le (fs : List Fl) (g : Fl → Fl) (h : ∀ f ∈ fs, (g f).da.length ≤ f.da.length) : usedF (fs.map g) ≤ usedF fs := by
  induction fs with
  | nil => exact Nat.le_refl _
  | cons f r ih =>
    have h1 := h f (by simp)
    have h2 := ih (fun x hx => h x (by simp [hx]))
    unfold usedF at *
    simp only [List.map_cons, List.sum_cons]
    omega
theorem crash_fin {w W : World} {p mb : Nat} {es es2 : List Ent} {c : Ctl} {cs : List (ByteArray × Int × UInt8)} (h : DK w p mb es c) (f2 : FM W mb es2) (hb : es2.map bk = es.map bk) (sW : Stay (Foot p mb es) w W)
    (hp : W.heap[p]? = some (.cells #[.map (some mb), .int .i64 c.cap, .int .i64 (used es2), .bool c.off, .int .i64 c.left, .bool c.dn, .int .i64 c.age, .int .i64 c.wr] 53 (0, 0)))
    (hfl : es2.map fl = ((es.map fl).map (cutF cs)).map (fun f => loseF f 0 0)) :
    Step w (((W.setCell ⟨p, 4, none⟩ (.int .i64 0)).setCell ⟨p, 3, none⟩ (.bool false)).setCell ⟨p, 6, none⟩ (.int .i64 (wrap64 (c.age + 1)))) p mb es es2 (crashC c) := by
  have sP : Stay (· = p) W (((W.setCell ⟨p, 4, none⟩ (.int .i64 0)).setCell ⟨p, 3, none⟩ (.bool false)).setCell ⟨p, 6, none⟩ (.int .i64 (wrap64 (c.age + 1)))) :=
    (((Stay.refl (· = p) W).setCell (p := ⟨p, 4, none⟩) (fun _ => rfl) _).setCell (p := ⟨p, 3, none⟩) (fun _ => rfl) _).setCell (p := ⟨p, 6, none⟩) (fun _ => rfl) _
  have npf : ∀ e ∈ es2, ¬ foot e p := fun e he hk => by
    obtain ⟨y, hy, hyk⟩ := (foot_of_bk hb p).1 ⟨e, he, hk⟩
    exact h.p_foot hy hyk
  have f3 := f2.kept sP h.p_mb (fun e he k hk e1 => npf e he (e1 ▸ hk))
  have hnm : es2.map Ent.nm = es.map Ent.nm := by
    have := congrArg (List.map Fl.nm) hfl
    rw [List.map_map, List.map_map, List.map_map, List.map_map] at this
    refine this.trans (List.map_congr_left fun e _ => ?_)
    show (cutF cs (fl e)).nm = _
    rw [cutF_nm]; rfl
  have hlen : es2.length = es.length := by have := congrArg List.length hnm; simpa using this
  have hud : used es2 ≤ used es := by
    rw [used_fl, used_fl, hfl, List.map_map]
    refine usedF_le _ _ fun f hf => ?_
    obtain ⟨e, he, rfl⟩ := List.mem_map.1 hf
    have h1 := cutF_len cs (fl e) (h.hf e he).du
    have h2 := loseF_len (cutF cs (fl e)) 0 0 h1.2
    show (loseF (cutF cs (fl e)) 0 0).da.length ≤ _
    omega
  have hfull := h.full
  refine ⟨⟨?_, f3.hm, f3.hf, f3.sep, f3.srt, fun e he => ?_, by rw [hlen]; exact h.many, by show used es2 ≤ c.cap; omega, h.cap, by show 0 < _; decide, wrap64_wf _, h.wr⟩, sW.trans (sP.mono fun k _ hk => hk ▸ Foot.p), fun k hk => .inl ((Foot_of_bk hb p mb k).1 hk)⟩
  · rw [heap_setCell_same _ _ 6 _ _ _ (heap_setCell_same _ _ 3 _ _ _ (heap_setCell_same _ _ 4 _ _ _ hp))]
    rfl
  · have : e.nm ∈ es.map Ent.nm := by rw [← hnm]; exact List.mem_map_of_mem he
    obtain ⟨y, hy, hye⟩ := List.mem_map.1 this
    rw [← hye]; exact h.nms y hy
theorem lose_zero (e : Ent) (w : World) (fe : FileAt w e) (R : Ending → World → Prop)
    (h1 : ∀ v w', v.ownBlock = e.v.ownBlock → FileAt w' { e with da := loseL e.da e.du (keepN e 0) 0, du := e.du + keepN e 0, v := v } → Stay (foot e) w w' → w'.heap.size = w.heap.size → R (.returned (.tuple #[])) w') :
    Calls Tryz.prog 27 #[Pt e.fb, .int .i64 0, .int .u8 0] w R := lose_any e 0 0 w fe (by decide) (by decide) R h1
set_option maxHeartbeats 4000000 in
set_option maxRecDepth 100000 in
theorem crash_any {p mb : Nat} {es : List Ent} {c : Ctl} (a : Option Addr) (cs : List (ByteArray × Int × UInt8)) (cap : Nat) (w : World) (h : DK w p mb es c) (hcs : ∀ W, Stay (Foot p mb es) w W → CutsAt W a cs) (hlen : cs.length < 9223372036854775808) (hsm : ∀ j (hj : j < cs.length), (cs[j]).1.size ≤ maxLen ∧ -9223372036854775808 ≤ (cs[j]).2.1 ∧ (cs[j]).2.1 < 9223372036854775808)
    (R : Ending → World → Prop)
    (h1 : ∀ w' es', Step w w' p mb es es' (crashC c) → es'.map fl = ((es.map fl).map (cutF cs)).map (fun f => loseF f 0 0) → R (.returned (.tuple #[])) w') :
    Calls Tryz.prog 9 #[Pt p, .slice a cs.length cap] w R := by
  obtain ⟨p0, p1, p2, p3, p4, p5, p6, p7⟩ := h.cell
  have HR := Hid.mk h1
  have lp := h.lt (k := p) (.inl rfl)
  clear h1
  go_enter Tryz.func9, Tryz.ntmps9
  go_wp2_with fail
  refine (self_any w h).mono ?_
  rintro r w' ⟨rfl, rfl⟩
  go_wp2
  go_loopw [13] (fun v wr => ∃ (i : Nat) (es' : List Ent), v = .int .i64 i ∧ i ≤ cs.length ∧ Mid w' wr p mb es es' ∧ Hid (es'.map fl = (es.map fl).map (cutF (cs.take i))) ∧ wr.heap[p]? = w'.heap[p]?) (fun v _ => cs.length - (intOf v).toNat)
  case atStart => exact ⟨0, es, rfl, Nat.zero_le _, ⟨h.fm, rfl, .refl _ _⟩, (by show _ = _; simp [cutF]), rfl⟩
  case round =>
    obtain ⟨i, es', rfl, hi, hM, HE, hpw⟩ := hrel
    have hpW : wr.heap[p]? = _ := hpw.trans h.hp
    have q0 : wr.cell? ⟨p, 0, none⟩ = some (.map (some mb)) := by simp [World.cell?, hpW]
    by_cases hlt : i < cs.length
    · obtain ⟨b, o, rfl, d0, d1, d2⟩ := hcs wr hM.stay i hlt
      obtain ⟨s1, s2, s3⟩ := hsm i hlt
      have HT : Hid (cs.take (i + 1) = cs.take i ++ [cs[i]]) := List.take_succ_eq_append_getElem hlt
      rcases hci : cs[i] with ⟨nm, kp, sp⟩
      rw [hci] at d0 d1 d2 s1 s2 s3 HT
      dsimp only at d0 d1 d2 s1 s2 s3
      clear hci
      have k0 := cell_alloc q0 (.cells #[.string nm, .int .i64 kp, .int .u8 sp.toNat] 40)
      have sA : Stay (fun _ => False) wr (wr.alloc (.cells #[.string nm, .int .i64 kp, .int .u8 sp.toNat] 40)).drew := ((Stay.refl _ wr).alloc _).drew
      have fA : FM (wr.alloc (.cells #[.string nm, .int .i64 kp, .int .u8 sp.toNat] 40)).drew mb es' := hM.fm.kept sA (fun h => h) (fun _ _ _ _ h => h)
      have sB : Stay (Foot p mb es) w' (wr.alloc (.cells #[.string nm, .int .i64 kp, .int .u8 sp.toNat] 40)).drew := hM.stay.trans (sA.mono fun _ _ h => h.elim)
      have hpA : (wr.alloc (.cells #[.string nm, .int .i64 kp, .int .u8 sp.toNat] 40)).drew.heap[p]? = w'.heap[p]? := (sA.block p (Nat.lt_of_lt_of_le lp hM.stay.size) (fun h => h)).trans hpw
      have hl := fA.look nm s1
      have hsz := hM.stay.size
      cases hf : findE es' nm.data.toList with
      | none =>
        rw [show ptrOf es' nm.data.toList = .pointer none by simp [ptrOf, hf]] at hl
        have HN : Hid (es'.map fl = (es.map fl).map (cutF (cs.take (i + 1)))) := by
          show _ = _
          rw [HT.out, HE.out]
          refine List.map_congr_left fun f hfm => ?_
          rw [cutF_snoc, if_neg]
          intro hh
          have : cutF (cs.take i) f ∈ es'.map fl := by rw [HE.out]; exact List.mem_map_of_mem hfm
          obtain ⟨e, he, hef⟩ := List.mem_map.1 this
          have h2 := List.find?_eq_none.1 hf e he
          rw [← hef] at hh
          exact h2 (by simpa [fl] using hh.symm)
        clear hf HT HE
        go_wp2
        go_region
        go_wp2
        refine ⟨⟨i + 1, es', rfl, hlt, ⟨fA, hM.bks, sB⟩, HN, hpA⟩, ?_⟩
        simp only [intOf]; omega
      | some e =>
        rw [show ptrOf es' nm.data.toList = Pt e.fb by simp [ptrOf, hf]] at hl
        have he := findE_mem hf
        have HN : ∀ v, Hid ((modE es' { e with da := loseL e.da e.du (keepN e kp) sp, du := e.du + keepN e kp, v := v }).map fl = (es.map fl).map (cutF (cs.take (i + 1)))) := fun v => by
          show _ = _
          rw [HT.out, modE_fl hM.fm.srt he.1 (x := { e with da := loseL e.da e.du (keepN e kp) sp, du := e.du + keepN e kp, v := v }) rfl (fun f => loseF f kp sp) rfl, HE.out, List.map_map]
          refine List.map_congr_left fun f hfm => ?_
          rw [cutF_snoc]
          show (if e.nm = (cutF (cs.take i) f).nm then _ else _) = _
          rw [he.2]
        clear hf HT HE
        have HB : Hid (e ∈ es' ∧ e.nm = nm.data.toList) := he
        clear he
        go_wp2
        go_region
        go_wp2_with fail
        refine lose_any e kp sp _ (fA.hf e HB.out.1) s2 s3 _ ?_
        intro v w2 hv2 hF2 hS2 hz2
        have hM2 : Mid w' w2 p mb es (modE es' { e with da := loseL e.da e.du (keepN e kp) sp, du := e.du + keepN e kp, v := v }) := by
          have hb : bk { e with da := loseL e.da e.du (keepN e kp) sp, du := e.du + keepN e kp, v := v } = bk e := by unfold bk; rw [hv2]
          refine ⟨fA.lose HB.out.1 rfl hb hS2 hF2, (modE_bk fA.srt HB.out.1 (x := { e with da := loseL e.da e.du (keepN e kp) sp, du := e.du + keepN e kp, v := v }) rfl hb).trans hM.bks, sB.trans (hS2.mono fun k _ hk => ?_)⟩
          exact .inr (.inr ((foot_of_bk hM.bks k).1 ⟨e, HB.out.1, hk⟩))
        have hp2 : w2.heap[p]? = w'.heap[p]? := (hS2.block p (by have := sB.size; omega) (fun hk => by
          have := (foot_of_bk hM.bks p).1 ⟨e, HB.out.1, hk⟩
          obtain ⟨y, hy, hyk⟩ := this
          exact h.p_foot hy hyk)).trans hpA
        clear hz2
        go_wp2
        refine ⟨⟨i + 1, _, rfl, hlt, hM2, HN v, hp2⟩, ?_⟩
        simp only [intOf]; omega
    · have e1 : i = cs.length := by omega
      subst e1
      have HE1 : Hid (es'.map fl = (es.map fl).map (cutF cs)) := by have := HE.out; rw [List.take_of_length_le (Nat.le_refl _)] at this; exact this
      clear HE hlt hi hcs hsm
      have z2 : wr.frozen? ⟨p, 2, none⟩ = false := by simp [World.frozen?, hpW]
      have q2 : wr.cell? ⟨p, 2, none⟩ = some (.int .i64 (used es)) := by simp [World.cell?, hpW]
      have npf : ∀ e ∈ es', ¬ foot e p := fun e he hk => by
        obtain ⟨y, hy, hyk⟩ := (foot_of_bk hM.bks p).1 ⟨e, he, hk⟩
        exact h.p_foot hy hyk
      have sA : Stay (· = p) wr (wr.setCell ⟨p, 2, none⟩ (.int .i64 0)) := (Stay.refl (· = p) wr).setCell (p := ⟨p, 2, none⟩) (fun _ => rfl) _
      have fA := hM.fm.kept sA h.p_mb (fun e he k hk e1 => npf e he (e1 ▸ hk))
      have hpA : (wr.setCell ⟨p, 2, none⟩ (.int .i64 0)).heap[p]? = _ := heap_setCell_same wr p 2 _ _ (.int .i64 0) hpW
      have k0 : (wr.setCell ⟨p, 2, none⟩ (.int .i64 0)).cell? ⟨p, 0, none⟩ = some (.map (some mb)) := by simp [World.cell?, hpA]
      have szA : (wr.setCell ⟨p, 2, none⟩ (.int .i64 0)).heap.size = wr.heap.size := by simp
      go_wp2_with (first
        | (at_range; refine wpList_range_own _ rfl _ 51 rfl 9 62 law9 Tryz.underlying51 _ mb es'.length _ rfl fA.hm ?_; intro w0 hrg0 hg0 hs0)
        | go_in)
      go_frame
      have sW0 : Stay (Foot p mb es) w' w0 := (hM.stay.trans (sA.mono fun k _ hk => hk ▸ Foot.p)).trans (.grown hg0 (fun k hk => by cases hk))
      have hp0 : w0.heap[p]? = some (.cells #[.map (some mb), .int .i64 c.cap, .int .i64 0, .bool c.off, .int .i64 c.left, .bool c.dn, .int .i64 c.age, .int .i64 c.wr] 53 (0, 0)) := (hg0.block p (by have := hM.stay.size; omega) (by simp)).trans hpA
      have f0 : FM w0 mb es' := fA.kept (F := fun _ => False) (.grown hg0 (fun k hk => by cases hk)) (fun h => h) (fun _ _ _ _ h => h)
      have hwsz := hM.stay.size
      obtain ⟨H, hH⟩ : ∃ H, H = wr.heap.size := ⟨_, rfl⟩
      rw [szA, ← hH] at hrg0
      rw [szA, ← hH]
      rw [← hH] at hwsz
      clear hg0 hs0 fA sA hpA k0 z2 q2 q0 szA hH
      go_loopw [8] (fun _ ws => ∃ (left : Lit → Bool) (cnt : Nat) (es2 : List Ent), ws.ranges Tryz.prog 9 ptrE mb H es'.length (dmap es') left cnt ∧ FM ws mb es2 ∧ Hid (es2.map nb = es'.map nb ∧ es2.map fl = (es'.map fl).map (fun f => if left (.string f.nm) then f else loseF f 0 0)) ∧
          ws.heap[p]? = some (.cells #[.map (some mb), .int .i64 c.cap, .int .i64 (doneU es2 left), .bool c.off, .int .i64 c.left, .bool c.dn, .int .i64 c.age, .int .i64 c.wr] 53 (0, 0)) ∧ used es2 ≤ used es ∧ Stay (Foot p mb es) w' ws)
        (fun _ ws => ws.rangeLeft mb H)
      case atStart =>
        have hhas : ∀ e ∈ es', Maps.has (dmap es') (.string e.nm) = true := fun e he => by
          rw [dmap_has, f0.srt.find he]; rfl
        have hd0 := doneU_start hhas
        have hus : used es' ≤ used es := by
          rw [used_fl, used_fl, HE1.out]
          refine usedF_le _ _ fun f hf => ?_
          obtain ⟨e, he, rfl⟩ := List.mem_map.1 hf
          exact (cutF_len cs (fl e) (h.hf e he).du).1
        refine ⟨_, _, es', hrg0, f0, ⟨rfl, ?_⟩, by rw [hd0]; exact hp0, hus, sW0⟩
        conv => lhs; rw [← List.map_id (es'.map fl)]
        refine List.map_congr_left fun f hf => ?_
        obtain ⟨e, he, rfl⟩ := List.mem_map.1 hf
        show _ = if Maps.has (dmap es') (.string e.nm) = true then _ else _
        rw [if_pos (hhas e he)]; rfl
      case round =>
        obtain ⟨left, cnt, es2, hrg, f2, HF, hp2, hle, sW2⟩ := hrel
        go_wp2_with (first
          | (at_next; refine wpList_next_ranges _ rfl _ rfl 9 law9 ptrE encStr Value.pointer (fun key kl hk => by obtain ⟨x, hx, _⟩ := Maps.keyOf_str Tryz.underlying9 hk; exact ⟨x, hx⟩) (fun v y hv => ptrE_inv hv) mb H es'.length _ _ _ rfl hrg ?_ ?_)
          | go_in)
        · intro hc0 hl0
          have hU := doneU_end (es := es2) hl0
          rw [hU] at hp2
          have hfl2 : es2.map fl = ((es.map fl).map (cutF cs)).map (fun f => loseF f 0 0) := by
            rw [HF.out.2, HE1.out]
            refine List.map_congr_left fun f _ => ?_
            rw [hl0]; rfl
          have hQ := crash_fin h f2 ((nb_bk HF.out.1).trans hM.bks) sW2 hp2 hfl2
          have r4 : wr.cell? ⟨p, 4, none⟩ = some (.int .i64 c.left) := by simp [World.cell?, hp2]
          have r3 : wr.cell? ⟨p, 3, none⟩ = some (.bool c.off) := by simp [World.cell?, hp2]
          have r6 : wr.cell? ⟨p, 6, none⟩ = some (.int .i64 c.age) := by simp [World.cell?, hp2]
          have v4 : wr.frozen? ⟨p, 4, none⟩ = false := by simp [World.frozen?, hp2]
          have v3 : wr.frozen? ⟨p, 3, none⟩ = false := by simp [World.frozen?, hp2]
          have v6 : wr.frozen? ⟨p, 6, none⟩ = false := by simp [World.frozen?, hp2]
          have HQ := Hid.mk (HR.out _ es2 hQ hfl2)
          clear hfl2 hQ hU
          go_wp2
          go_end0
          exact HQ.out
        · intro x cc kl yd yp w2 cnt2 hkey hlk hv hat hrg2 hlt hg2 hs2 hen
          obtain ⟨x', ex, rfl, _⟩ := Maps.keyOf_str Tryz.underlying9 hkey
          obtain rfl : x = x' := encStr_inj ex
          have hat0 := hat .nil
          rw [dmap_at] at hat0
          cases hfe : findE es' x with
          | none =>
            have h1 := hat .nil
            have h2 := hat (.lit (.bool true))
            rw [dmap_at, hfe] at h1 h2
            rw [← h2] at h1; cases h1
          | some e =>
            rw [hfe] at hat0
            dsimp only at hat0
            rw [← hat0] at hv
            have hcc := ptrE_block hv
            obtain ⟨e2, he2, hn2, hb2⟩ := nb_find HF.out.1 (findE_mem hfe).1
            have hfb : e2.fb = e.fb := congrArg Prod.fst hb2
            obtain rfl : cc = some ⟨e2.fb, 0, none⟩ := by rw [hfb]; simpa using hcc
            have hxn : e2.nm = x := hn2.trans (findE_mem hfe).2
            have feet : ∀ y ∈ es2, ∀ k, foot y k → Foot p mb es k ∧ k < w'.heap.size := fun y hy k hk => by
              have h1 := (foot_of_bk ((nb_bk HF.out.1).trans hM.bks) k).1 ⟨y, hy, hk⟩
              exact ⟨.inr (.inr h1), h.lt (.inr (.inr h1))⟩
            have sH : Stay (· = H) wr w2 := .grown hg2 (fun k hk => (Option.some.inj hk).symm)
            have f3 : FM w2 mb es2 := f2.kept sH (fun e1 => by have := h.hm.lt; omega) (fun y hy k hk e1 => by have := (feet y hy k hk).2; omega)
            have hp3 := (sH.block p (by have := sW2.size; omega) (fun e1 => by omega)).trans hp2
            have sW3 : Stay (Foot p mb es) w' w2 := sW2.andThen sH (fun i hi e1 => by omega)
            have HX := Hid.mk (And.intro hxn hlk)
            have HSum : Hid (∀ v, used (modE es2 { e2 with da := loseL e2.da e2.du (keepN e2 0) 0, du := e2.du + keepN e2 0, v := v }) ≤ used es) := fun v => by
              have h1 := used_mod f2.srt he2 (x := { e2 with da := loseL e2.da e2.du (keepN e2 0) 0, du := e2.du + keepN e2 0, v := v }) rfl
              have h2 := (f2.hf e2 he2).du
              have h3 := loseL_len e2.da e2.du (keepN e2 0) 0 (by unfold keepN; omega)
              have h4 : keepN e2 0 = 0 := by unfold keepN; simp
              dsimp only at h1
              omega
            clear hs2 hcc hfe hat hat0 hfb hn2 hb2 hv hkey ex hxn hlk
            go_wp2_with fail
            refine lose_zero e2 _ (f3.hf e2 he2) _ ?_
            intro v w3 hv3 hF3 hS3 hz3
            have hb3 : bk { e2 with da := loseL e2.da e2.du (keepN e2 0) 0, du := e2.du + keepN e2 0, v := v } = bk e2 := by unfold bk; rw [hv3]
            have f4 := f3.lose he2 (x := { e2 with da := loseL e2.da e2.du (keepN e2 0) 0, du := e2.du + keepN e2 0, v := v }) rfl hb3 hS3 hF3
            obtain ⟨a4, cap4, hv4, -⟩ := slice_form hF3.row
            dsimp only at hv4
            have hnp : ¬ foot e2 p := fun hk => by
              obtain ⟨y, hy, hyk⟩ := (foot_of_bk ((nb_bk HF.out.1).trans hM.bks) p).1 ⟨e2, he2, hk⟩
              exact h.p_foot hy hyk
            have hp4 := (hS3.block p (by have := sW3.size; omega) hnp).trans hp3
            have sW4 : Stay (Foot p mb es) w' w3 := sW3.trans (hS3.mono fun k _ hk => (feet e2 he2 k hk).1)
            have hrg4 := ranges_kept hrg2 hS3 (f3.mb_foot he2) (fun hk => by have := (feet e2 he2 H hk).2; omega)
            have c4 := hF3.cell.1
            dsimp only at c4
            rw [hv4] at c4
            have q4 : w3.cell? ⟨p, 2, none⟩ = some (.int .i64 (doneU es2 left)) := by simp [World.cell?, hp4]
            have z4 : w3.frozen? ⟨p, 2, none⟩ = false := by simp [World.frozen?, hp4]
            have HU := doneU_step f3.srt he2 (x := { e2 with da := loseL e2.da e2.du (keepN e2 0) 0, du := e2.du + keepN e2 0, v := v }) rfl left (by rw [HX.out.1]; exact HX.out.2)
            have hln := hF3.da
            dsimp only at hln HU
            generalize hN : (loseL e2.da e2.du (keepN e2 0) 0).length = N at *
            clear hz3 hN
            have hle2 : doneU es2 left + N ≤ 1073741824 := by
              have hu2 : doneU (modE es2 { e2 with da := loseL e2.da e2.du (keepN e2 0) 0, du := e2.du + keepN e2 0, v := v }) (strike left e2.nm) ≤ 1073741824 := by
                have h1 := doneU_le (modE es2 { e2 with da := loseL e2.da e2.du (keepN e2 0) 0, du := e2.du + keepN e2 0, v := v }) (strike left e2.nm)
                have h2 := HSum.out v
                have h3 := h.full
                have h4 := h.cap
                omega
              omega
            go_wp2
            go_region
            go_wp2
            have sP : Stay (· = p) w3 (w3.setCell ⟨p, 2, none⟩ (.int .i64 ((doneU es2 left : Int) + (N : Int)))).drew := ((Stay.refl (· = p) w3).setCell (p := ⟨p, 2, none⟩) (fun _ => rfl) _).drew
            have hrg5 := ranges_kept hrg4 sP h.p_mb (fun e1 => by omega)
            have hU2 : doneU (modE es2 { e2 with da := loseL e2.da e2.du (keepN e2 0) 0, du := e2.du + keepN e2 0, v := v }) (strike left x) = doneU es2 left + N := by rw [← HX.out.1]; exact HU
            have hnp2 : ∀ y ∈ modE es2 { e2 with da := loseL e2.da e2.du (keepN e2 0) 0, du := e2.du + keepN e2 0, v := v }, ¬ foot y p := fun y hy hk => by
              rcases modE_mem hy with rfl | ⟨hy, _⟩
              · exact hnp ((bk_foot hb3 p).1 hk)
              · obtain ⟨y', hy', hyk⟩ := (foot_of_bk ((nb_bk HF.out.1).trans hM.bks) p).1 ⟨y, hy, hk⟩
                exact h.p_foot hy' hyk
            refine ⟨⟨strike left x, cnt2, modE es2 { e2 with da := loseL e2.da e2.du (keepN e2 0) 0, du := e2.du + keepN e2 0, v := v }, hrg5, f4.kept sP h.p_mb (fun y hy k hk e1 => hnp2 y hy (e1 ▸ hk)), ⟨(modE_nb f3.srt he2 (x := { e2 with da := loseL e2.da e2.du (keepN e2 0) 0, du := e2.du + keepN e2 0, v := v }) rfl hb3).trans HF.out.1, ?_⟩, ?_, HSum.out v, sW4.trans (sP.mono fun k _ hk => hk ▸ Foot.p)⟩, ?_⟩
            · rw [modE_fl f3.srt he2 (x := { e2 with da := loseL e2.da e2.du (keepN e2 0) 0, du := e2.du + keepN e2 0, v := v }) rfl (fun f => loseF f 0 0) rfl, HF.out.2, List.map_map]
              refine List.map_congr_left fun f _ => ?_
              rw [HX.out.1]
              show (if x = (if left (.string f.nm) then f else loseF f 0 0).nm then loseF (if left (.string f.nm) then f else loseF f 0 0) 0 0 else (if left (.string f.nm) then f else loseF f 0 0)) = if strike left x (.string f.nm) then f else loseF f 0 0
              by_cases hfx : f.nm = x
              · have hlx : left (.string f.nm) = true := by rw [hfx]; exact HX.out.2
                rw [if_pos hlx, if_pos hfx.symm, hfx, strike_same]; rfl
              · rw [strike_other left hfx]
                have : ¬ x = (if left (.string f.nm) then f else loseF f 0 0).nm := by
                  split
                  · exact fun h => hfx h.symm
                  · exact fun h => hfx h.symm
                rw [if_neg this]
            · rw [hU2]
              exact heap_setCell_same w3 p 2 _ _ _ hp4
            · rw [hrg5.left_eq, hrg.left_eq]; exact hlt
end Go.Proofs.YtcamnalmcghjfaaGreatDoor.Dk
