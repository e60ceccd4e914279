/-
  DERIVED. XCalm, DLen, DBuild, DImage, XLaw, FullRow, as one text.
-/
import Derived.Test.YtkoannkecojhmaaGreatDoorXbB
import Derived.Test.YtkoannkecojhmaaGreatDoorDCrash
import Derived.Test.YtkoannkecojhmaaGreatDoorSTable
import Derived.Test.YtkoannkecojhmaaGreatDoorCOpen
import Derived.ChangeMaps5
set_option linter.unusedVariables false
set_option linter.unusedSimpArgs false
namespace Go.Proofs.YtkoannkecojhmaaGreatDoor
open Go.RowKit Go.Maps Go.Proofs.DiskMath
/-- No cut is due. -/
def Calm (c : Ctl) : Prop := c.off = false ∧ c.left = 0
theorem isMan : isNm nMan = true := by decide +kernel
theorem isNew : isNm nNew = true := by decide +kernel
theorem ne_names : (nMan == nNew) = false ∧ (nNew == nMan) = false ∧ (nNew < nMan) = False := by
  refine ⟨by decide +kernel, by decide +kernel, ?_⟩
  simp only [eq_iff_iff, iff_false]
  decide +kernel
theorem Calm.ck {c : Ctl} (h : Calm c) {n : List UInt8} (hn : isNm n = true) : ckE c n = 0 := by unfold ckE; rw [h.1, hn]; rfl
theorem Calm.ok {c : Ctl} (h : Calm c) : okE c = 0 := by unfold okE; rw [h.2]; rfl
theorem Calm.done {c : Ctl} (h : Calm c) : doneC c = true := by unfold doneC; rw [h.2]; simp
theorem Calm.tick {c : Ctl} (h : Calm c) : Calm (tick c) := by
  refine ⟨?_, ?_⟩
  · show (c.left == 1) = false; rw [h.2]; rfl
  · show c.left - 1 = 0; rw [h.2]
theorem tick_cap (c : Ctl) : (tick c).cap = c.cap := rfl
/-- The disk with one manifest, or none. -/
def fsO : Option (List UInt8) → List Fl
  | none => []
  | some a => [⟨nMan, a, a.length⟩]
def lenO : Option (List UInt8) → Nat
  | none => 0
  | some a => a.length
theorem find_new (o : Option (List UInt8)) : findF (fsO o) nNew = none := by cases o <;> simp [fsO, findF, ne_names.1]
theorem find_newN (o : Option (List UInt8)) (d : List UInt8) (k : Nat) : findF (fsO o ++ [⟨nNew, d, k⟩]) nNew = some ⟨nNew, d, k⟩ := by cases o <;> simp [fsO, findF, ne_names.1]
theorem ins_new (o : Option (List UInt8)) : insF ⟨nNew, [], 0⟩ (fsO o) = fsO o ++ [⟨nNew, [], 0⟩] := by cases o <;> simp [fsO, insF, ne_names.2.2]
theorem ne_mn : nMan ≠ nNew := by decide +kernel
theorem mod_new (o : Option (List UInt8)) (d d' : List UInt8) (k k' : Nat) : modF (fsO o ++ [⟨nNew, d, k⟩]) ⟨nNew, d', k'⟩ = fsO o ++ [⟨nNew, d', k'⟩] := by cases o <;> simp [fsO, modF, ne_mn]
theorem del_new (o : Option (List UInt8)) (d : List UInt8) (k : Nat) : delF (fsO o ++ [⟨nNew, d, k⟩]) nNew = fsO o := by cases o <;> simp [fsO, delF, ne_names.1]
theorem del_man (o : Option (List UInt8)) : delF (fsO o) nMan = [] := by cases o <;> simp [fsO, delF]
theorem used_new (o : Option (List UInt8)) (d : List UInt8) (k : Nat) : usedF (fsO o ++ [⟨nNew, d, k⟩]) = lenO o + d.length := by cases o <;> simp [fsO, usedF, lenO]
theorem len_o (o : Option (List UInt8)) : (fsO o).length ≤ 1 := by cases o <;> simp [fsO]
/-- Store where there is room. -/
theorem seq_room (o : Option (List UInt8)) (b : List UInt8) (c : Ctl) (h : Calm c) (hb : b.length ≤ 268435456) (hr : lenO o + b.length ≤ c.cap) :
    ∃ c', seqF (opsF b) (fsO o) c = (0, fsO (some b), c') ∧ Calm c' ∧ c'.cap = c.cap := by
  have h1 : clrF (fsO o) c = (0, fsO o, c) := by
    unfold clrF fdF
    rw [if_pos (h.ck isNew), find_new]
    rfl
  have h2 : createF (fsO o) c nNew = (0, fsO o ++ [⟨nNew, [], 0⟩], tick c) := by
    unfold createF
    rw [if_neg (by simpa using h.ck isNew), find_new, if_neg (by have := len_o o; omega), h.ok, h.done, ins_new]
    rfl
  have t1 := h.tick
  have h3 : fillF b (fsO o ++ [⟨nNew, [], 0⟩]) (tick c) = (0, fsO o ++ [⟨nNew, b, 0⟩], tick (tick c)) := by
    have ha : appendF (fsO o ++ [⟨nNew, [], 0⟩]) (tick c) nNew b = (0, fsO o ++ [⟨nNew, b, 0⟩], tick (tick c)) := by
      unfold appendF fdF
      rw [t1.ck isNew, find_newN]
      simp only [if_true, ne_eq, not_true_eq_false, if_false, List.nil_append]
      rw [if_neg (by simp; omega), used_new, if_neg (by rw [tick_cap]; simp; omega), t1.ok, mod_new]
    unfold fillF
    rw [ha]
    simp
  have t2 := t1.tick
  have h4 : syncF (fsO o ++ [⟨nNew, b, 0⟩]) (tick (tick c)) nNew = (0, fsO o ++ [⟨nNew, b, b.length⟩], tick (tick (tick c))) := by
    unfold syncF fdF
    rw [t2.ck isNew, find_newN]
    simp only [if_true, ne_eq, not_true_eq_false, if_false]
    rw [t2.ok, if_neg (by rw [t2.2]; decide), mod_new]
  have t3 := t2.tick
  have h5 : renameF (fsO o ++ [⟨nNew, b, b.length⟩]) (tick (tick (tick c))) nNew nMan = (0, fsO (some b), tick (tick (tick (tick c)))) := by
    unfold renameF fdF
    rw [t3.ck isMan, t3.ck isNew, find_newN]
    simp only [if_true, ne_eq, not_true_eq_false, if_false]
    rw [t3.ok, t3.done]
    simp only [if_true]
    unfold renF
    rw [del_new, del_man]
    rfl
  refine ⟨tick (tick (tick (tick c))), ?_, t3.tick, rfl⟩
  unfold opsF
  simp only [seqF, h1, h2, h3, h4, h5, if_true]
/-- Store where there is none. -/
theorem seq_full (o : Option (List UInt8)) (b : List UInt8) (c : Ctl) (h : Calm c) (hb : b.length ≤ 268435456) (hr : c.cap < lenO o + b.length) :
    ∃ c', seqF (opsF b) (fsO o) c = (44, fsO o, c') ∧ Calm c' ∧ c'.cap = c.cap := by
  have h1 : clrF (fsO o) c = (0, fsO o, c) := by
    unfold clrF fdF
    rw [if_pos (h.ck isNew), find_new]
    rfl
  have h2 : createF (fsO o) c nNew = (0, fsO o ++ [⟨nNew, [], 0⟩], tick c) := by
    unfold createF
    rw [if_neg (by simpa using h.ck isNew), find_new, if_neg (by have := len_o o; omega), h.ok, h.done, ins_new]
    rfl
  have t1 := h.tick
  have h3 : fillF b (fsO o ++ [⟨nNew, [], 0⟩]) (tick c) = (44, fsO o, tick (tick c)) := by
    have ha : appendF (fsO o ++ [⟨nNew, [], 0⟩]) (tick c) nNew b = (44, fsO o ++ [⟨nNew, [], 0⟩], tick c) := by
      unfold appendF fdF
      rw [t1.ck isNew, find_newN]
      simp only [if_true, ne_eq, not_true_eq_false, if_false, List.nil_append]
      rw [if_neg (by simp; omega), used_new, if_pos (by rw [tick_cap]; simp; omega)]
    have hd : deleteF (fsO o ++ [⟨nNew, [], 0⟩]) (tick c) nNew = (0, fsO o, tick (tick c)) := by
      unfold deleteF fdF
      rw [t1.ck isNew, find_newN]
      simp only [if_true, ne_eq, not_true_eq_false, if_false]
      rw [t1.ok, t1.done, del_new]
      rfl
    unfold fillF
    rw [ha]
    simp only [hd]
    simp
  refine ⟨tick (tick c), ?_, t1.tick, rfl⟩
  unfold opsF
  simp only [seqF, h1, h2, h3, if_true]
  rfl
/-- Store of a manifest that goes. -/
theorem st_room (o : Option (List UInt8)) (m : Mf) (c : Ctl) (h : Calm c) (hm : chE m = 0) (hb : (enT m).size ≤ 100000) (hr : lenO o + (enT m).size ≤ c.cap) :
    ∃ c', stR (fsO o) c m = (0, fsO (some (enT m).data.toList), c') ∧ Calm c' ∧ c'.cap = c.cap := by
  obtain ⟨c', h1, h2⟩ := seq_room o (enT m).data.toList c h (by rw [nm_size]; omega) (by rw [nm_size]; exact hr)
  refine ⟨c', ?_, h2⟩
  unfold stR
  rw [if_neg (by rw [h.1]; decide), if_pos hm, h1]
theorem st_full (o : Option (List UInt8)) (m : Mf) (c : Ctl) (h : Calm c) (hm : chE m = 0) (hb : (enT m).size ≤ 100000) (hr : c.cap < lenO o + (enT m).size) :
    ∃ c', stR (fsO o) c m = (44, fsO o, c') ∧ Calm c' ∧ c'.cap = c.cap := by
  obtain ⟨c', h1, h2⟩ := seq_full o (enT m).data.toList c h (by rw [nm_size]; omega) (by rw [nm_size]; exact hr)
  refine ⟨c', ?_, h2⟩
  unfold stR
  rw [if_neg (by rw [h.1]; decide), if_pos hm, h1]
theorem st_bad (fs : List Fl) (m : Mf) (c : Ctl) (h : Calm c) (hm : chE m ≠ 0) : stR fs c m = (chE m, fs, c) := by
  unfold stR
  rw [if_neg (by rw [h.1]; decide), if_neg hm]
/-- Load behind it. -/
theorem ld_man (m : Mf) (c : Ctl) (h : Calm c) (hm : chE m = 0) : ldF (fsO (some (enT m).data.toList)) c = .ok m := by
  unfold ldF fdF
  rw [h.ck isMan]
  have hf : findF (fsO (some (enT m).data.toList)) nMan = some ⟨nMan, (enT m).data.toList, (enT m).data.toList.length⟩ := by simp [fsO, findF]
  rw [hf]
  simp only [if_true, ne_eq, not_true_eq_false, if_false]
  rw [dec_enc hm _ (by show (⟨(enT m).data.toList.toArray⟩ : ByteArray) = enT m; simp)]
/-- A manifest that goes, with Next 1: it goes no more. -/
theorem bad_next (m : Mf) : chE { goM m with nx := 1 } = 80 := by
  have h0 := goM_ok m
  unfold chE at h0 ⊢
  dsimp only at h0 ⊢
  split at h0
  · simp at h0
  · rename_i h1
    rw [if_neg h1]
    split at h0
    · simp at h0
    · rename_i h2
      rw [if_neg h2]
      split at h0
      · simp at h0
      · rename_i h3
        rw [if_neg h3, if_neg]
        intro hx
        simp [nbB] at hx
end Go.Proofs.YtkoannkecojhmaaGreatDoor
set_option linter.unusedVariables false
set_option linter.unusedSimpArgs false
set_option linter.unnecessarySimpa false
namespace Go.Proofs.YtkoannkecojhmaaGreatDoor
open Go.RowKit Go.Maps Go.Proofs.DiskMath
/-- A length in so many bytes, the highest first. -/
def byteAt (n f i : Nat) : Nat := n / 2 ^ (8 * (f - 1 - i)) % 256
def beL (n f : Nat) : List UInt8 := (List.range f).map fun i => UInt8.ofNat (byteAt n f i)
theorem beL_len (n f : Nat) : (beL n f).length = f := by simp [beL]
set_option maxHeartbeats 4000000 in
set_option maxRecDepth 100000 in
theorem length_any (n f : Nat) (w : World) (hn : n ≤ 268435456) (hf : 1 ≤ f) (hf4 : f ≤ 4) (R : Ending → World → Prop)
    (h1 : ∀ w', w'.ownsRow w.heap.size 5 1 (.slice (some ⟨w.heap.size, 0, none⟩) f f) f ((beL n f).map BV) → Below w.heap.size w w' → R (.returned (.slice (some ⟨w.heap.size, 0, none⟩) f f)) w') :
    Calls Tryz.prog 42 #[.int .i64 n, .int .i64 f] w R := by
  obtain ⟨i0, hi, hz0, hz1, hz2⟩ := info_parts Tryz.info5
  obtain ⟨M, hM⟩ : ∃ M, M = madeCells (Value.int .u8 0).cells (((f : Nat) : Int).toNat * i0.size) := ⟨_, rfl⟩
  have hMs : M.size = f := by rw [hM, size_madeCells, hz1]; simp
  have hmk : ∀ W : World, (Instr.makeSlice 57 (.int .i64 (f : Int)) (.int .i64 (f : Int))).run Tryz.prog W = .ok (.slice (some ⟨W.heap.size, 0, none⟩) f f) (W.alloc (.cells M 5)) := fun W => by
    have h := run_make (P := Tryz.prog) W 57 5 i0 (.int .u8 0) Tryz.underlying57 hi hz0 .i64 .i64 (f : Int) (f : Int) (by omega) (by omega) (by rw [hz2]; omega) (by omega)
    rw [← hM] at h
    simpa using h
  have HR := Hid.mk h1
  clear h1 hM
  go_enter Tryz.func42, Tryz.ntmps42
  go_wp2
  go_loopw [11] (fun v wr => ∃ (i : Nat) (cur : Array Value), v = .int .i64 i ∧ i ≤ f ∧ wr.heap[w.heap.size]? = some (.cells cur 5 (0, 0)) ∧ Hid (cur.size = f ∧ ∀ j, j < i → cur[j]? = some (.int .u8 (byteAt n f j))) ∧ Below w.heap.size w wr) (fun v _ => f - (intOf v).toNat)
  case atStart => exact ⟨0, M, rfl, Nat.zero_le _, heap_alloc_new w _, ⟨hMs, fun j hj => by omega⟩, (Below.refl _ w).alloc (Nat.le_refl _) _⟩
  case round =>
    obtain ⟨i, cur, rfl, hi2, hg, HC, hb⟩ := hrel
    by_cases hlt : i < f
    · have z : wr.frozen? ⟨w.heap.size, i, none⟩ = false := by simp [World.frozen?, hg]
      have hc : ∃ v, wr.cell? ⟨w.heap.size, i, none⟩ = some v := by
        have := HC.out.1
        refine ⟨cur[i]'(by omega), ?_⟩
        simp [World.cell?, hg, show i < cur.size by omega]
      obtain ⟨v, hc⟩ := hc
      obtain ⟨s, hs⟩ : ∃ s : Nat, s = 8 * (f - 1 - i) := ⟨_, rfl⟩
      have hsI : (8 : Int) * ((f : Int) - 1 - (i : Int)) = (s : Int) := by omega
      have hs24 : s ≤ 24 := by omega
      go_wp2
      refine ⟨⟨i + 1, cur.setIfInBounds i (.int .u8 ((n : Int) / 2 ^ (8 * (f - 1 - i)) % 256)), rfl, hlt, heap_setCell_same wr _ i _ _ _ hg, ⟨by simpa using HC.out.1, fun j hj => ?_⟩, hb.setCell (p := ⟨w.heap.size, i, none⟩) (Nat.le_refl _) _⟩, by simp only [intOf]; omega⟩
      rw [Array.getElem?_setIfInBounds]
      by_cases hij : i = j
      · subst hij
        have := HC.out.1
        rw [if_pos rfl, if_pos (by omega)]
        unfold byteAt
        simp
      · rw [if_neg hij]
        exact HC.out.2 j (by omega)
    · have e1 : i = f := by omega
      subst e1
      have hR := Hid.mk (HR.out wr ⟨by simp [beL], .inr ⟨w.heap.size, i, cur, rfl, Nat.le_refl _, hg, Nat.le_refl _, by unfold maxLen; omega, by rw [HC.out.1]; omega, by
        have hszc := HC.out.1
        rw [List.take_of_length_le (by rw [Array.length_toList]; omega)]
        apply List.ext_getElem?
        intro j
        rw [Array.getElem?_toList]
        by_cases hj : j < i
        · rw [HC.out.2 j hj]
          have hb1 : byteAt n i j < 256 := Nat.mod_lt _ (by omega)
          simp [beL, hj, BV, Nat.mod_eq_of_lt hb1]
        · rw [Array.getElem?_eq_none (by rw [HC.out.1]; omega)]
          rw [List.getElem?_eq_none (by rw [List.length_map, beL_len]; omega)]⟩⟩ hb)
      clear HR
      go_wp2
      exact hR.out
/-- A sum over the files that are no longer to come. -/
def wU (f : Ent → Nat) (es : List Ent) (left : Lit → Bool) : Nat := (es.map fun e => if left (.string e.nm) then 0 else f e).sum
theorem wU_cons (f : Ent → Nat) (e : Ent) (r : List Ent) (left : Lit → Bool) : wU f (e :: r) left = (if left (.string e.nm) then 0 else f e) + wU f r left := by simp [wU]
theorem wU_gone (f : Ent → Nat) {r : List Ent} (left : Lit → Bool) {x : List UInt8} (h : ∀ a ∈ r, a.nm ≠ x) : wU f r (strike left x) = wU f r left := by
  induction r with
  | nil => rfl
  | cons z r ih =>
    rw [wU_cons, wU_cons, ih (fun a ha => h a (by simp [ha])), strike_other left (h z (by simp))]
theorem wU_step (f : Ent → Nat) {es : List Ent} (hs : Srt es) {e : Ent} (he : e ∈ es) (left : Lit → Bool) (hl : left (.string e.nm) = true) : wU f es (strike left e.nm) = wU f es left + f e := by
  induction es with
  | nil => cases he
  | cons z r ih =>
    have h1 := List.pairwise_cons.1 hs
    rw [wU_cons, wU_cons]
    by_cases hz : z.nm = e.nm
    · have := Srt.uniq hs (List.mem_cons_self ..) he hz
      subst this
      have hr : ∀ a ∈ r, a.nm ≠ z.nm := fun a ha e1 => by have := h1.1 a ha; rw [e1] at this; exact List.lt_irrefl _ this
      rw [strike_same, hl, wU_gone f left hr]
      simp; omega
    · rw [strike_other left hz]
      rcases List.mem_cons.1 he with rfl | he
      · exact absurd rfl hz
      · rw [ih h1.2 he]; omega
theorem wU_le (f : Ent → Nat) (es : List Ent) (left : Lit → Bool) : wU f es left ≤ (es.map f).sum := by
  induction es with
  | nil => exact Nat.le_refl _
  | cons z r ih =>
    rw [wU_cons]
    simp only [List.map_cons, List.sum_cons]
    split <;> omega
theorem wU_start (f : Ent → Nat) {es : List Ent} {left : Lit → Bool} (h : ∀ e ∈ es, left (.string e.nm) = true) : wU f es left = 0 := by
  induction es with
  | nil => rfl
  | cons z r ih => rw [wU_cons, ih (fun e he => h e (by simp [he])), h z (by simp)]; rfl
def imgW (e : Ent) : Nat := 5 + e.nm.length + e.du
theorem nm_len {n : List UInt8} (h : isNm n = true) : 1 ≤ n.length ∧ n.length ≤ 32 := by
  unfold isNm at h; simp at h; exact ⟨h.1.1, h.1.2⟩
theorem imgW_sum {es : List Ent} (h1 : ∀ e ∈ es, isNm e.nm = true) (h2 : ∀ e ∈ es, e.du ≤ e.da.length) : (es.map imgW).sum ≤ 37 * es.length + used es := by
  induction es with
  | nil => exact Nat.zero_le _
  | cons z r ih =>
    have := ih (fun e he => h1 e (by simp [he])) (fun e he => h2 e (by simp [he]))
    have a1 := nm_len (h1 z (by simp))
    have a2 := h2 z (by simp)
    have e1 : used (z :: r) = z.da.length + used r := by simp [used]
    simp only [List.map_cons, List.sum_cons, List.length_cons]
    unfold imgW at *
    omega
set_option maxHeartbeats 4000000 in
set_option maxRecDepth 100000 in
theorem imageSize_any {p mb : Nat} {es : List Ent} {c : Ctl} (w : World) (h : DK w p mb es c) (R : Ending → World → Prop) (h1 : ∀ (n : Nat) w', n ≤ 2000000000 → Below w.heap.size w w' → R (.returned (.int .i64 n)) w') :
    Calls Tryz.prog 39 #[Pt p] w R := by
  obtain ⟨p0, -⟩ := h.cell
  have hown := h.hm
  have hbl := hown.lt
  have HR := Hid.mk h1
  have hbd : (es.map imgW).sum ≤ 1500000000 := by
    have := imgW_sum h.nms (fun e he => (h.hf e he).du)
    have h2 := h.many
    have h3 := h.full
    have h4 := h.cap
    omega
  have hhas : ∀ e ∈ es, Maps.has (dmap es) (.string e.nm) = true := fun e he => by rw [dmap_has, h.srt.find he]; rfl
  have hst := wU_start imgW hhas
  have HD := Hid.mk (And.intro hst hhas)
  clear h1 hst hhas
  obtain ⟨H, hH⟩ : ∃ H, H = w.heap.size := ⟨_, rfl⟩
  go_enter Tryz.func39, Tryz.ntmps39
  go_wp2_with (first
    | (at_range; refine wpList_range_own _ rfl _ 73 rfl 9 86 law9 Tryz.underlying73 _ mb es.length _ rfl hown ?_; intro w0 hrg0 hg0 hs0)
    | go_in)
  go_frame
  go_loopw [3] (fun v wr => ∃ (left : Lit → Bool) (cnt : Nat), wr.ranges Tryz.prog 9 ptrE mb w.heap.size es.length (dmap es) left cnt ∧ v = .int .i64 ((1 + wU imgW es left : Nat) : Int) ∧ Below w.heap.size w wr) (fun _ wr => wr.rangeLeft mb w.heap.size)
  case atStart => exact ⟨_, _, hrg0, by rw [HD.out.1]; rfl, (Below.refl _ _).grown hg0 (Nat.le_refl _) (fun j hj => by cases hj)⟩
  case round =>
    obtain ⟨left, cnt, hrg, rfl, hnx⟩ := hrel
    have hwl := wU_le imgW es left
    go_wp2_with (first
      | (at_next; refine wpList_next_ranges _ rfl _ rfl 9 law9 ptrE encStr Value.pointer (fun key kl hk => by obtain ⟨x, hx, _⟩ := Maps.keyOf_str Tryz.underlying9 hk; exact ⟨x, hx⟩) (fun v y hv => ptrE_inv hv) mb w.heap.size es.length _ _ _ rfl hrg ?_ ?_)
      | go_in)
    · intro hc0 hl0
      have hR := Hid.mk (HR.out (1 + wU imgW es left) wr (by omega) hnx)
      clear HR
      go_wp2
      exact hR.out
    · intro x cc kl yd yp w2 cnt2 hkey hlk hv hat hrg2 hlt hg2 hs2 hen
      obtain ⟨x', ex, rfl, _⟩ := Maps.keyOf_str Tryz.underlying9 hkey
      obtain rfl : x = x' := encStr_inj ex
      have hat0 := hat .nil
      rw [dmap_at] at hat0
      cases hfe : findE es x with
      | none =>
        have h1 := hat .nil
        have h2 := hat (.lit (.bool true))
        rw [dmap_at, hfe] at h1 h2
        rw [← h2] at h1; cases h1
      | some e =>
        rw [hfe] at hat0
        dsimp only at hat0
        rw [← hat0] at hv
        have hcc := ptrE_block hv
        obtain rfl : cc = some ⟨e.fb, 0, none⟩ := by simpa using hcc
        obtain ⟨he, hex⟩ := findE_mem hfe
        have HU := Hid.mk (wU_step imgW h.srt he left (by rw [hex]; exact hlk))
        have fe := h.hf e he
        have hnx2 : Below w.heap.size w w2 := hnx.grown hg2 hnx.size (fun j hj => by cases hj; exact Nat.le_refl _)
        have c1 : w2.cell? ⟨e.fb, 1, none⟩ = some (.int .i64 e.du) := (hnx2.cell (p := ⟨e.fb, 1, none⟩) (Array.getElem?_eq_some_iff.1 fe.cells).1).trans fe.cell.2
        have hx32 := nm_len (h.nms e he)
        rw [hex] at hx32
        have hdu := fe.du
        have hda := fe.da
        have HI : Hid (imgW e = 5 + x.length + e.du ∧ e.nm = x) := ⟨by unfold imgW; rw [hex], hex⟩
        clear hs2 hcc hfe hat hat0 hv hkey ex hex
        unfold encStr at *
        go_wp2
        refine ⟨⟨strike left x, cnt2, hrg2, ?_, hnx2⟩, ?_⟩
        · have h3 := HU.out
          rw [HI.out.1, HI.out.2] at h3
          rw [h3]
          refine ival ?_
          omega
        · rw [hrg2.left_eq, hrg.left_eq]; exact hlt
end Go.Proofs.YtkoannkecojhmaaGreatDoor
set_option linter.unusedVariables false
set_option linter.unusedSimpArgs false
set_option linter.unnecessarySimpa false
namespace Go.Proofs.YtkoannkecojhmaaGreatDoor
open Go.RowKit Go.Maps Go.Proofs.DiskMath
/-- A builder in block b, its buffer v, holding these bytes. -/
structure Bd (w : World) (b : Nat) (v : Value) (l : List UInt8) : Prop where
  cells : w.heap[b]? = some (.cells #[Pt b, v] 59 (0, 0))
  row : w.ownsRow 0 5 1 v l.length (l.map BV)
theorem Bd.row_b {w : World} {b : Nat} {v : Value} {l : List UInt8} (h : Bd w b v l) (k : Nat) (hk : v.ownBlock = some k) : k ≠ b := fun e1 => by
  obtain ⟨cur, hc⟩ := row_block h.row hk
  rw [e1, h.cells] at hc
  simp at hc
theorem Bd.kept {w w' : World} {b : Nat} {v : Value} {l : List UInt8} {F : Nat → Prop} (h : Bd w b v l) (s : Stay F w w') (h1 : ¬ F b) (h2 : ∀ k, v.ownBlock = some k → ¬ F k) : Bd w' b v l :=
  ⟨(s.block b (Array.getElem?_eq_some_iff.1 h.cells).1 h1).trans h.cells, row_kept h.row s h2⟩
set_option maxHeartbeats 4000000 in
set_option maxRecDepth 100000 in
theorem copyCheck_any {b : Nat} {v : Value} {l : List UInt8} (w : World) (h : Bd w b v l) :
    Calls Tryz.prog 63 #[Pt b] w fun r w' => r = .returned (.tuple #[]) ∧ w' = w := by
  have c0 : w.cell? ⟨b, 0, none⟩ = some (Pt b) := by simp [World.cell?, h.cells]
  have hq : (binOp .neq 56 (Pt b) (Pt b)).run Tryz.prog w = .ok (.bool false) w := by
    obtain ⟨j, hj⟩ : ∃ j, Tryz.prog.info? 59 = some j := Option.isSome_iff_exists.1 (by kernel_rfl)
    exact Lib.run_neq_ptr_same w ⟨b, 0, none⟩ Tryz.underlying56 hj
  go_enter Tryz.func63, Tryz.ntmps63
  go_wp2
  go_end0
  exact ⟨rfl, rfl⟩
theorem append_str2 (w : World) (ty : TypeId) (v : Value) (da : List UInt8) (h : w.ownsRow 0 5 1 v da.length (da.map BV)) (s : ByteArray) (hb : da.length + s.size ≤ 140737488355328) :
    ∃ v' w', (Builtin.append_ #[57, 9] ty #[v, .string s]).run Tryz.prog w = .ok v' w' ∧ w'.ownsRow 0 5 1 v' (da ++ s.data.toList).length ((da ++ s.data.toList).map BV) ∧ Stay (fun k => v.ownBlock = some k) w w' ∧
      (∀ k, v'.ownBlock = some k → v.ownBlock = some k ∨ w.heap.size ≤ k) := by
  obtain ⟨i0, hi, hz0, hz1, hz2⟩ := info_parts Tryz.info5
  obtain ⟨v', w', hr, ho, hg, hnil⟩ := Lib.run_append_own_string (P := Tryz.prog) w 0 57 9 ty 5 i0 Tryz.underlying57 Tryz.underlying9 hi hz0 hz1 hz2 v da.length _ h s (by unfold maxLen; omega) (by omega) (Nat.zero_le _)
  refine ⟨v', w', hr, ?_, .grown hg (fun k hk => hk), ?_⟩
  · rw [strCells_BV, ← List.map_append] at ho
    rw [List.length_append, nm_size]; exact ho
  · intro k hk
    rcases h.2 with ⟨rfl, hn⟩ | ⟨g, cap, cur, rfl, _, hgc, hnc, hcm, hcs, htake⟩
    · have h' : w.ownsRow w.heap.size 5 1 (.slice none 0 0) 0 [] := World.ownsRow_nil _ _ _ _
      obtain ⟨v2, w2, hr2, ho2, _, _⟩ := Lib.run_append_own_string (P := Tryz.prog) w w.heap.size 57 9 ty 5 i0 Tryz.underlying57 Tryz.underlying9 hi hz0 hz1 hz2 _ 0 _ h' s (by unfold maxLen; omega) (by omega) (Nat.le_refl _)
      rw [hr] at hr2
      cases hr2
      exact .inr (ho2.lt k hk).1
    · by_cases hroom : da.length + s.size ≤ cap
      · have hr2 := Lib.run_append_room_string (P := Tryz.prog) w 57 9 ty 5 i0 Tryz.underlying57 Tryz.underlying9 hi hz1 g da.length cap cur hgc s hroom (by rw [hcs]; omega)
        rw [hr] at hr2
        cases hr2
        exact .inl hk
      · have holds := h.cells (g := g) rfl
        have hr2 := Lib.run_append_grow_string (P := Tryz.prog) w 57 9 ty 5 i0 (.int .u8 0) Tryz.underlying57 Tryz.underlying9 hi hz0 ⟨g, 0, none⟩ da.length cap (da.map BV) (by rw [hz1]; simp) holds s (by omega) (by omega) (by rw [hz2]; exact growslice_fits (by omega) (by omega))
        rw [hr] at hr2
        cases hr2
        cases hk
        exact .inr (Nat.le_refl _)
/-- append, as it was reckoned ahead. -/
theorem wpList_append_eq {P : Program} {w : World} {ops : Array Oper} {rest : List Oper} {o : Oper} {a : Act} {Q : Exit → Act → World → Prop} (hgd : o.guard = none) (s x : Operand) (t u : TypeId)
    (ho : o.op = .call { callee := .builtin .append, args := #[s, x], argTypes := #[t, u] }) (v xv v' : Value) (w' : World) (hs : a.eval s = v) (hx : a.eval x = xv) (hr : (Builtin.append_ #[t, u] o.type #[v, xv]).run P w = .ok v' w')
    (h : wpList P ops Q rest (a.put o.dst v') w') : wpList P ops Q (o :: rest) a w := by
  refine wpList_plain hgd fun K hK => ?_
  unfold Oper.wp execOp
  simp only [ho, resolve, invoke, builtin, Sem.run_bind, Sem.run_pure, Result.andThen_ok, List.map_toArray, List.map_cons, List.map_nil, hs, hx, hr]
  exact hK _ _ h
/-- append of bytes that lie somewhere. -/
theorem append_row (w : World) (ty : TypeId) (v : Value) (da : List UInt8) (h : w.ownsRow 0 5 1 v da.length (da.map BV)) (a : Option Addr) (xs : List UInt8) (cap : Nat) (hsrc : ∀ j (hj : j < xs.length), ∃ ad, a = some ad ∧ w.cell? (ad.add j) = some (BV xs[j])) (hb : da.length + xs.length ≤ 140737488355328) :
    ∃ v' w', (Builtin.append_ #[57, 57] ty #[v, .slice a xs.length cap]).run Tryz.prog w = .ok v' w' ∧ w'.ownsRow 0 5 1 v' (da ++ xs).length ((da ++ xs).map BV) ∧ Stay (fun k => v.ownBlock = some k) w w' ∧
      (∀ k, v'.ownBlock = some k → v.ownBlock = some k ∨ w.heap.size ≤ k) := by
  obtain ⟨i0, hi, hz0, hz1, hz2⟩ := info_parts Tryz.info5
  by_cases h0 : xs.length = 0
  · have hx : xs = [] := List.eq_nil_of_length_eq_zero h0
    subst hx
    obtain ⟨a0, c0, hv, hc0⟩ := slice_form h
    refine ⟨v, w, ?_, by simpa using h, .refl _ _, fun k hk => .inl hk⟩
    subst hv
    have hf : (Builtin.firstCells 1 0 (.slice a 0 cap)).run Tryz.prog w = .ok #[] w := by cases a <;> simp [Builtin.firstCells, loadCells, loadCellsFrom]
    simp [Builtin.append_, run_underlying Tryz.underlying57, sizeOf, typeInfo, hi, hz1, Builtin.lenOf, hf, hc0]
    cases a0 <;> simp [storeCells]
  · obtain ⟨ad, rfl, -⟩ := hsrc 0 (by omega)
    have hcells : ∀ j u, (xs.map BV)[j]? = some u → w.cell? (ad.add j) = some u := fun j u hu => by
      rw [List.getElem?_map] at hu
      by_cases hj : j < xs.length
      · obtain ⟨ad', he, hc⟩ := hsrc j hj
        cases he
        rw [List.getElem?_eq_getElem hj] at hu
        simp only [Option.map_some, Option.some.injEq] at hu
        rw [hc, hu]
      · rw [List.getElem?_eq_none (by omega)] at hu; simp at hu
    have h1c : ∀ u ∈ xs.map BV, u.oneCell' = true := fun u hu => by
      obtain ⟨x, _, rfl⟩ := List.mem_map.1 hu; rfl
    obtain ⟨v', w', hr, ho, hg, _, hloc⟩ := run_append_own_at (P := Tryz.prog) w 0 57 ty 5 i0 (.int .u8 0) 1 1 Tryz.underlying57 hi hz0 hz1 hz2 rfl (by decide) v da.length _ h ad xs.length cap (xs.map BV) (by simp) hcells h1c (by unfold maxLen; omega) (by omega) (Nat.zero_le _)
    refine ⟨v', w', hr, by rw [List.length_append, List.map_append]; exact ho, .grown hg (fun k hk => hk), fun k hk => ?_⟩
    rcases hloc with hl | hl
    · exact .inl (hl ▸ hk)
    · rw [hl] at hk; cases hk; exact .inr (Nat.le_refl _)
theorem bd_fin {w w1 : World} {b : Nat} {v v' : Value} {l l' : List UInt8} (h : Bd w b v l) (ho : w1.ownsRow 0 5 1 v' l'.length (l'.map BV)) (s1 : Stay (fun k => v.ownBlock = some k) w w1) (hloc : ∀ k, v'.ownBlock = some k → v.ownBlock = some k ∨ w.heap.size ≤ k) :
    Bd (w1.setCell ⟨b, 1, none⟩ v') b v' l' ∧ Stay (fun k => k = b ∨ v.ownBlock = some k) w (w1.setCell ⟨b, 1, none⟩ v') := by
  have lb := (Array.getElem?_eq_some_iff.1 h.cells).1
  have hb1 : w1.heap[b]? = _ := (s1.block b lb (fun hk => h.row_b b hk rfl)).trans h.cells
  have s2 : Stay (· = b) w1 (w1.setCell ⟨b, 1, none⟩ v') := (Stay.refl (· = b) w1).setCell (p := ⟨b, 1, none⟩) (fun _ => rfl) _
  refine ⟨⟨heap_setCell_same w1 b 1 _ _ _ hb1, row_kept ho s2 fun k hk e1 => ?_⟩, (s1.mono fun k _ hk => .inr hk).setCell (p := ⟨b, 1, none⟩) (fun _ => .inl rfl) _⟩
  rcases hloc k hk with h1 | h1
  · exact h.row_b k h1 e1
  · omega
set_option maxHeartbeats 4000000 in
set_option maxRecDepth 100000 in
theorem wstr_any {b : Nat} {v : Value} {l : List UInt8} (s : ByteArray) (w : World) (h : Bd w b v l) (hb : l.length + s.size ≤ 140737488355328) (R : Ending → World → Prop)
    (h1 : ∀ v' w', Bd w' b v' (l ++ s.data.toList) → Stay (fun k => k = b ∨ v.ownBlock = some k) w w' → (∀ k, v'.ownBlock = some k → v.ownBlock = some k ∨ w.heap.size ≤ k) → R (.returned (.tuple #[.int .i64 s.size, .nilIface])) w') :
    Calls Tryz.prog 21 #[Pt b, .string s] w R := by
  obtain ⟨v', w1, hr, ho, s1, hloc⟩ := append_str2 w 57 v l h.row s hb
  obtain ⟨hB, hS⟩ := bd_fin h ho s1 hloc
  have hR := Hid.mk (h1 _ _ hB hS hloc)
  have lb := (Array.getElem?_eq_some_iff.1 h.cells).1
  have hb1 : w1.heap[b]? = _ := (s1.block b lb (fun hk => h.row_b b hk rfl)).trans h.cells
  obtain ⟨a, cap, hv, -⟩ := slice_form h.row
  obtain ⟨a', cap', hv', -⟩ := slice_form ho
  have c1 : w.cell? ⟨b, 1, none⟩ = some v := by simp [World.cell?, h.cells]
  have c1' : w1.cell? ⟨b, 1, none⟩ = some v := by simp [World.cell?, hb1]
  have z1' : w1.frozen? ⟨b, 1, none⟩ = false := by simp [World.frozen?, hb1]
  have hcc := copyCheck_any w h
  clear h1 hB hS
  obtain ⟨n', hn'⟩ : ∃ n', n' = (l ++ s.data.toList).length := ⟨_, rfl⟩
  rw [← hn'] at hv'
  clear hn'
  rw [hv] at c1 hr
  rw [hv'] at hr hR
  go_enter Tryz.func21, Tryz.ntmps21
  go_wp2_with fail
  refine hcc.mono ?_
  rintro r w' ⟨rfl, rfl⟩
  go_wp2_with (at_builtin; refine wpList_append_eq rfl _ _ _ _ rfl _ _ _ _ rfl rfl hr ?_)
  exact hR.out
set_option maxHeartbeats 4000000 in
set_option maxRecDepth 100000 in
theorem wrow_any {b : Nat} {v : Value} {l : List UInt8} (a : Option Addr) (xs : List UInt8) (cap : Nat) (w : World) (h : Bd w b v l) (hsrc : ∀ j (hj : j < xs.length), ∃ ad, a = some ad ∧ w.cell? (ad.add j) = some (BV xs[j])) (hb : l.length + xs.length ≤ 140737488355328) (R : Ending → World → Prop)
    (h1 : ∀ v' w', Bd w' b v' (l ++ xs) → Stay (fun k => k = b ∨ v.ownBlock = some k) w w' → (∀ k, v'.ownBlock = some k → v.ownBlock = some k ∨ w.heap.size ≤ k) → R (.returned (.tuple #[.int .i64 xs.length, .nilIface])) w') :
    Calls Tryz.prog 41 #[Pt b, .slice a xs.length cap] w R := by
  obtain ⟨v', w1, hr, ho, s1, hloc⟩ := append_row w 57 v l h.row a xs cap hsrc hb
  obtain ⟨hB, hS⟩ := bd_fin h ho s1 hloc
  have hR := Hid.mk (h1 _ _ hB hS hloc)
  have lb := (Array.getElem?_eq_some_iff.1 h.cells).1
  have hb1 : w1.heap[b]? = _ := (s1.block b lb (fun hk => h.row_b b hk rfl)).trans h.cells
  obtain ⟨a0, cap0, hv, -⟩ := slice_form h.row
  obtain ⟨a', cap', hv', -⟩ := slice_form ho
  have c1 : w.cell? ⟨b, 1, none⟩ = some v := by simp [World.cell?, h.cells]
  have c1' : w1.cell? ⟨b, 1, none⟩ = some v := by simp [World.cell?, hb1]
  have z1' : w1.frozen? ⟨b, 1, none⟩ = false := by simp [World.frozen?, hb1]
  have hcc := copyCheck_any w h
  clear h1 hB hS hsrc
  obtain ⟨n', hn'⟩ : ∃ n', n' = (l ++ xs).length := ⟨_, rfl⟩
  rw [← hn'] at hv'
  clear hn'
  rw [hv] at c1 hr
  rw [hv'] at hr hR
  go_enter Tryz.func41, Tryz.ntmps41
  go_wp2_with fail
  refine hcc.mono ?_
  rintro r w' ⟨rfl, rfl⟩
  go_wp2_with (at_builtin; refine wpList_append_eq rfl _ _ _ _ rfl _ _ _ _ rfl rfl hr ?_)
  exact hR.out
end Go.Proofs.YtkoannkecojhmaaGreatDoor
set_option linter.unusedVariables false
set_option linter.unusedSimpArgs false
set_option linter.unnecessarySimpa false
namespace Go.Proofs.YtkoannkecojhmaaGreatDoor
open Go.RowKit Go.Maps Go.Proofs.DiskMath
/-- A file in an image. -/
def fileL (f : Fl) : List UInt8 := beL f.nm.length 1 ++ f.nm ++ beL f.du 4 ++ f.da.take f.du
def imgL (fs : List Fl) : List UInt8 := 68 :: fs.flatMap fileL
/-- The builder of the image, the names beside it. -/
structure BS (w W : World) (g : Nat) (O : Obj) (v : Value) (l : List UInt8) : Prop where
  bd : Bd W w.heap.size v l
  bel : Below w.heap.size w W
  vb : ∀ k, v.ownBlock = some k → w.heap.size ≤ k ∧ k ≠ g
  names : W.heap[g]? = some O
  gb : w.heap.size < g
theorem BS.write {w W W' : World} {g : Nat} {O : Obj} {v v' : Value} {l l' : List UInt8} (h : BS w W g O v l) (hB : Bd W' w.heap.size v' l') (s : Stay (fun k => k = w.heap.size ∨ v.ownBlock = some k) W W') (hloc : ∀ k, v'.ownBlock = some k → v.ownBlock = some k ∨ W.heap.size ≤ k) : BS w W' g O v' l' := by
  have lg := (Array.getElem?_eq_some_iff.1 h.names).1
  have hsz := h.bel.size
  refine ⟨hB, h.bel.trans (s.toBelow (fun k hk => ?_) hsz), fun k hk => ?_, (s.block g lg ?_).trans h.names, h.gb⟩
  · rintro (rfl | h1)
    · omega
    · have := (h.vb k h1).1; omega
  · rcases hloc k hk with h1 | h1
    · exact h.vb k h1
    · exact ⟨by omega, by omega⟩
  · rintro (h1 | h1)
    · have := h.gb; omega
    · exact (h.vb g h1).2 rfl
theorem BS.more {w W W' : World} {g : Nat} {O : Obj} {v : Value} {l : List UInt8} (h : BS w W g O v l) (b : Below W.heap.size W W') : BS w W' g O v l :=
  ⟨h.bd.kept (F := fun _ => False) (.below b) (fun h => h) (fun _ _ h => h), chain h.bel b (Nat.le_refl _), h.vb, (b.block g (Array.getElem?_eq_some_iff.1 h.names).1).trans h.names, h.gb⟩
theorem own_src {w : World} {B : Nat} {g cap : Nat} {xs : List UInt8} (h : w.ownsRow B 5 1 (.slice (some ⟨g, 0, none⟩) xs.length cap) xs.length (xs.map BV)) : ∀ j (hj : j < xs.length), ∃ ad, some (⟨g, 0, none⟩ : Addr) = some ad ∧ w.cell? (ad.add j) = some (BV xs[j]) := fun j hj => by
  refine ⟨_, rfl, ?_⟩
  exact h.cells (g := g) rfl j _ (by rw [List.getElem?_map, List.getElem?_eq_getElem hj]; rfl)
theorem file_src {w : World} {e : Ent} {a : Option Addr} {cap : Nat} (fe : FileAt w e) (hv : e.v = .slice a e.da.length cap) : ∀ j (hj : j < (e.da.take e.du).length), ∃ ad, a = some ad ∧ w.cell? (ad.add j) = some (BV (e.da.take e.du)[j]) := fun j hj => by
  have hr := fe.row
  rw [hv] at hr
  rw [List.length_take] at hj
  rcases hr.2 with ⟨h0, hn⟩ | ⟨g, cap', cur, h0, _⟩
  · omega
  · simp only [Value.slice.injEq] at h0
    obtain ⟨rfl, -, -⟩ := h0
    refine ⟨_, rfl, ?_⟩
    exact hr.cells (g := g) rfl j _ (by rw [List.getElem?_map, List.getElem?_eq_getElem (by omega)]; simp)
theorem wrow_len {b : Nat} {v : Value} {l : List UInt8} (a : Option Addr) (xs : List UInt8) (m cap : Nat) (hm : xs.length = m) (w : World) (h : Bd w b v l) (hsrc : ∀ j (hj : j < xs.length), ∃ ad, a = some ad ∧ w.cell? (ad.add j) = some (BV xs[j])) (hb : l.length + xs.length ≤ 140737488355328) (R : Ending → World → Prop)
    (h1 : ∀ v' w', Bd w' b v' (l ++ xs) → Stay (fun k => k = b ∨ v.ownBlock = some k) w w' → (∀ k, v'.ownBlock = some k → v.ownBlock = some k ∨ w.heap.size ≤ k) → R (.returned (.tuple #[.int .i64 m, .nilIface])) w') :
    Calls Tryz.prog 41 #[Pt b, .slice a m cap] w R := by
  subst hm
  exact wrow_any a xs cap w h hsrc hb R h1
theorem flat_len (es : List Ent) (h : ∀ e ∈ es, e.du ≤ e.da.length) : ((es.map fl).flatMap fileL).length = (es.map imgW).sum := by
  induction es with
  | nil => rfl
  | cons z r ih =>
    have h1 := h z (by simp)
    simp only [List.map_cons, List.flatMap_cons, List.length_append, List.sum_cons, ih (fun e he => h e (by simp [he]))]
    unfold fileL imgW fl
    simp only [List.length_append, beL_len, List.length_take]
    omega
theorem img_len {w : World} {p mb : Nat} {es : List Ent} {c : Ctl} (h : DK w p mb es c) (i : Nat) : (imgL ((es.map fl).take i)).length ≤ 2000000000 := by
  rw [← List.map_take]
  unfold imgL
  rw [List.length_cons, flat_len _ (fun e he => (h.hf e (List.mem_of_mem_take he)).du)]
  have h1 := imgW_sum h.nms (fun e he => (h.hf e he).du)
  have h2 : ((es.take i).map imgW).sum ≤ (es.map imgW).sum := by
    conv => rhs; rw [← List.take_append_drop i es]
    rw [List.map_append, List.sum_append]; omega
  have h3 := h.many
  have h4 := h.full
  have h5 := h.cap
  omega
set_option maxHeartbeats 4000000 in
set_option maxRecDepth 100000 in
theorem image_any {p mb : Nat} {es : List Ent} {c : Ctl} (w : World) (h : DK w p mb es c) (R : Ending → World → Prop) (h1 : ∀ w', Below w.heap.size w w' → R (.returned (.string ⟨(imgL (es.map fl)).toArray⟩)) w') :
    Calls Tryz.prog 11 #[Pt p] w R := by
  obtain ⟨p0, -⟩ := h.cell
  have lp := h.lt (k := p) (.inl rfl)
  have HR := Hid.mk h1
  clear h1
  have hbA : Below w.heap.size w (w.alloc (.cells #[.pointer none, .slice none 0 0] 59)) := (Below.refl _ w).alloc (Nat.le_refl _) _
  have dA := h.below hbA
  go_enter Tryz.func11, Tryz.ntmps11
  go_wp2_with fail
  refine (self_any w h).mono ?_
  rintro r w' ⟨rfl, rfl⟩
  go_wp2_with fail
  refine imageSize_any _ dA _ ?_
  intro n w2 hn b2
  have hnw : w2.heap[w'.heap.size]? = some (.cells #[.pointer none, .slice none 0 0] 59 (0, 0)) := (b2.block _ (by simp)).trans (heap_alloc_new w' _)
  have hb2 : Below w'.heap.size w' w2 := hbA.trans (b2.mono (by simp))
  have hGr := Tryz.Builder_Grow_fresh w'.heap.size w'.heap.size n w2 (Nat.le_refl _) hnw hb2.size (by omega)
  go_wp2_with fail
  refine hGr.mono ?_
  rintro r w3 ⟨rfl, hB3, b3⟩
  obtain ⟨-, v3, hB3c, hB3r, hB3n⟩ := hB3
  have bd3 : Bd w3 w'.heap.size v3 [] := ⟨hB3c, by
    obtain ⟨r1, r2⟩ := hB3r
    refine ⟨r1, ?_⟩
    rcases r2 with r2 | ⟨g, cap, cur, r2, r3, r4⟩
    · exact .inl r2
    · exact .inr ⟨g, cap, cur, r2, Nat.zero_le _, r4⟩⟩
  have vb3 : ∀ k, v3.ownBlock = some k → w'.heap.size ≤ k := fun k hk => (hB3r.lt k hk).1
  have hb3 : Below w'.heap.size w' w3 := hb2.trans b3
  clear hB3c hB3r hB3n hnw hGr
  go_wp2_with fail
  refine wstr_any ⟨#[68]⟩ w3 bd3 (by show 0 + 1 ≤ _; omega) _ ?_
  intro v4 w4 bd4 s4 l4
  have hb4 : Below w'.heap.size w' w4 := hb3.trans (s4.toBelow (fun k hk => by
    rintro (rfl | h1)
    · omega
    · have := vb3 k h1; omega) hb3.size)
  have vb4 : ∀ k, v4.ownBlock = some k → w'.heap.size ≤ k := fun k hk => (l4 k hk).elim (vb3 k) (fun h1 => Nat.le_trans hb3.size h1)
  have d4 := h.below hb4
  go_wp2_with fail
  refine sorted_any w4 d4 _ ?_
  intro g cap w5 hro b5
  have hsz4 := hb4.size
  have lb4 := (Array.getElem?_eq_some_iff.1 bd4.cells).1
  obtain ⟨cur, hg5, hcur⟩ : ∃ cur, w5.heap[g]? = some (.cells cur 9 (0, 0)) ∧ (∀ i (hi : i < es.length), cur[i]? = some (encStr (es[i]).nm)) ∧ w4.heap.size ≤ g := by
    rcases hro.2 with ⟨h0, _⟩ | ⟨g', cap', cur, h0, hbase, hgc, h3, h4, h5, h6⟩
    · cases h0
    · cases h0
      refine ⟨cur, hgc, fun i hi => ?_, hbase⟩
      have := congrArg (fun l : List Value => l[i]?) h6
      simp only [Nat.mul_one] at this
      rw [List.getElem?_take_of_lt hi, Array.getElem?_toList] at this
      rw [this]
      simp [hi]
  obtain ⟨hcur, hg4⟩ := hcur
  have bs5 : BS w' w5 g (.cells cur 9 (0, 0)) v4 [68] := by
    refine ⟨bd4.kept (F := fun _ => False) (.below b5) (fun h => h) (fun _ _ h => h), chain hb4 b5 (Nat.le_refl _), fun k hk => ⟨vb4 k hk, fun e1 => ?_⟩, hg5, by omega⟩
    have := (bd4.row.lt k hk).2
    omega
  clear bd3 bd4 b5 hro hg5 hb2 hb3 hb4 b2 b3 s4 l4 vb3 vb4 hbA dA d4 p0
  have hmany := h.many
  go_wp2
  go_loopw [16] (fun u wr => ∃ (i : Nat) (v : Value), u = .int .i64 i ∧ i ≤ es.length ∧ BS w' wr g (.cells cur 9 (0, 0)) v (imgL ((es.map fl).take i))) (fun u _ => es.length - (intOf u).toNat)
  case atStart => exact ⟨0, v4, rfl, Nat.zero_le _, bs5⟩
  case round =>
    obtain ⟨i, v, rfl, hi, hbs⟩ := hrel
    have hd := h.below hbs.bel
    by_cases hlt : i < es.length
    · obtain ⟨e, he⟩ : ∃ e, e = es[i] := ⟨_, rfl⟩
      have hem : e ∈ es := by rw [he]; exact List.getElem_mem hlt
      have hc0 : wr.cell? ⟨g, i, none⟩ = some (.string ⟨e.nm.toArray⟩) := by
        have := hcur i hlt
        rw [← he] at this
        simp [World.cell?, hbs.names, this, encStr]
      have hln := nm_len (h.nms e hem)
      have fe := hd.hf e hem
      have hl := hd.look ⟨e.nm.toArray⟩ (by show e.nm.length ≤ _; unfold maxLen; omega)
      rw [show ptrOf es (⟨e.nm.toArray⟩ : ByteArray).data.toList = Pt e.fb by
        show ptrOf es e.nm = _
        unfold ptrOf; rw [h.srt.find hem]] at hl
      obtain ⟨q0, -⟩ := hd.cell
      have HT : Hid (imgL ((es.map fl).take (i + 1)) = imgL ((es.map fl).take i) ++ beL e.nm.length 1 ++ e.nm ++ beL e.du 4 ++ e.da.take e.du) := by
        show _ = _
        rw [List.take_succ_eq_append_getElem (by simpa using hlt)]
        unfold imgL
        rw [List.flatMap_append]
        simp [fileL, fl, he]
      have HL : Hid ((imgL ((es.map fl).take i)).length ≤ 2000000000) := img_len h i
      obtain ⟨a, ca, hv, hca⟩ := slice_form fe.row
      have hdu := fe.du
      have hda := fe.da
      have hszn : (⟨e.nm.toArray⟩ : ByteArray).size = e.nm.length := by simp [ByteArray.size]
      generalize imgL ((es.map fl).take i) = L at *
      clear he
      have hLl := HL.out
      go_wp2_with fail
      refine length_any e.nm.length 1 wr (by omega) (by omega) (by omega) _ ?_
      intro w6 ro6 b6
      have bs6 := hbs.more b6
      go_wp2_with fail
      refine wrow_len _ (beL e.nm.length 1) 1 1 (beL_len _ _) w6 bs6.bd (own_src (by rw [beL_len]; exact ro6)) (by rw [beL_len]; omega) _ ?_
      intro v7 w7 bd7 s7 l7
      have bs7 := bs6.write bd7 s7 l7
      go_wp2_with fail
      refine wstr_any ⟨e.nm.toArray⟩ w7 bs7.bd (by rw [hszn, List.length_append, beL_len]; omega) _ ?_
      intro v8 w8 bd8 s8 l8
      have bs8 := bs7.write bd8 s8 l8
      have f8 := (h.below bs8.bel).hf e hem
      have c8 := f8.cell.2
      go_wp2_with fail
      refine length_any e.du 4 w8 (by omega) (by omega) (by omega) _ ?_
      intro w9 ro9 b9
      have bs9 := bs8.more b9
      go_wp2_with fail
      refine wrow_len _ (beL e.du 4) 4 4 (beL_len _ _) w9 bs9.bd (own_src (by rw [beL_len]; exact ro9)) (by simp only [List.length_append, beL_len]; show _ + e.nm.length + 4 ≤ _; omega) _ ?_
      intro v10 w10 bd10 s10 l10
      have bs10 := bs9.write bd10 s10 l10
      have f10 := (h.below bs10.bel).hf e hem
      obtain ⟨c10, c11⟩ := f10.cell
      rw [hv] at c10
      have hsr := file_src f10 hv
      have bsd : BS w' w10.drew g (.cells cur 9 (0, 0)) v10 _ := bs10.more ⟨rfl, rfl, rfl, Nat.le_refl _, fun _ _ => rfl⟩
      have hlx : (e.da.take e.du).length = e.du := by rw [List.length_take]; omega
      have hlb : (L ++ beL e.nm.length 1 ++ e.nm ++ beL e.du 4).length + (e.da.take e.du).length ≤ 140737488355328 := by simp only [List.length_append, beL_len, hlx]; omega
      have HS := Hid.mk (And.intro bsd.bd (And.intro hsr (And.intro hlx hlb)))
      have hduI : (e.du : Int) ≤ (ca : Int) := by omega
      clear hsr hlx hlb
      go_wp2
      go_region_with (go_at_call 41; refine wrow_len _ (e.da.take e.du) e.du _ HS.out.2.2.1 _ HS.out.1 HS.out.2.1 HS.out.2.2.2 _ ?_; intro v11 w11 bd11 s11 l11)
      all_goals
        have bs11 := bsd.write bd11 s11 l11
        clear HS
        go_wp2
        refine ⟨⟨i + 1, v11, rfl, hlt, ?_⟩, by simp only [intOf]; omega⟩
        rw [HT.out]
        exact bs11
    · have e1 : i = es.length := by omega
      subst e1
      have hBx : Lib.IsBuilder 59 5 w'.heap.size w'.heap.size (Lib.byteCells (imgL ((es.map fl).take es.length))) wr := .inr ⟨Nat.le_refl _, v, hbs.bd.cells, ?_, fun hk => hbs.bd.row_b _ hk rfl⟩
      · have hS := Tryz.Builder_String_any w'.heap.size w'.heap.size _ wr hBx hbs.bel.size
        rw [List.take_of_length_le (by simp)] at hS
        go_wp2_with fail
        refine hS.mono ?_
        rintro r w6 ⟨rfl, b6⟩
        have hR := Hid.mk (HR.out w6 (hbs.bel.trans b6))
        go_wp2
        exact hR.out
      · have := hbs.bd.row
        have e2 : Lib.byteCells (imgL ((es.map fl).take es.length)) = (imgL ((es.map fl).take es.length)).map BV := rfl
        rw [e2, List.length_map]
        obtain ⟨r1, r2⟩ := this
        refine ⟨r1, ?_⟩
        rcases r2 with r2 | ⟨g2, cap2, cur2, r2, r3, r4⟩
        · exact .inl r2
        · exact .inr ⟨g2, cap2, cur2, r2, (hbs.vb g2 (by rw [r2]; rfl)).1, r4⟩
end Go.Proofs.YtkoannkecojhmaaGreatDoor
set_option linter.unusedVariables false
set_option linter.unusedSimpArgs false
namespace Go.Proofs.YtkoannkecojhmaaGreatDoor
open Go.RowKit Go.Shelf Go.Maps Go.Proofs.DiskMath
set_option maxHeartbeats 1000000 in
theorem num8_any (x : Int) (w : World) : Calls Tryz.prog 7 #[.int .i64 x] w fun e w' => e = .returned (.int .i64 x) ∧ w' = w := by
  go_enter Tryz.func7, Tryz.ntmps7
  go_wp2
  go_ret
  exact ⟨rfl, rfl⟩
theorem mcells {W : World} {g : Nat} {m : Mf} {la : Option Addr} {c : Nat} (h : W.heap[g]? = some (.cells (mfC m la c).toArray 26 (0, 0))) :
    W.cell? ⟨g, 0, none⟩ = some (.int .i64 m.w) ∧ W.cell? ⟨g, 1, none⟩ = some (.int .i64 m.ch) ∧ W.cell? ⟨g, 2, none⟩ = some (.int .i64 m.md) ∧ W.cell? ⟨g, 3, none⟩ = some (.int .i64 m.seq) ∧ W.cell? ⟨g, 4, none⟩ = some (.int .i64 m.nx) ∧ W.cell? ⟨g, 5, none⟩ = some (.int .i64 m.jn) ∧ W.cell? ⟨g, 6, none⟩ = some (.slice la m.rs.length c) := by
  rw [mf7] at h
  exact ⟨by simp [World.cell?, h], by simp [World.cell?, h], by simp [World.cell?, h], by simp [World.cell?, h], by simp [World.cell?, h], by simp [World.cell?, h], by simp [World.cell?, h]⟩
/-- A manifest that lies in a box. -/
structure BX (W : World) (g : Nat) (m : Mf) (la : Option Addr) (c : Nat) : Prop where
  box : W.heap[g]? = some (.cells (mfC m la c).toArray 26 (0, 0))
  row : LAt W la m.rs
  cap : m.rs.length ≤ c
theorem BX.lat {W W' : World} {g : Nat} {m : Mf} {la : Option Addr} {c : Nat} (h : BX W g m la c) (b : Below W.heap.size W W') : BX W' g m la c :=
  ⟨(b.block _ (Array.getElem?_eq_some_iff.1 h.box).1).trans h.box, h.row.below b, h.cap⟩
/-- A disk of the call's own, and what lay there ahead of it. -/
structure MD (wN W : World) (p mb : Nat) (es : List Ent) (c : Ctl) : Prop where
  dk : DK W p mb es c
  ft : ∀ k, Foot p mb es k → wN.heap.size ≤ k
  bl : Below wN.heap.size wN W
theorem MD.step {wN W W' : World} {p mb : Nat} {es es' : List Ent} {c c' : Ctl} (h : MD wN W p mb es c) (s : Step W W' p mb es es' c') : MD wN W' p mb es' c' :=
  ⟨s.dk, fun k hk => by
    rcases s.foot k hk with h1 | h1
    · exact h.ft k h1
    · exact Nat.le_trans h.bl.size h1, h.bl.trans (s.stay.toBelow (fun k hk hF => by have := h.ft k hF; omega) h.bl.size)⟩
theorem MD.more {wN W W' : World} {p mb : Nat} {es : List Ent} {c : Ctl} (h : MD wN W p mb es c) (b : Below W.heap.size W W') : MD wN W' p mb es c :=
  ⟨h.dk.below b, h.ft, chain h.bl b (Nat.le_refl _)⟩
theorem bad_w {m : Mf} (h : MfW m) : MfW { m with nx := 1 } :=
  ⟨h.w, h.ch, h.md, h.seq, by show I64 1; unfold I64; omega, h.jn, h.rs⟩
theorem enT_no {m : Mf} (h : chE m ≠ 0) : (enT m).size = 0 := by unfold enT; rw [if_neg h]; rfl
theorem bx_below {wN W : World} {g : Nat} {m : Mf} {la : Option Addr} {c : Nat} (h : BX wN g m la c) (b : Below wN.heap.size wN W) : BX W g m la c := h.lat b
theorem es_one {es : List Ent} {a : List UInt8} {k : Nat} (h : es.map fl = [⟨nMan, a, k⟩]) : es.length = 1 ∧ es.map Ent.nm = [nMan] := by
  match es, h with
  | [], h => simp at h
  | _ :: _ :: _, h => simp at h
  | [e], h =>
    simp only [List.map_cons, List.map_nil, List.cons.injEq, and_true] at h
    refine ⟨rfl, ?_⟩
    have : (fl e).nm = nMan := by rw [h]
    simp only [List.map_cons, List.map_nil]
    exact congrArg (fun x => [x]) this
set_option maxHeartbeats 16000000 in
set_option maxRecDepth 100000 in
theorem law_full (m1 : Mf) (l1 : Option Addr) (c1 : Nat) (m2 : Mf) (l2 : Option Addr) (c2 : Nat) (room : Int) (w : World) (h1 : LAt w l1 m1.rs) (w1 : MfW m1) (k1 : m1.rs.length ≤ c1) (s1 : m1.rs.length < 4611686018427387904) (h2 : LAt w l2 m2.rs) (w2 : MfW m2) (k2 : m2.rs.length ≤ c2) (s2 : m2.rs.length < 4611686018427387904) (hr : -9223372036854775808 ≤ room ∧ room < 9223372036854775808) (ht : Tab w) (hg : 0 < w.heap.size) :
    Calls Tryz.prog 3 #[.agg (mfC m1 l1 c1).toArray, .agg (mfC m2 l2 c2).toArray, .int .i64 room] w fun e w' => e = .returned (.bool true) ∧ Below w.heap.size w w' := by
  obtain ⟨W, hW⟩ : ∃ W, W = (w.alloc (.cells (mfC m1 l1 c1).toArray 26)).alloc (.cells (mfC m2 l2 c2).toArray 26) := ⟨_, rfl⟩
  have bW : Below w.heap.size w W := by rw [hW]; exact ((Below.refl _ w).alloc (Nat.le_refl _) _).alloc (by simp) _
  have B1 : W.heap[w.heap.size]? = some (.cells (mfC m1 l1 c1).toArray 26 (0, 0)) := by
    rw [hW]
    have h1 := heap_alloc_new w (.cells (mfC m1 l1 c1).toArray 26)
    exact (Below.heap_alloc _ _ _ (Array.getElem?_eq_some_iff.1 h1).1).trans h1
  have B2 : W.heap[w.heap.size + 1]? = some (.cells (mfC m2 l2 c2).toArray 26 (0, 0)) := by
    rw [hW]
    have h1 := heap_alloc_new (w.alloc (.cells (mfC m1 l1 c1).toArray 26)) (.cells (mfC m2 l2 c2).toArray 26)
    simpa using h1
  have X2 : BX W (w.heap.size + 1) m2 l2 c2 := ⟨B2, h2.below bW, k2⟩
  have cg1 := goes_any m1 l1 c1 W (h1.below bW) w1 k1 s1
  obtain ⟨x0, x1, x2, x3, x4, x5, x6⟩ := mcells B1
  have HT := Hid.mk (And.intro ht hg)
  have HB := Hid.mk (And.intro bW (And.intro X2 (And.intro w2 (And.intro s2 hr))))
  obtain ⟨M1, hM1⟩ : ∃ M1, M1 = goM m1 := ⟨_, rfl⟩
  obtain ⟨M2, hM2⟩ : ∃ M2, M2 = goM m2 := ⟨_, rfl⟩
  rw [← hM1] at cg1
  have o1 : chE M1 = 0 := by rw [hM1]; exact goM_ok m1
  have o2 : chE M2 = 0 := by rw [hM2]; exact goM_ok m2
  have z1 := enT_size o1
  have z2 := enT_size o2
  have y1 := pay_len (goes_of o1)
  have y2 := pay_len (goes_of o2)
  obtain ⟨T1, hT1⟩ : ∃ T1, T1 = enT M1 := ⟨_, rfl⟩
  obtain ⟨T2, hT2⟩ : ∃ T2, T2 = enT M2 := ⟨_, rfl⟩
  obtain ⟨n1, hn1⟩ : ∃ n1, n1 = T1.size := ⟨_, rfl⟩
  obtain ⟨n2, hn2⟩ : ∃ n2, n2 = T2.size := ⟨_, rfl⟩
  have HN : Hid (n1 = T1.size ∧ n2 = T2.size ∧ T1 = enT M1 ∧ T2 = enT M2 ∧ 14 ≤ n1 ∧ n1 ≤ 2014 ∧ 14 ≤ n2 ∧ n2 ≤ 2014) := ⟨hn1, hn2, hT1, hT2, by rw [hn1, hT1]; omega, by rw [hn1, hT1]; omega, by rw [hn2, hT2]; omega, by rw [hn2, hT2]; omega⟩
  have HO : Hid (chE M1 = 0 ∧ chE M2 = 0 ∧ M1 = goM m1 ∧ M2 = goM m2) := ⟨o1, o2, hM1, hM2⟩
  have HW := Hid.mk hW
  clear h1 w1 k1 s1 h2 w2 k2 s2 hr ht hg bW B1 B2 X2 hM1 hM2 o1 o2 z1 z2 y1 y2 hT1 hT2 hn1 hn2 hW
  simp only [mf7] at cg1 HW ⊢
  go_enter Tryz.func3, Tryz.ntmps3
  go_wp2_with fail
  rw [← HW.out]
  refine cg1.mono ?_
  clear cg1 x0 x1 x2 x3 x4 x5 x6
  rintro e v1 ⟨la1, ca1, rfl, r1, f1, b1⟩
  obtain ⟨V1, hV1⟩ : ∃ V1, V1 = v1.alloc (.cells (mfC M1 la1 ca1).toArray 26) := ⟨_, rfl⟩
  have bV1 : Below v1.heap.size v1 V1 := by rw [hV1]; exact (Below.refl _ v1).alloc (Nat.le_refl _) _
  have A1 : BX V1 v1.heap.size M1 la1 ca1 := ⟨by rw [hV1]; exact heap_alloc_new v1 _, (own_lat r1).1.below bV1, (own_lat r1).2⟩
  have bb1 := chain b1 bV1 (Nat.le_refl _)
  have ba1 := chain HB.out.1 bb1 (Nat.le_refl _)
  have hsr := fun m (h : chE m = 0) => (show m.rs.length < 4611686018427387904 by have := (goes_of h).len; omega)
  have ce1 := encode_any M1 la1 ca1 V1 A1.row (mfw_of HO.out.1) A1.cap (hsr _ HO.out.1) (HT.out.1.below ba1 HT.out.2) (Nat.lt_of_lt_of_le HT.out.2 ba1.size)
  rw [← HN.out.2.2.1, HO.out.1] at ce1
  obtain ⟨x0, x1, x2, x3, x4, x5, x6⟩ := mcells A1.box
  have HV1 := Hid.mk hV1
  have HA1 := Hid.mk (And.intro A1 (And.intro bb1 ba1))
  clear hV1 r1 f1 b1 bV1 A1 bb1 ba1 hsr
  simp only [mf7] at ce1 HV1 ⊢
  go_wp2_with fail
  rw [← HV1.out]
  refine ce1.mono ?_
  clear ce1 x0 x1 x2 x3 x4 x5 x6
  rintro e v2 ⟨rfl, b2⟩
  have X2 := HB.out.2.1.lat (chain HA1.out.2.1 b2 (Nat.le_refl _))
  have A1 := HA1.out.1.lat b2
  have ba2 := chain HA1.out.2.2 b2 (Nat.le_refl _)
  have cg2 := goes_any m2 l2 c2 v2 X2.row HB.out.2.2.1 X2.cap HB.out.2.2.2.1
  rw [← HO.out.2.2.2] at cg2
  obtain ⟨x0, x1, x2, x3, x4, x5, x6⟩ := mcells X2.box
  have HA2 := Hid.mk (And.intro A1 ba2)
  clear b2 X2 A1 ba2
  simp only [mf7] at cg2
  go_wp2_with fail
  refine cg2.mono ?_
  clear cg2 x0 x1 x2 x3 x4 x5 x6
  rintro e v3 ⟨la2, ca2, rfl, r3, f3, b3⟩
  obtain ⟨V3, hV3⟩ : ∃ V3, V3 = v3.alloc (.cells (mfC M2 la2 ca2).toArray 26) := ⟨_, rfl⟩
  have bV3 : Below v3.heap.size v3 V3 := by rw [hV3]; exact (Below.refl _ v3).alloc (Nat.le_refl _) _
  have A3 : BX V3 v3.heap.size M2 la2 ca2 := ⟨by rw [hV3]; exact heap_alloc_new v3 _, (own_lat r3).1.below bV3, (own_lat r3).2⟩
  have A1 := HA2.out.1.lat (chain b3 bV3 (Nat.le_refl _))
  have ba3 := chain HA2.out.2 (chain b3 bV3 (Nat.le_refl _)) (Nat.le_refl _)
  have hsr := fun m (h : chE m = 0) => (show m.rs.length < 4611686018427387904 by have := (goes_of h).len; omega)
  have ce2 := encode_any M2 la2 ca2 V3 A3.row (mfw_of HO.out.2.1) A3.cap (hsr _ HO.out.2.1) (HT.out.1.below ba3 HT.out.2) (Nat.lt_of_lt_of_le HT.out.2 ba3.size)
  rw [← HN.out.2.2.2.1, HO.out.2.1] at ce2
  obtain ⟨x0, x1, x2, x3, x4, x5, x6⟩ := mcells A3.box
  have HV3 := Hid.mk hV3
  have HA3 := Hid.mk (And.intro A1 (And.intro A3 ba3))
  clear hV3 r3 f3 b3 bV3 A3 A1 ba3 hsr
  simp only [mf7] at ce2 HV3 ⊢
  go_wp2_with fail
  rw [← HV3.out]
  refine ce2.mono ?_
  clear ce2 x0 x1 x2 x3 x4 x5 x6
  rintro e v4 ⟨rfl, b4⟩
  have HA4 := Hid.mk (And.intro (HA3.out.1.lat b4) (And.intro (HA3.out.2.1.lat b4) (chain HA3.out.2.2 b4 (Nat.le_refl _))))
  clear b4
  have t1 : T1.size = n1 := HN.out.1.symm
  have t2 : T2.size = n2 := HN.out.2.1.symm
  have u1 : ((n1 : Int) == 0) = false := by have := HN.out.2.2.2.2.1; exact beq_false_of_ne (by omega)
  have u2 : (n1 == 0) = false := by have := HN.out.2.2.2.2.1; exact beq_false_of_ne (by omega)
  have u3 : n2 ≤ 2014 := HN.out.2.2.2.2.2.2.2
  go_wp2_with (go_at_call 7; refine (num8_any _ _).mono ?_; rintro e w' ⟨rfl, rfl⟩)
  obtain ⟨v5, hv5⟩ : ∃ v5, v5 = w' := ⟨_, rfl⟩
  subst hv5
  obtain ⟨sp, hsp⟩ : ∃ sp : Nat, room % ((n2 + 20 : Nat) : Int) = (sp : Int) := ⟨(room % ((n2 + 20 : Nat) : Int)).toNat, by have := Int.emod_nonneg room (show ((n2 + 20 : Nat) : Int) ≠ 0 by omega); omega⟩
  have hspl : sp < n2 + 20 := by have := Int.emod_lt_of_pos room (show (0 : Int) < ((n2 + 20 : Nat) : Int) by omega); omega
  have cp := pick_any room (n2 + 20) v5 (by omega) (by omega) HB.out.2.2.2.2
  rw [hsp, show ((n2 + 20 : Nat) : Int) = (n2 : Int) + 20 by omega] at cp
  have u4 : n1 ≤ 2014 := HN.out.2.2.2.2.2.1
  clear hsp
  refine cp.mono ?_
  clear cp
  rintro e w' ⟨rfl, rfl⟩
  obtain ⟨v5, hv5⟩ : ∃ v5, v5 = w' := ⟨_, rfl⟩
  subst hv5
  go_wp2_with fail
  refine new_any ((n1 : Int) + sp) v5 _ (fun h => by omega) (fun _ _ wD hd bD => ?_)
  have hcap : ((n1 : Int) + sp).toNat = n1 + sp := by omega
  rw [hcap] at hd
  have D0 : MD v5 wD (v5.heap.size + 1) v5.heap.size [] (newC (n1 + sp)) := ⟨hd, fun k hk => by
    rcases hk with rfl | rfl | ⟨e, he, -⟩
    · omega
    · exact Nat.le_refl _
    · exact absurd he (by simp), bD⟩
  obtain ⟨cA, eA, qA, capA⟩ := st_room none M1 (newC (n1 + sp)) ⟨rfl, rfl⟩ HO.out.1 (by rw [← HN.out.2.2.1, ← HN.out.1]; omega) (by rw [← HN.out.2.2.1, ← HN.out.1]; show 0 + n1 ≤ n1 + sp; omega)
  have hsr := fun m (h : chE m = 0) => (show m.rs.length < 4611686018427387904 by have := (goes_of h).len; omega)
  have A1 := HA4.out.1.lat bD
  have baD := chain HA4.out.2.2 bD (Nat.le_refl _)
  have hst := mstore_any M1 la1 ca1 wD hd A1.row (mfw_of HO.out.1) A1.cap (hsr _ HO.out.1) (HT.out.1.below baD HT.out.2) (Nat.lt_of_lt_of_le HT.out.2 baD.size) (by rw [← HN.out.2.2.1, ← HN.out.1]; omega)
  rw [show ([] : List Ent).map fl = fsO none from rfl, eA, ← HN.out.2.2.1] at hst
  obtain ⟨x0, x1, x2, x3, x4, x5, x6⟩ := mcells A1.box
  have HD0 := Hid.mk (And.intro D0 (And.intro qA capA))
  clear hd bD hcap D0 eA qA capA A1 baD hsr
  simp only [mf7] at hst
  go_wp2_with fail
  refine hst.mono ?_
  clear hst x0 x1 x2 x3 x4 x5 x6
  rintro e w6 ⟨es1, rfl, st1, fl1⟩
  dsimp only at st1 fl1 ⊢
  have D1 := HD0.out.1.step st1
  have HD1 := Hid.mk (And.intro D1 fl1)
  clear st1 fl1 D1
  go_wp2_with (go_at_call 7; refine (num8_any _ _).mono ?_; rintro e w' ⟨rfl, rfl⟩)
  obtain ⟨v6, hv6⟩ : ∃ v6, v6 = w' := ⟨_, rfl⟩
  subst hv6
  refine image_any v6 HD1.out.1.dk _ (fun v7 b7 => ?_)
  rw [HD1.out.2]
  obtain ⟨I1, hI1⟩ : ∃ I1 : ByteArray, I1 = ⟨(imgL (fsO (some T1.data.toList))).toArray⟩ := ⟨_, rfl⟩
  rw [← hI1]
  have HI1 := Hid.mk hI1
  have D2 := HD1.out.1.more b7
  have A2 := HA4.out.2.1.lat D2.bl
  have ba2 : Below w.heap.size w v7 := chain HA4.out.2.2 D2.bl (Nat.le_refl _)
  have hsr := fun m (h : chE m = 0) => (show m.rs.length < 4611686018427387904 by have := (goes_of h).len; omega)
  have hst := mstore_any M2 la2 ca2 v7 D2.dk A2.row (mfw_of HO.out.2.1) A2.cap (hsr _ HO.out.2.1) (HT.out.1.below ba2 HT.out.2) (Nat.lt_of_lt_of_le HT.out.2 ba2.size) (by rw [← HN.out.2.2.2.1, ← HN.out.2.1]; omega)
  rw [HD1.out.2] at hst
  obtain ⟨x0, x1, x2, x3, x4, x5, x6⟩ := mcells A2.box
  have HD2 := Hid.mk (And.intro D2 ba2)
  clear b7 hI1 D2 A2 ba2 hsr
  simp only [mf7] at hst
  by_cases hroom : n2 ≤ sp
  · obtain ⟨cB, eB, qB, capB⟩ := st_room (some T1.data.toList) M2 cA HD0.out.2.1 HO.out.2.1 (by rw [← HN.out.2.2.2.1, ← HN.out.2.1]; omega) (by rw [← HN.out.2.2.2.1, ← HN.out.2.1, HD0.out.2.2]; show T1.data.toList.length + n2 ≤ n1 + sp; rw [nm_size, t1]; omega)
    rw [eB, ← HN.out.2.2.2.1] at hst
    go_wp2_with fail
    refine hst.mono ?_
    clear hst x0 x1 x2 x3 x4 x5 x6
    rintro e v8 ⟨es2, rfl, st2, fl2⟩
    dsimp only at st2 fl2 ⊢
    have D3 := HD2.out.1.step st2
    have A2 := HA4.out.2.1.lat D3.bl
    obtain ⟨x0, x1, x2, x3, x4, x5, x6⟩ := mcells A2.box
    have HD3 := Hid.mk (And.intro D3 (And.intro fl2 (And.intro qB A2)))
    clear st2 fl2 D3 A2 eB qB capB
    go_wp2_with fail
    obtain ⟨BM, hBM⟩ : ∃ BM : Mf, BM = { M2 with nx := 1 } := ⟨_, rfl⟩
    have c80 : chE BM = 80 := by rw [hBM, HO.out.2.2.2]; exact bad_next m2
    have hB0 : BM.rs = M2.rs := by rw [hBM]
    have hmf : mfC BM la2 ca2 = [.int .i64 M2.w, .int .i64 M2.ch, .int .i64 M2.md, .int .i64 M2.seq, .int .i64 1, .int .i64 M2.jn, .slice la2 M2.rs.length ca2] := by rw [hBM]; rfl
    obtain ⟨V8, hV8⟩ : ∃ V8, V8 = v8.alloc (.cells #[.int .i64 M2.w, .int .i64 M2.ch, .int .i64 M2.md, .int .i64 M2.seq, .int .i64 1, .int .i64 M2.jn, .slice la2 M2.rs.length ca2] 26) := ⟨_, rfl⟩
    rw [← hV8]
    have b8 : Below v8.heap.size v8 V8 := by rw [hV8]; exact (Below.refl _ v8).alloc (Nat.le_refl _) _
    have D4 := HD3.out.1.more b8
    have A2 := HD3.out.2.2.2.lat b8
    have ba4 : Below w.heap.size w V8 := chain HA4.out.2.2 D4.bl (Nat.le_refl _)
    have hmw := mfw_of HO.out.2.1
    have hsr := fun m (h : chE m = 0) => (show m.rs.length < 4611686018427387904 by have := (goes_of h).len; omega)
    have hst := mstore_any BM la2 ca2 V8 D4.dk (by rw [hB0]; exact A2.row) (by rw [hBM]; exact bad_w hmw) (by rw [hB0]; exact A2.cap) (by rw [hB0]; exact hsr _ HO.out.2.1) (HT.out.1.below ba4 HT.out.2) (Nat.lt_of_lt_of_le HT.out.2 ba4.size) (by rw [enT_no (by rw [c80]; decide)]; decide)
    rw [st_bad _ _ _ HD3.out.2.2.1 (by rw [c80]; decide), c80, hmf] at hst
    have HD4 := Hid.mk D4
    clear hBM c80 hB0 hmf hV8 b8 D4 A2 ba4 hmw hsr x0 x1 x2 x3 x4 x5 x6
    refine hst.mono ?_
    clear hst
    rintro e v9 ⟨es3, rfl, st3, fl3⟩
    dsimp only at st3 fl3 ⊢
    have fl4 : es3.map fl = fsO (some T2.data.toList) := fl3.trans HD3.out.2.1
    have D5 := HD4.out.step st3
    have ba5 : Below w.heap.size w v9 := chain HA4.out.2.2 D5.bl (Nat.le_refl _)
    have hld := mload_any v9 D5.dk (HT.out.1.below ba5 HT.out.2) (Nat.lt_of_lt_of_le HT.out.2 ba5.size)
    rw [fl4, HN.out.2.2.2.1, ld_man M2 cB HD3.out.2.2.1 HO.out.2.1] at hld
    have HD5 := Hid.mk (And.intro D5 fl4)
    clear st3 fl3 fl4 D5 ba5
    go_wp2_with fail
    refine hld.mono ?_
    clear hld
    rintro e v10 ⟨la9, ca9, rfl, r9, f9, b9⟩
    simp only [dcV, unE] at r9 f9 ⊢
    obtain ⟨V10, hV10⟩ : ∃ V10, V10 = v10.alloc (.cells (mfC M2 la9 ca9).toArray 26) := ⟨_, rfl⟩
    have b10 : Below v10.heap.size v10 V10 := by rw [hV10]; exact (Below.refl _ v10).alloc (Nat.le_refl _) _
    have A9 : BX V10 v10.heap.size M2 la9 ca9 := ⟨by rw [hV10]; exact heap_alloc_new v10 _, (own_lat r9).1.below b10, (own_lat r9).2⟩
    have D6 := (HD5.out.1.more b9).more b10
    have HV10 := Hid.mk hV10
    have HD6 := Hid.mk (And.intro D6 A9)
    clear r9 f9 b9 hV10 b10 A9 D6
    simp only [mf7] at HV10 ⊢
    go_wp2_with fail
    rw [← HV10.out]
    refine names_any V10 HD6.out.1.dk _ (fun ho => absurd ho (by rw [HD3.out.2.2.1.1]; decide)) (fun _ g9 cp9 v11 ow b11 => ?_)
    obtain ⟨hl1, hl2⟩ := es_one HD5.out.2
    rw [hl1] at ow ⊢
    rw [hl2] at ow
    have nm0 : v11.cell? ⟨g9, 0, none⟩ = some (.string tMan) := by
      have h0 := ow.cells (g := g9) rfl 0 (.string tMan) rfl
      rwa [show (⟨g9, 0, none⟩ : Addr).add 0 = ⟨g9, 0, none⟩ from by unfold Addr.add; split <;> simp_all] at h0
    have D7 := HD6.out.1.more b11
    have A9 := HD6.out.2.lat b11
    have AX := HA4.out.2.1.lat D7.bl
    obtain ⟨x0, x1, x2, x3, x4, x5, x6⟩ := mcells A9.box
    obtain ⟨y0, y1, y2, y3, y4, y5, y6⟩ := mcells AX.box
    have hsr := (show M2.rs.length < 4611686018427387904 by have := (goes_of HO.out.2.1).len; omega)
    have hself : (tMan.toList == tMan.toList) = true := by simp
    have cs := same_eq M2 la9 la2 ca9 ca2 v11 A9.row AX.row A9.cap AX.cap hsr
    have bf : Below w.heap.size w v11 := chain HA4.out.2.2 D7.bl (Nat.le_refl _)
    have r1 : (n2 : Int) ≤ (sp : Int) := by omega
    clear ow b11 D7 A9 AX hsr hroom hl1 hl2
    simp only [mf7] at cs
    go_wp2_with (first | (go_at_call 7; refine (num8_any _ _).mono ?_; rintro e w' ⟨rfl, rfl⟩) | (go_at_call 14; refine cs.mono ?_; clear cs; rintro e v12 ⟨rfl, b12⟩))
    go_ret
    exact ⟨rfl, chain bf b12 (Nat.le_refl _)⟩
  · obtain ⟨cB, eB, qB, capB⟩ := st_full (some T1.data.toList) M2 cA HD0.out.2.1 HO.out.2.1 (by rw [← HN.out.2.2.2.1, ← HN.out.2.1]; omega) (by rw [← HN.out.2.2.2.1, ← HN.out.2.1, HD0.out.2.2]; show n1 + sp < T1.data.toList.length + n2; rw [nm_size, t1]; omega)
    rw [eB] at hst
    go_wp2_with fail
    refine hst.mono ?_
    clear hst x0 x1 x2 x3 x4 x5 x6
    rintro e v8 ⟨es2, rfl, st2, fl2⟩
    dsimp only at st2 fl2 ⊢
    have D3 := HD2.out.1.step st2
    have A2 := HA4.out.2.1.lat D3.bl
    obtain ⟨x0, x1, x2, x3, x4, x5, x6⟩ := mcells A2.box
    have HD3 := Hid.mk (And.intro D3 (And.intro fl2 (And.intro qB A2)))
    clear st2 fl2 D3 A2 eB qB capB
    go_wp2_with fail
    obtain ⟨BM, hBM⟩ : ∃ BM : Mf, BM = { M2 with nx := 1 } := ⟨_, rfl⟩
    have c80 : chE BM = 80 := by rw [hBM, HO.out.2.2.2]; exact bad_next m2
    have hB0 : BM.rs = M2.rs := by rw [hBM]
    have hmf : mfC BM la2 ca2 = [.int .i64 M2.w, .int .i64 M2.ch, .int .i64 M2.md, .int .i64 M2.seq, .int .i64 1, .int .i64 M2.jn, .slice la2 M2.rs.length ca2] := by rw [hBM]; rfl
    obtain ⟨V8, hV8⟩ : ∃ V8, V8 = v8.alloc (.cells #[.int .i64 M2.w, .int .i64 M2.ch, .int .i64 M2.md, .int .i64 M2.seq, .int .i64 1, .int .i64 M2.jn, .slice la2 M2.rs.length ca2] 26) := ⟨_, rfl⟩
    rw [← hV8]
    have b8 : Below v8.heap.size v8 V8 := by rw [hV8]; exact (Below.refl _ v8).alloc (Nat.le_refl _) _
    have D4 := HD3.out.1.more b8
    have A2 := HD3.out.2.2.2.lat b8
    have ba4 : Below w.heap.size w V8 := chain HA4.out.2.2 D4.bl (Nat.le_refl _)
    have hmw := mfw_of HO.out.2.1
    have hsr := fun m (h : chE m = 0) => (show m.rs.length < 4611686018427387904 by have := (goes_of h).len; omega)
    have hst := mstore_any BM la2 ca2 V8 D4.dk (by rw [hB0]; exact A2.row) (by rw [hBM]; exact bad_w hmw) (by rw [hB0]; exact A2.cap) (by rw [hB0]; exact hsr _ HO.out.2.1) (HT.out.1.below ba4 HT.out.2) (Nat.lt_of_lt_of_le HT.out.2 ba4.size) (by rw [enT_no (by rw [c80]; decide)]; decide)
    rw [st_bad _ _ _ HD3.out.2.2.1 (by rw [c80]; decide), c80, hmf] at hst
    have HD4 := Hid.mk D4
    clear hBM c80 hB0 hmf hV8 b8 D4 A2 ba4 hmw hsr x0 x1 x2 x3 x4 x5 x6
    refine hst.mono ?_
    clear hst
    rintro e v9 ⟨es3, rfl, st3, fl3⟩
    dsimp only at st3 fl3 ⊢
    have fl4 : es3.map fl = fsO (some T1.data.toList) := fl3.trans HD3.out.2.1
    have D5 := HD4.out.step st3
    have ba5 : Below w.heap.size w v9 := chain HA4.out.2.2 D5.bl (Nat.le_refl _)
    have hld := mload_any v9 D5.dk (HT.out.1.below ba5 HT.out.2) (Nat.lt_of_lt_of_le HT.out.2 ba5.size)
    rw [fl4, HN.out.2.2.1, ld_man M1 cB HD3.out.2.2.1 HO.out.1] at hld
    have HD5 := Hid.mk (And.intro D5 fl4)
    clear st3 fl3 fl4 D5 ba5
    go_wp2_with fail
    refine hld.mono ?_
    clear hld
    rintro e v10 ⟨la9, ca9, rfl, r9, f9, b9⟩
    simp only [dcV, unE] at r9 f9 ⊢
    obtain ⟨V10, hV10⟩ : ∃ V10, V10 = v10.alloc (.cells (mfC M1 la9 ca9).toArray 26) := ⟨_, rfl⟩
    have b10 : Below v10.heap.size v10 V10 := by rw [hV10]; exact (Below.refl _ v10).alloc (Nat.le_refl _) _
    have A9 : BX V10 v10.heap.size M1 la9 ca9 := ⟨by rw [hV10]; exact heap_alloc_new v10 _, (own_lat r9).1.below b10, (own_lat r9).2⟩
    have D6 := (HD5.out.1.more b9).more b10
    have HV10 := Hid.mk hV10
    have HD6 := Hid.mk (And.intro D6 A9)
    clear r9 f9 b9 hV10 b10 A9 D6
    simp only [mf7] at HV10 ⊢
    go_wp2_with fail
    rw [← HV10.out]
    refine names_any V10 HD6.out.1.dk _ (fun ho => absurd ho (by rw [HD3.out.2.2.1.1]; decide)) (fun _ g9 cp9 v11 ow b11 => ?_)
    obtain ⟨hl1, hl2⟩ := es_one HD5.out.2
    rw [hl1] at ow ⊢
    rw [hl2] at ow
    have nm0 : v11.cell? ⟨g9, 0, none⟩ = some (.string tMan) := by
      have h0 := ow.cells (g := g9) rfl 0 (.string tMan) rfl
      rwa [show (⟨g9, 0, none⟩ : Addr).add 0 = ⟨g9, 0, none⟩ from by unfold Addr.add; split <;> simp_all] at h0
    have D7 := HD6.out.1.more b11
    have A9 := HD6.out.2.lat b11
    have AX := HA4.out.1.lat D7.bl
    obtain ⟨x0, x1, x2, x3, x4, x5, x6⟩ := mcells A9.box
    obtain ⟨y0, y1, y2, y3, y4, y5, y6⟩ := mcells AX.box
    have hsr := (show M1.rs.length < 4611686018427387904 by have := (goes_of HO.out.1).len; omega)
    have hself : (tMan.toList == tMan.toList) = true := by simp
    have bf : Below w.heap.size w v11 := chain HA4.out.2.2 D7.bl (Nat.le_refl _)
    have r1 : ¬ (n2 : Int) ≤ (sp : Int) := by omega
    have HD7 := Hid.mk (And.intro D7 (And.intro A9 (And.intro AX (And.intro hsr bf))))
    clear ow b11 D7 A9 AX hsr hroom hl1 hl2 bf
    go_wp2_with (go_at_call 7; refine (num8_any _ _).mono ?_; rintro e w' ⟨rfl, rfl⟩)
    obtain ⟨v13, hv13⟩ : ∃ v13, v13 = w' := ⟨_, rfl⟩
    subst hv13
    clear x0 x1 x2 x3 x4 x5 x6 y0 y1 y2 y3 y4 y5 y6 nm0
    refine image_any v13 HD7.out.1.dk _ (fun v12 b12 => ?_)
    rw [HD5.out.2, ← HI1.out]
    have A9 := HD7.out.2.1.lat b12
    have AX := HD7.out.2.2.1.lat b12
    obtain ⟨x0, x1, x2, x3, x4, x5, x6⟩ := mcells A9.box
    obtain ⟨y0, y1, y2, y3, y4, y5, y6⟩ := mcells AX.box
    have cs := same_eq M1 la9 la1 ca9 ca1 v12 A9.row AX.row A9.cap AX.cap HD7.out.2.2.2.1
    have bf : Below w.heap.size w v12 := chain HD7.out.2.2.2.2 b12 (Nat.le_refl _)
    have hI : (I1.toList == I1.toList) = true := by simp
    clear A9 AX b12
    simp only [mf7] at cs
    go_wp2_with (first | (go_at_call 7; refine (num8_any _ _).mono ?_; rintro e w' ⟨rfl, rfl⟩) | (go_at_call 14; refine cs.mono ?_; clear cs; rintro e v14 ⟨rfl, b14⟩))
    go_ret
    exact ⟨rfl, chain bf b14 (Nat.le_refl _)⟩
end Go.Proofs.YtkoannkecojhmaaGreatDoor
set_option linter.unusedSimpArgs false
set_option linter.unusedVariables false
namespace Go.Proofs.YtkoannkecojhmaaGreatDoor
open Go.ChangeMaps (open_string shut_string)
open Go.ChangeShapes Go.WideShapes Go.ChangeAt Go.WideMaps Go.WideElems Go.RowKit Go.Proofs.SealMath
set_option maxRecDepth 100000 in
theorem full_lifted (os : Os) (started : os.Started) (H : Type) (enc : TypeId × Value → H) :
    ReturnsInHanded {} Tryz.checked os 3 .any (fun w args => (Rows.manifestFullSpec.pre enc Tryz.prog Tryz.f3 [] false w args ∧ laidMetH Tryz.prog lst w) ∧ sizedMet enc Tryz.prog Tryz.f3 (OpenSpec.ofChange Rows.manifestFullSpec) false w args)
      (Rows.manifestFullSpec.post enc Tryz.prog Tryz.f3 false true false false) := by
  refine returnsInHanded_of_change_and (C := Tryz.checked) (X := fun w _ => laidMetH Tryz.prog lst w) (fun _ _ _ hh h => h.of_heap hh) own started (by kernel_rfl) Tryz.func3
    (ChangeSpec.witness_shaped (enc := enc) (C := Tryz.checked) (os := os) (X := fun w _ => laidMetH Tryz.prog lst w) false (World.doorLaid Tryz.prog 4000 os) #[.agg #[.int .i64 0, .int .i64 0, .int .i64 0, .int .i64 0, .int .i64 0, .int .i64 0, .slice none 0 0], .agg #[.int .i64 0, .int .i64 0, .int .i64 0, .int .i64 0, .int .i64 0, .int .i64 0, .slice none 0 0], .int .i64 0] 8 rfl (World.shaped_of_RefB (by kernel_rfl) (by kernel_rfl)) (by kernel_rfl) (by kernel_rfl) (by kernel_rfl) (door_met os _)) ?_
  intro W base args ds gs before hval0 hW _ hsz0 hL _
  have hsz : (DataW.weightsEach Tryz.prog (Tryz.f3.params.toList ++ Rows.manifestFullSpec.plain.varTypes Tryz.prog) (ds ++ gs)).all (· ≤ reachBytes) = true := hsz0
  clear hsz0
  have hval : ∀ (j : Nat) t v, Tryz.f3.params[j]? = some t → args[j]? = some v → Value.okWide Tryz.prog W .any base t v := hval0
  have hW' := hW
  obtain ⟨p, q, hA0, hV, rfl, hfz, hnd⟩ := hW
  have hA : DataW.TrodAll enc Tryz.prog W 0 (fun _ => true) true Tryz.f3.params.toList args.toList ds p := hA0
  rw [Tryz.params3] at hA hval hsz
  obtain ⟨v0, v1, v2, d0, d1, d2, p0, p1, p2, rfl, rfl, rfl, h0, h1, h2⟩ := trodAll_three hA
  obtain ⟨rfl, rfl⟩ := trodVars_none hV
  have h0k := h0
  obtain ⟨m, mla, mc, rfl, mL, mW, mC, mD⟩ := open_mf (hval 0 26 v0 rfl rfl) h0
  have sm : (m.rs.length + 1) * 32 ≤ 140737488355328 := by
    rcases mD with h | ⟨x0, x1, x2, x3, elems, sp, hd, hl⟩
    · rw [h]; decide
    · have := List.all_eq_true.1 hsz ((elems.length + sp.length) * Tryz.prog.bytesOf 54) (DataW.weights_mem_each (j := 0) (t := 26) rfl (by rw [hd]; rfl) _ (by simp [DataW.weights, DataW.weightsEach, Tryz.underlying26, Tryz.underlying24]))
      have h2 : (elems.length + sp.length) * Tryz.prog.bytesOf 54 ≤ reachBytes := by simpa using this
      rw [bytesRn] at h2
      have h3 : reachBytes = 140737488351232 := by decide
      omega
  have h1k := h1
  obtain ⟨n, nla, nc, rfl, nL, nW, nC, nD⟩ := open_mf (hval 1 26 v1 rfl rfl) h1
  have sn : (n.rs.length + 1) * 32 ≤ 140737488355328 := by
    rcases nD with h | ⟨x0, x1, x2, x3, elems, sp, hd, hl⟩
    · rw [h]; decide
    · have := List.all_eq_true.1 hsz ((elems.length + sp.length) * Tryz.prog.bytesOf 54) (DataW.weights_mem_each (j := 1) (t := 26) rfl (by rw [hd]; rfl) _ (by simp [DataW.weights, DataW.weightsEach, Tryz.underlying26, Tryz.underlying24]))
      have h2 : (elems.length + sp.length) * Tryz.prog.bytesOf 54 ≤ reachBytes := by simpa using this
      rw [bytesRn] at h2
      have h3 : reachBytes = 140737488351232 := by decide
      omega
  obtain ⟨r, rfl, rfl, rfl, wr⟩ := open_int Tryz.underlying3 (hval 2 3 v2 rfl rfl) h2
  clear hA0 hval0
  simp only [List.append_nil, List.nil_append] at hW'
  have hlt0 : ∀ x ∈ p0, x.block < W.heap.size := fun x hx => hW'.lt x (by simp [hx])
  have hlt1 : ∀ x ∈ p1, x.block < W.heap.size := fun x hx => hW'.lt x (by simp [hx])
  have ht := tab_of hL
  have hg0 := tab_pos ht
  have e1 : Rows.manifestFullSpec.fn H ([d0, d1, .lit (.int .i64 r)] ++ []) = { results := [.lit (.bool true)], args := [d0, d1, .lit (.int .i64 r)] } := by simp [Rows.manifestFullSpec]
  have fin : ∀ (e : Ending) (W' : World), (e = .returned (.bool true) ∧ Below W.heap.size W W') → ∃ v, e = .returned v ∧ Rows.manifestFullSpec.post enc Tryz.prog Tryz.f3 false true false false W #[.agg (mfC m mla mc).toArray, .agg (mfC n nla nc).toArray, .int .i64 r] v W' := by
    rintro e W' ⟨rfl, hbl⟩
    refine ⟨_, rfl, _, _, _, [], p0 ++ p1, [], hW', ?_, ?_, ?_, hbl.frame _, fun h => by cases h⟩
    · rw [e1]; exact trodAll_mk1 (shut_bool Tryz.underlying4 true)
    · rw [e1]; have h5 := trodAll_mk3 (Below.trod laidOut (by kernel_rfl) (of_decide_eq_true (by kernel_rfl)) h0k hbl hlt0) (Below.trod laidOut (by kernel_rfl) (of_decide_eq_true (by kernel_rfl)) h1k hbl hlt1) (shut_int Tryz.underlying3 wr); (try simp only [List.append_nil, List.nil_append] at h5); exact h5
    · rw [e1]; rfl
  have g1 := bounds_i64 wr
  exact (law_full m mla mc n nla nc r W mL mW mC (by omega) nL nW nC (by omega) (by omega) ht hg0).mono fin

theorem full_row : Rows.ManifestFullSaid :=
  OpenClaim.holds_of_wide 3 Tryz.f3 rfl rfl rfl rfl rfl rfl rfl ⟨rfl, rfl, rfl, rfl, rfl⟩ rfl rfl rfl rfl rfl (by kernel_rfl) Tryz.func3 (by kernel_rfl)
    (of_decide_eq_true (by kernel_rfl)) (by unfold Func.isWrapper; rw [if_neg (of_decide_eq_false (by kernel_rfl))]; exact ⟨rfl, rfl⟩)
    (fun os started H enc _ => full_lifted os started H enc)
theorem full_holds : Rows.ManifestFullCardSaid :=
  Claim7.holds_tied_plain_at .later [] [.called] true (true, "f784b6f1a4b6be4f9a996bd7f2968b880c8206ba76b552f798515a55c3165cfa") false
    full_row (fun _ h => by cases h) (by kernel_rfl) (fun _ h => by cases h) manifestFull_row_tie rfl ⟨rfl, rfl⟩ (by kernel_rfl) rfl
    (fun f fn hf hfn => by
      obtain rfl : f = 3 := Option.some.inj ((show Tryz.prog.funcNamed "kindred/kindredlaw8.ManifestFull" = some 3 by kernel_rfl).symm.trans hf) |>.symm
      obtain rfl : fn = Tryz.f3 := (Option.some.inj (Tryz.func3.symm.trans hfn)).symm
      exact ⟨by kernel_rfl, fun j t ht => by
        rw [Tryz.params3] at ht
        have hm : t ∈ [26, 26, 3] := by simpa using Array.mem_of_getElem? ht
        have hall : ([26, 26, 3].all fun u => !Tryz.prog.wantsStandIn u) = true := by kernel_rfl
        exact (show Tryz.prog.wantsStandIn t = false by simpa using List.all_eq_true.1 hall t hm)⟩)
    (by kernel_rfl)
#print axioms full_holds
end Go.Proofs.YtkoannkecojhmaaGreatDoor
