/-
  DERIVED. XCalm, XPre, XSwap, XSame, COpen, XTry, XBox, as one text.
-/
import Derived.Test.YtkoannkecojhmaaGreatDoorXbB
import Derived.Test.YtkoannkecojhmaaGreatDoorCApp
import Derived.Test.YtkoannkecojhmaaGreatDoorCNum
import Derived.Deep.Slices
import Derived.WideShapes
import Derived.ChangeShapes
set_option linter.unusedVariables false
set_option linter.unusedSimpArgs false
namespace Go.Proofs.YtkoannkecojhmaaGreatDoor
open Go.RowKit Go.Maps Go.Proofs.DiskMath
/-- No cut is due. -/
def Calm (c : Ctl) : Prop := c.off = false ∧ c.left = 0
theorem isMan : isNm nMan = true := by decide +kernel
theorem isNew : isNm nNew = true := by decide +kernel
theorem ne_names : (nMan == nNew) = false ∧ (nNew == nMan) = false ∧ (nNew < nMan) = False := by
  refine ⟨by decide +kernel, by decide +kernel, ?_⟩
  simp only [eq_iff_iff, iff_false]
  decide +kernel
theorem Calm.ck {c : Ctl} (h : Calm c) {n : List UInt8} (hn : isNm n = true) : ckE c n = 0 := by unfold ckE; rw [h.1, hn]; rfl
theorem Calm.ok {c : Ctl} (h : Calm c) : okE c = 0 := by unfold okE; rw [h.2]; rfl
theorem Calm.done {c : Ctl} (h : Calm c) : doneC c = true := by unfold doneC; rw [h.2]; simp
theorem Calm.tick {c : Ctl} (h : Calm c) : Calm (tick c) := by
  refine ⟨?_, ?_⟩
  · show (c.left == 1) = false; rw [h.2]; rfl
  · show c.left - 1 = 0; rw [h.2]
theorem tick_cap (c : Ctl) : (tick c).cap = c.cap := rfl
/-- The disk with one manifest, or none. -/
def fsO : Option (List UInt8) → List Fl
  | none => []
  | some a => [⟨nMan, a, a.length⟩]
def lenO : Option (List UInt8) → Nat
  | none => 0
  | some a => a.length
theorem find_new (o : Option (List UInt8)) : findF (fsO o) nNew = none := by cases o <;> simp [fsO, findF, ne_names.1]
theorem find_newN (o : Option (List UInt8)) (d : List UInt8) (k : Nat) : findF (fsO o ++ [⟨nNew, d, k⟩]) nNew = some ⟨nNew, d, k⟩ := by cases o <;> simp [fsO, findF, ne_names.1]
theorem ins_new (o : Option (List UInt8)) : insF ⟨nNew, [], 0⟩ (fsO o) = fsO o ++ [⟨nNew, [], 0⟩] := by cases o <;> simp [fsO, insF, ne_names.2.2]
theorem ne_mn : nMan ≠ nNew := by decide +kernel
theorem mod_new (o : Option (List UInt8)) (d d' : List UInt8) (k k' : Nat) : modF (fsO o ++ [⟨nNew, d, k⟩]) ⟨nNew, d', k'⟩ = fsO o ++ [⟨nNew, d', k'⟩] := by cases o <;> simp [fsO, modF, ne_mn]
theorem del_new (o : Option (List UInt8)) (d : List UInt8) (k : Nat) : delF (fsO o ++ [⟨nNew, d, k⟩]) nNew = fsO o := by cases o <;> simp [fsO, delF, ne_names.1]
theorem del_man (o : Option (List UInt8)) : delF (fsO o) nMan = [] := by cases o <;> simp [fsO, delF]
theorem used_new (o : Option (List UInt8)) (d : List UInt8) (k : Nat) : usedF (fsO o ++ [⟨nNew, d, k⟩]) = lenO o + d.length := by cases o <;> simp [fsO, usedF, lenO]
theorem len_o (o : Option (List UInt8)) : (fsO o).length ≤ 1 := by cases o <;> simp [fsO]
/-- Store where there is room. -/
theorem seq_room (o : Option (List UInt8)) (b : List UInt8) (c : Ctl) (h : Calm c) (hb : b.length ≤ 268435456) (hr : lenO o + b.length ≤ c.cap) :
    ∃ c', seqF (opsF b) (fsO o) c = (0, fsO (some b), c') ∧ Calm c' ∧ c'.cap = c.cap := by
  have h1 : clrF (fsO o) c = (0, fsO o, c) := by
    unfold clrF fdF
    rw [if_pos (h.ck isNew), find_new]
    rfl
  have h2 : createF (fsO o) c nNew = (0, fsO o ++ [⟨nNew, [], 0⟩], tick c) := by
    unfold createF
    rw [if_neg (by simpa using h.ck isNew), find_new, if_neg (by have := len_o o; omega), h.ok, h.done, ins_new]
    rfl
  have t1 := h.tick
  have h3 : fillF b (fsO o ++ [⟨nNew, [], 0⟩]) (tick c) = (0, fsO o ++ [⟨nNew, b, 0⟩], tick (tick c)) := by
    have ha : appendF (fsO o ++ [⟨nNew, [], 0⟩]) (tick c) nNew b = (0, fsO o ++ [⟨nNew, b, 0⟩], tick (tick c)) := by
      unfold appendF fdF
      rw [t1.ck isNew, find_newN]
      simp only [if_true, ne_eq, not_true_eq_false, if_false, List.nil_append]
      rw [if_neg (by simp; omega), used_new, if_neg (by rw [tick_cap]; simp; omega), t1.ok, mod_new]
    unfold fillF
    rw [ha]
    simp
  have t2 := t1.tick
  have h4 : syncF (fsO o ++ [⟨nNew, b, 0⟩]) (tick (tick c)) nNew = (0, fsO o ++ [⟨nNew, b, b.length⟩], tick (tick (tick c))) := by
    unfold syncF fdF
    rw [t2.ck isNew, find_newN]
    simp only [if_true, ne_eq, not_true_eq_false, if_false]
    rw [t2.ok, if_neg (by rw [t2.2]; decide), mod_new]
  have t3 := t2.tick
  have h5 : renameF (fsO o ++ [⟨nNew, b, b.length⟩]) (tick (tick (tick c))) nNew nMan = (0, fsO (some b), tick (tick (tick (tick c)))) := by
    unfold renameF fdF
    rw [t3.ck isMan, t3.ck isNew, find_newN]
    simp only [if_true, ne_eq, not_true_eq_false, if_false]
    rw [t3.ok, t3.done]
    simp only [if_true]
    unfold renF
    rw [del_new, del_man]
    rfl
  refine ⟨tick (tick (tick (tick c))), ?_, t3.tick, rfl⟩
  unfold opsF
  simp only [seqF, h1, h2, h3, h4, h5, if_true]
/-- Store where there is none. -/
theorem seq_full (o : Option (List UInt8)) (b : List UInt8) (c : Ctl) (h : Calm c) (hb : b.length ≤ 268435456) (hr : c.cap < lenO o + b.length) :
    ∃ c', seqF (opsF b) (fsO o) c = (44, fsO o, c') ∧ Calm c' ∧ c'.cap = c.cap := by
  have h1 : clrF (fsO o) c = (0, fsO o, c) := by
    unfold clrF fdF
    rw [if_pos (h.ck isNew), find_new]
    rfl
  have h2 : createF (fsO o) c nNew = (0, fsO o ++ [⟨nNew, [], 0⟩], tick c) := by
    unfold createF
    rw [if_neg (by simpa using h.ck isNew), find_new, if_neg (by have := len_o o; omega), h.ok, h.done, ins_new]
    rfl
  have t1 := h.tick
  have h3 : fillF b (fsO o ++ [⟨nNew, [], 0⟩]) (tick c) = (44, fsO o, tick (tick c)) := by
    have ha : appendF (fsO o ++ [⟨nNew, [], 0⟩]) (tick c) nNew b = (44, fsO o ++ [⟨nNew, [], 0⟩], tick c) := by
      unfold appendF fdF
      rw [t1.ck isNew, find_newN]
      simp only [if_true, ne_eq, not_true_eq_false, if_false, List.nil_append]
      rw [if_neg (by simp; omega), used_new, if_pos (by rw [tick_cap]; simp; omega)]
    have hd : deleteF (fsO o ++ [⟨nNew, [], 0⟩]) (tick c) nNew = (0, fsO o, tick (tick c)) := by
      unfold deleteF fdF
      rw [t1.ck isNew, find_newN]
      simp only [if_true, ne_eq, not_true_eq_false, if_false]
      rw [t1.ok, t1.done, del_new]
      rfl
    unfold fillF
    rw [ha]
    simp only [hd]
    simp
  refine ⟨tick (tick c), ?_, t1.tick, rfl⟩
  unfold opsF
  simp only [seqF, h1, h2, h3, if_true]
  rfl
/-- Store of a manifest that goes. -/
theorem st_room (o : Option (List UInt8)) (m : Mf) (c : Ctl) (h : Calm c) (hm : chE m = 0) (hb : (enT m).size ≤ 100000) (hr : lenO o + (enT m).size ≤ c.cap) :
    ∃ c', stR (fsO o) c m = (0, fsO (some (enT m).data.toList), c') ∧ Calm c' ∧ c'.cap = c.cap := by
  obtain ⟨c', h1, h2⟩ := seq_room o (enT m).data.toList c h (by rw [nm_size]; omega) (by rw [nm_size]; exact hr)
  refine ⟨c', ?_, h2⟩
  unfold stR
  rw [if_neg (by rw [h.1]; decide), if_pos hm, h1]
theorem st_full (o : Option (List UInt8)) (m : Mf) (c : Ctl) (h : Calm c) (hm : chE m = 0) (hb : (enT m).size ≤ 100000) (hr : c.cap < lenO o + (enT m).size) :
    ∃ c', stR (fsO o) c m = (44, fsO o, c') ∧ Calm c' ∧ c'.cap = c.cap := by
  obtain ⟨c', h1, h2⟩ := seq_full o (enT m).data.toList c h (by rw [nm_size]; omega) (by rw [nm_size]; exact hr)
  refine ⟨c', ?_, h2⟩
  unfold stR
  rw [if_neg (by rw [h.1]; decide), if_pos hm, h1]
theorem st_bad (fs : List Fl) (m : Mf) (c : Ctl) (h : Calm c) (hm : chE m ≠ 0) : stR fs c m = (chE m, fs, c) := by
  unfold stR
  rw [if_neg (by rw [h.1]; decide), if_neg hm]
/-- Load behind it. -/
theorem ld_man (m : Mf) (c : Ctl) (h : Calm c) (hm : chE m = 0) : ldF (fsO (some (enT m).data.toList)) c = .ok m := by
  unfold ldF fdF
  rw [h.ck isMan]
  have hf : findF (fsO (some (enT m).data.toList)) nMan = some ⟨nMan, (enT m).data.toList, (enT m).data.toList.length⟩ := by simp [fsO, findF]
  rw [hf]
  simp only [if_true, ne_eq, not_true_eq_false, if_false]
  rw [dec_enc hm _ (by show (⟨(enT m).data.toList.toArray⟩ : ByteArray) = enT m; simp)]
/-- A manifest that goes, with Next 1: it goes no more. -/
theorem bad_next (m : Mf) : chE { goM m with nx := 1 } = 80 := by
  have h0 := goM_ok m
  unfold chE at h0 ⊢
  dsimp only at h0 ⊢
  split at h0
  · simp at h0
  · rename_i h1
    rw [if_neg h1]
    split at h0
    · simp at h0
    · rename_i h2
      rw [if_neg h2]
      split at h0
      · simp at h0
      · rename_i h3
        rw [if_neg h3, if_neg]
        intro hx
        simp [nbB] at hx
end Go.Proofs.YtkoannkecojhmaaGreatDoor
set_option linter.unusedVariables false
set_option linter.unusedSimpArgs false
namespace Go.Proofs.YtkoannkecojhmaaGreatDoor
open Go.RowKit Go.Shelf Go.Maps Go.Proofs.DiskMath
set_option maxHeartbeats 1000000 in
theorem num8_any (x : Int) (w : World) : Calls Tryz.prog 7 #[.int .i64 x] w fun e w' => e = .returned (.int .i64 x) ∧ w' = w := by
  go_enter Tryz.func7, Tryz.ntmps7
  go_wp2
  go_ret
  exact ⟨rfl, rfl⟩
theorem mcells {W : World} {g : Nat} {m : Mf} {la : Option Addr} {c : Nat} (h : W.heap[g]? = some (.cells (mfC m la c).toArray 26 (0, 0))) :
    W.cell? ⟨g, 0, none⟩ = some (.int .i64 m.w) ∧ W.cell? ⟨g, 1, none⟩ = some (.int .i64 m.ch) ∧ W.cell? ⟨g, 2, none⟩ = some (.int .i64 m.md) ∧ W.cell? ⟨g, 3, none⟩ = some (.int .i64 m.seq) ∧ W.cell? ⟨g, 4, none⟩ = some (.int .i64 m.nx) ∧ W.cell? ⟨g, 5, none⟩ = some (.int .i64 m.jn) ∧ W.cell? ⟨g, 6, none⟩ = some (.slice la m.rs.length c) := by
  rw [mf7] at h
  exact ⟨by simp [World.cell?, h], by simp [World.cell?, h], by simp [World.cell?, h], by simp [World.cell?, h], by simp [World.cell?, h], by simp [World.cell?, h], by simp [World.cell?, h]⟩
/-- A manifest that lies in a box. -/
structure BX (W : World) (g : Nat) (m : Mf) (la : Option Addr) (c : Nat) : Prop where
  box : W.heap[g]? = some (.cells (mfC m la c).toArray 26 (0, 0))
  row : LAt W la m.rs
  cap : m.rs.length ≤ c
theorem BX.lat {W W' : World} {g : Nat} {m : Mf} {la : Option Addr} {c : Nat} (h : BX W g m la c) (b : Below W.heap.size W W') : BX W' g m la c :=
  ⟨(b.block _ (Array.getElem?_eq_some_iff.1 h.box).1).trans h.box, h.row.below b, h.cap⟩
/-- A disk of the call's own, and what lay there ahead of it. -/
structure MD (wN W : World) (p mb : Nat) (es : List Ent) (c : Ctl) : Prop where
  dk : DK W p mb es c
  ft : ∀ k, Foot p mb es k → wN.heap.size ≤ k
  bl : Below wN.heap.size wN W
theorem MD.step {wN W W' : World} {p mb : Nat} {es es' : List Ent} {c c' : Ctl} (h : MD wN W p mb es c) (s : Step W W' p mb es es' c') : MD wN W' p mb es' c' :=
  ⟨s.dk, fun k hk => by
    rcases s.foot k hk with h1 | h1
    · exact h.ft k h1
    · exact Nat.le_trans h.bl.size h1, h.bl.trans (s.stay.toBelow (fun k hk hF => by have := h.ft k hF; omega) h.bl.size)⟩
theorem MD.more {wN W W' : World} {p mb : Nat} {es : List Ent} {c : Ctl} (h : MD wN W p mb es c) (b : Below W.heap.size W W') : MD wN W' p mb es c :=
  ⟨h.dk.below b, h.ft, chain h.bl b (Nat.le_refl _)⟩
theorem bad_w {m : Mf} (h : MfW m) : MfW { m with nx := 1 } :=
  ⟨h.w, h.ch, h.md, h.seq, by show I64 1; unfold I64; omega, h.jn, h.rs⟩
theorem enT_no {m : Mf} (h : chE m ≠ 0) : (enT m).size = 0 := by unfold enT; rw [if_neg h]; rfl
theorem bx_below {wN W : World} {g : Nat} {m : Mf} {la : Option Addr} {c : Nat} (h : BX wN g m la c) (b : Below wN.heap.size wN W) : BX W g m la c := h.lat b
theorem es_one {es : List Ent} {a : List UInt8} {k : Nat} (h : es.map fl = [⟨nMan, a, k⟩]) : es.length = 1 ∧ es.map Ent.nm = [nMan] := by
  match es, h with
  | [], h => simp at h
  | _ :: _ :: _, h => simp at h
  | [e], h =>
    simp only [List.map_cons, List.map_nil, List.cons.injEq, and_true] at h
    refine ⟨rfl, ?_⟩
    have : (fl e).nm = nMan := by rw [h]
    simp only [List.map_cons, List.map_nil]
    exact congrArg (fun x => [x]) this
end Go.Proofs.YtkoannkecojhmaaGreatDoor
set_option linter.unusedVariables false
set_option linter.unusedSimpArgs false
namespace Go.Proofs.YtkoannkecojhmaaGreatDoor
open Go.RowKit Go.Maps Go.Proofs.DiskMath
/-- The disk with a manifest, and perhaps a beginning of a new one. -/
def fsM (b : List UInt8) : Option (List UInt8 × Nat) → List Fl
  | none => [⟨nMan, b, b.length⟩]
  | some (d, k) => [⟨nMan, b, b.length⟩, ⟨nNew, d, k⟩]
def OkL : Option (List UInt8 × Nat) → Prop
  | none => True
  | some (d, k) => k ≤ d.length ∧ d.length ≤ 100000
theorem fsM_some (b d : List UInt8) (k : Nat) : fsM b (some (d, k)) = fsO (some b) ++ [⟨nNew, d, k⟩] := rfl
theorem fsM_none (b : List UInt8) : fsM b none = fsO (some b) := rfl
/-- The power is on. -/
def On (c : Ctl) : Prop := c.off = false
theorem On.ck {c : Ctl} (h : On c) {n : List UInt8} (hn : isNm n = true) : ckE c n = 0 := by unfold ckE; rw [show c.off = false from h, hn]; rfl
theorem on_tick {c : Ctl} (hl : c.left ≠ 1) : On (tick c) := by
  show (c.left == 1) = false
  exact beq_false_of_ne hl
theorem off_tick {c : Ctl} (hl : c.left = 1) : (tick c).off = true := by
  show (c.left == 1) = true
  rw [hl]; rfl
theorem ok_no {c : Ctl} (hl : c.left ≠ 1) : okE c = 0 := by unfold okE; rw [if_neg hl]
theorem ok_cut {c : Ctl} (hl : c.left = 1) : okE c = 45 := by unfold okE; rw [if_pos hl]
theorem done_on {c : Ctl} (hl : c.left ≠ 1) : doneC c = true := by unfold doneC; rw [beq_false_of_ne hl]; simp
theorem clr_none {b : List UInt8} {c : Ctl} (h : On c) : clrF (fsM b none) c = (0, fsM b none, c) := by
  unfold clrF fdF
  rw [if_pos (h.ck isNew), fsM_none, find_new]
  rfl
theorem clr_some {b d : List UInt8} {k : Nat} {c : Ctl} (h : On c) : clrF (fsM b (some (d, k))) c = (okE c, if doneC c then fsM b none else fsM b (some (d, k)), tick c) := by
  unfold clrF fdF
  rw [if_pos (h.ck isNew), fsM_some, find_newN]
  simp only []
  rw [if_neg (by decide)]
  unfold deleteF fdF
  rw [if_pos (h.ck isNew), find_newN, del_new]
  rfl
theorem create_new {b : List UInt8} {c : Ctl} (h : On c) : createF (fsM b none) c nNew = (okE c, if doneC c then fsM b (some ([], 0)) else fsM b none, tick c) := by
  unfold createF
  rw [if_neg (by simpa using h.ck isNew), fsM_none, find_new, ins_new]
  simp only []
  rw [if_neg (by have := len_o (some b); omega)]
  rfl
theorem fill_new {b b' : List UInt8} {c : Ctl} (h : On c) (hb : b'.length ≤ 100000) (hr : b.length + b'.length ≤ c.cap) : fillF b' (fsM b (some ([], 0))) c = (okE c, fsM b (some (b', 0)), tick c) := by
  have ha : appendF (fsM b (some ([], 0))) c nNew b' = (okE c, fsM b (some (b', 0)), tick c) := by
    unfold appendF fdF
    rw [h.ck isNew, fsM_some, find_newN]
    simp only [if_true, ne_eq, not_true_eq_false, if_false, List.nil_append]
    rw [if_neg (by simp; omega), used_new, if_neg (by simp [lenO]; omega), mod_new]
    rfl
  unfold fillF
  rw [ha]
  by_cases hl : c.left = 1
  · rw [ok_cut hl]; simp
  · rw [ok_no hl]; simp
theorem sync_new {b b' : List UInt8} {c : Ctl} (h : On c) : syncF (fsM b (some (b', 0))) c nNew = (okE c, if c.left = 1 then fsM b (some (b', 0)) else fsM b (some (b', b'.length)), tick c) := by
  unfold syncF fdF
  rw [h.ck isNew, fsM_some, find_newN]
  simp only [if_true, ne_eq, not_true_eq_false, if_false]
  rw [mod_new]
  rfl
theorem rename_new {b b' : List UInt8} {c : Ctl} (h : On c) : renameF (fsM b (some (b', b'.length))) c nNew nMan = (okE c, if doneC c then fsM b' none else fsM b (some (b', b'.length)), tick c) := by
  unfold renameF fdF
  rw [h.ck isMan, h.ck isNew, fsM_some, find_newN]
  simp only [if_true, ne_eq, not_true_eq_false, if_false]
  unfold renF
  rw [del_new, del_man]
  rfl
theorem seq_yes {f : List Fl → Ctl → Res} {r : List (List Fl → Ctl → Res)} {fs : List Fl} {c : Ctl} {F : List Fl} {C : Ctl} (h : f fs c = (0, F, C)) : seqF (f :: r) fs c = seqF r F C := by
  simp only [seqF, h, if_true]
theorem seq_not {f : List Fl → Ctl → Res} {r : List (List Fl → Ctl → Res)} {fs : List Fl} {c : Ctl} {F : List Fl} {C : Ctl} (h : f fs c = (45, F, C)) : seqF (f :: r) fs c = (45, F, C) := by
  simp only [seqF, h]
  rw [if_neg (by decide)]
/-- What comes of a Store. -/
def StO (b b' : List UInt8) (r : Res) (cap : Nat) : Prop :=
  (r.1 = 0 ∧ r.2.1 = fsM b' none ∧ On r.2.2 ∧ r.2.2.cap = cap) ∨ (r.1 = 45 ∧ r.2.2.off = true ∧ r.2.2.cap = cap ∧ ((∃ lo, OkL lo ∧ r.2.1 = fsM b lo) ∨ r.2.1 = fsM b' none))
theorem seq_four (b b' : List UInt8) (c : Ctl) (h : On c) (hb : b'.length ≤ 100000) (hr : b.length + b'.length ≤ c.cap) :
    StO b b' (seqF [fun fs c => createF fs c nNew, fillF b', fun fs c => syncF fs c nNew, fun fs c => renameF fs c nNew nMan] (fsM b none) c) c.cap := by
  have h1 := create_new (b := b) h
  by_cases l1 : c.left = 1
  · rw [ok_cut l1] at h1
    rw [seq_not h1]
    refine .inr ⟨rfl, off_tick l1, rfl, .inl ?_⟩
    cases hd : doneC c
    · exact ⟨none, trivial, by simp⟩
    · exact ⟨some ([], 0), ⟨Nat.le_refl _, Nat.zero_le _⟩, by simp⟩
  · rw [ok_no l1, done_on l1, if_pos rfl] at h1
    rw [seq_yes h1]
    have o1 := on_tick l1
    have h2 := fill_new (b := b) o1 hb hr
    by_cases l2 : (tick c).left = 1
    · rw [ok_cut l2] at h2
      rw [seq_not h2]
      exact .inr ⟨rfl, off_tick l2, rfl, .inl ⟨some (b', 0), ⟨Nat.zero_le _, hb⟩, rfl⟩⟩
    · rw [ok_no l2] at h2
      rw [seq_yes h2]
      have o2 := on_tick l2
      have h3 := sync_new (b := b) (b' := b') o2
      by_cases l3 : (tick (tick c)).left = 1
      · rw [ok_cut l3, if_pos l3] at h3
        rw [seq_not h3]
        exact .inr ⟨rfl, off_tick l3, rfl, .inl ⟨some (b', 0), ⟨Nat.zero_le _, hb⟩, rfl⟩⟩
      · rw [ok_no l3, if_neg l3] at h3
        rw [seq_yes h3]
        have o3 := on_tick l3
        have h4 := rename_new (b := b) (b' := b') o3
        by_cases l4 : (tick (tick (tick c))).left = 1
        · rw [ok_cut l4] at h4
          rw [seq_not h4]
          refine .inr ⟨rfl, off_tick l4, rfl, ?_⟩
          cases hd : doneC (tick (tick (tick c)))
          · exact .inl ⟨some (b', b'.length), ⟨Nat.le_refl _, hb⟩, by simp⟩
          · exact .inr (by simp)
        · rw [ok_no l4, done_on l4, if_pos rfl] at h4
          rw [seq_yes h4]
          exact .inl ⟨rfl, rfl, on_tick l4, rfl⟩
theorem st_any (b : List UInt8) (lo : Option (List UInt8 × Nat)) (m : Mf) (c : Ctl) (h : On c) (hlo : OkL lo) (hm : chE m = 0) (hb : (enT m).size ≤ 100000) (hr : b.length + (enT m).size ≤ c.cap) :
    StO b (enT m).data.toList (stR (fsM b lo) c m) c.cap := by
  have hb' : (enT m).data.toList.length ≤ 100000 := by rw [nm_size]; exact hb
  have hr' : b.length + (enT m).data.toList.length ≤ c.cap := by rw [nm_size]; exact hr
  unfold stR
  rw [if_neg (by rw [show c.off = false from h]; decide), if_pos hm]
  unfold opsF
  cases lo with
  | none =>
    rw [seq_yes (clr_none h)]
    exact seq_four b _ c h hb' hr'
  | some x =>
    obtain ⟨d, k⟩ := x
    have h1 := clr_some (b := b) (d := d) (k := k) h
    by_cases l1 : c.left = 1
    · rw [ok_cut l1] at h1
      rw [seq_not h1]
      refine .inr ⟨rfl, off_tick l1, rfl, .inl ?_⟩
      cases hd : doneC c
      · exact ⟨some (d, k), hlo, by simp⟩
      · exact ⟨none, trivial, by simp⟩
    · rw [ok_no l1, done_on l1, if_pos rfl] at h1
      rw [seq_yes h1]
      exact seq_four b _ (tick c) (on_tick l1) hb' hr'
/-- What a crash leaves. -/
theorem crash_M (b : List UInt8) (lo : Option (List UInt8 × Nat)) (hlo : OkL lo) (keep : Int) (sp : UInt8) :
    ∃ lo', OkL lo' ∧ ((fsM b lo).map (cutF [(tNew, keep, sp), (tMan, keep, sp)])).map (fun f => loseF f 0 0) = fsM b lo' := by
  have hman : ∀ (k : Int) (s : UInt8), loseF ⟨nMan, b, b.length⟩ k s = ⟨nMan, b, b.length⟩ := fun k s => by
    unfold loseF
    simp only [Nat.sub_self, Nat.min_zero, Nat.add_zero]
    unfold loseL
    rw [if_pos rfl, List.take_length]
  have hcm : cutF [(tNew, keep, sp), (tMan, keep, sp)] ⟨nMan, b, b.length⟩ = ⟨nMan, b, b.length⟩ := by
    unfold cutF
    simp only [List.foldl_cons, List.foldl_nil]
    rw [if_neg (show ¬ (tNew.data.toList = nMan) from fun e => ne_mn e.symm), if_pos (show ([109, 97, 110, 105, 102, 101, 115, 116] : List UInt8) = nMan from rfl), hman]
  cases lo with
  | none =>
    refine ⟨none, trivial, ?_⟩
    simp only [fsM, List.map_cons, List.map_nil, hcm, hman]
  | some x =>
    obtain ⟨d, k⟩ := x
    obtain ⟨hk, hd⟩ := hlo
    have hcn : cutF [(tNew, keep, sp), (tMan, keep, sp)] ⟨nNew, d, k⟩ = loseF ⟨nNew, d, k⟩ keep sp := by
      unfold cutF
      simp only [List.foldl_cons, List.foldl_nil]
      rw [if_pos (show ([109, 97, 110, 105, 102, 101, 115, 116, 46, 110, 101, 119] : List UInt8) = nNew from rfl), if_neg (show ¬ (([109, 97, 110, 105, 102, 101, 115, 116] : List UInt8) = (loseF ⟨nNew, d, k⟩ keep sp).nm) from ne_mn)]
    have hl1 : (loseL d k (min keep.toNat (d.length - k)) sp).length = k + min keep.toNat (d.length - k) := loseL_len _ _ _ _ (by omega)
    refine ⟨some (loseL (loseL d k (min keep.toNat (d.length - k)) sp) (k + min keep.toNat (d.length - k)) 0 0, k + min keep.toNat (d.length - k)), ⟨?_, ?_⟩, ?_⟩
    · rw [loseL_len _ _ _ _ (by omega)]; omega
    · rw [loseL_len _ _ _ _ (by omega)]; omega
    · simp only [fsM, List.map_cons, List.map_nil, hcm, hman, hcn]
      unfold loseF
      simp
/-- Load with the power on. -/
theorem ld_on (b : List UInt8) (lo : Option (List UInt8 × Nat)) (m : Mf) (c : Ctl) (h : On c) (hm : chE m = 0) (hb : b = (enT m).data.toList) : ldF (fsM b lo) c = .ok m := by
  unfold ldF fdF
  rw [h.ck isMan]
  have hf : findF (fsM b lo) nMan = some ⟨nMan, b, b.length⟩ := by
    cases lo with
    | none => simp [fsM, findF]
    | some x => obtain ⟨d, k⟩ := x; simp [fsM, findF]
  rw [hf]
  simp only [if_true, ne_eq, not_true_eq_false, if_false]
  rw [dec_enc hm _ (by rw [hb])]
end Go.Proofs.YtkoannkecojhmaaGreatDoor
set_option linter.unusedVariables false
set_option linter.unusedSimpArgs false
namespace Go.Proofs.YtkoannkecojhmaaGreatDoor
open Go.RowKit
/-- What is kept while runs are held against each other. -/
def SmI (wb : World) (n : Nat) (u : Value) (wr : World) : Prop := ∃ i : Nat, u = .int .i64 i ∧ i ≤ n ∧ Below wb.heap.size wb wr
set_option maxHeartbeats 8000000 in
set_option maxRecDepth 100000 in
theorem same_ne (a b : Mf) (la lb : Option Addr) (c d : Nat) (w : World) (hA : LAt w la a.rs) (hB : LAt w lb b.rs) (hc : a.rs.length ≤ c) (hd : b.rs.length ≤ d) (hs : a.rs.length < 4611686018427387904) (hl : a.rs.length = b.rs.length) :
    Calls Tryz.prog 14 #[.agg (mfC a la c).toArray, .agg (mfC b lb d).toArray] w fun e w' => ∃ B : Bool, e = .returned (.bool B) ∧ Below w.heap.size w w' := by
  obtain ⟨wa, hwa⟩ : ∃ wa, wa = w.alloc (.cells (mfC a la c).toArray 26) := ⟨_, rfl⟩
  have ba : Below w.heap.size w wa := by rw [hwa]; exact (Below.refl _ w).alloc (Nat.le_refl _) _
  have sza : wa.heap.size = w.heap.size + 1 := by rw [hwa]; simp
  have SA : SAt wa w.heap.size (mfC a la c) := by rw [hwa]; exact SAt.new w _ _
  have hwa' : w.alloc (.cells (mfC a la c).toArray 26) = wa := hwa.symm
  obtain ⟨wb, hwb⟩ : ∃ wb, wb = wa.alloc (.cells (mfC b lb d).toArray 26) := ⟨_, rfl⟩
  have bb : Below wa.heap.size wa wb := by rw [hwb]; exact (Below.refl _ wa).alloc (Nat.le_refl _) _
  have SB : SAt wb (w.heap.size + 1) (mfC b lb d) := by rw [← sza, hwb]; exact SAt.new wa _ _
  have hwb' : wa.alloc (.cells (mfC b lb d).toArray 26) = wb := hwb.symm
  have SA2 := SA.lat bb
  have b0 := chain ba bb (Nat.le_refl _)
  have HA := Hid.mk (hA.below b0)
  have HB := Hid.mk (hB.below b0)
  have mixed : Tryz.prog.follows Departure.mixedOrders = true := by kernel_rfl
  obtain ⟨n, hn⟩ : ∃ n, n = a.rs.length := ⟨_, rfl⟩
  simp only [mf7] at SA2 SB hwa' hwb' ⊢
  rw [← hl, ← hn] at SB hwb' ⊢
  rw [← hn] at SA2 hwa'
  have a0 := SA2 0 _ rfl
  have a1 := SA2 1 _ rfl
  have a2 := SA2 2 _ rfl
  have a3 := SA2 3 _ rfl
  have a4 := SA2 4 _ rfl
  have a5 := SA2 5 _ rfl
  have a6 := SA2 6 _ rfl
  have c0 := SB 0 _ rfl
  have c1 := SB 1 _ rfl
  have c2 := SB 2 _ rfl
  have c3 := SB 3 _ rfl
  have c4 := SB 4 _ rfl
  have c5 := SB 5 _ rfl
  have c6 := SB 6 _ rfl
  have HN := Hid.mk (And.intro hn (And.intro hl (And.intro hs b0)))
  obtain ⟨w1, h1, d1, s1, x1, j1, r1⟩ := a
  obtain ⟨w2, h2, d2, s2, x2, j2, r2⟩ := b
  dsimp only at *
  clear hwa hwb SA SB SA2 hA hB ba bb hn hl hs hc hd
  go_enter Tryz.func14, Tryz.ntmps14
  go_wp2
  all_goals first | (go_ret; exact ⟨false, rfl, HN.out.2.2.2⟩) | skip
  clear hwa' hwb'
  subst_vars
  clear a0 a1 a2 a3 a4 a5 c0 c1 c2 c3 c4 c5 sza
  go_loopw [5] (fun u wr => SmI wb n u wr) (fun u _ => n - (intOf u).toNat)
  case atStart => exact ⟨0, rfl, Nat.zero_le _, Below.refl _ _⟩
  case round =>
    obtain ⟨i, rfl, hi, bw⟩ := hrel
    have q6 := cell_lat bw a6
    by_cases hlt : i < n
    · have hlt1 : i < r1.length := by have := HN.out.1; omega
      have hlt2 : i < r2.length := by have := HN.out.1; have := HN.out.2.1; omega
      have hne : r1 ≠ [] := by intro h; rw [h] at hlt1; simp at hlt1
      have hne2 : r2 ≠ [] := by intro h; rw [h] at hlt2; simp at hlt2
      obtain ⟨g, off, rfl, hra⟩ := (HA.out.below bw.drew).at' hne
      obtain ⟨g2, off2, rfl, hra2⟩ := (HB.out.below bw.drew).at' hne2
      obtain ⟨x0, x1, x2, x3⟩ := row_ru hra i hlt1
      obtain ⟨y0, y1, y2, y3⟩ := row_ru hra2 i hlt2
      have q6 := cell_lat bw.drew a6
      have p6 := cell_lat bw.drew c6
      obtain ⟨R, hR⟩ : ∃ R, R = r1[i] := ⟨_, rfl⟩
      obtain ⟨R2, hR2⟩ : ∃ R2, R2 = r2[i] := ⟨_, rfl⟩
      rw [← hR] at x0 x1 x2 x3
      rw [← hR2] at y0 y1 y2 y3
      have bwd := bw.drew
      have hend : n - (intOf (.int .i64 ((i : Int) + 1))).toNat < n - (intOf (.int .i64 (i : Int))).toNat := by simp only [intOf]; omega
      have i1 : (i : Int) < (n : Int) := by omega
      have i2 : 0 ≤ (i : Int) := by omega
      have hn62 : n < 4611686018427387904 := by have := HN.out.1; have := HN.out.2.2.1; omega
      clear hR hR2 hra hra2 HA HB hne hne2 hlt1 hlt2
      obtain ⟨z1, z2, z3, z4⟩ := R
      obtain ⟨v1, v2, v3, v4⟩ := R2
      dsimp only at x0 x1 x2 x3 y0 y1 y2 y3
      by_cases e1 : z1 = v1
      · subst e1
        by_cases e2 : z2 = v2
        · subst e2
          by_cases e3 : z3 = v3
          · subst e3
            by_cases e4 : z4 = v4
            · subst e4
              go_wp2
              go_region_o
              go_wp2
              exact ⟨⟨i + 1, rfl, hlt, bwd⟩, hend⟩
            · skip
              go_wp2
              go_region_o
              go_wp2
              go_ret
              exact ⟨false, rfl, chain HN.out.2.2.2 bwd (Nat.le_refl _)⟩
          · skip
            go_wp2
            go_region_o
            go_wp2
            go_ret
            exact ⟨false, rfl, chain HN.out.2.2.2 bwd (Nat.le_refl _)⟩
        · skip
          go_wp2
          go_region_o
          go_wp2
          go_ret
          exact ⟨false, rfl, chain HN.out.2.2.2 bwd (Nat.le_refl _)⟩
      · skip
        go_wp2
        go_region_o
        go_wp2
        go_ret
        exact ⟨false, rfl, chain HN.out.2.2.2 bwd (Nat.le_refl _)⟩
    · have e : i = n := by omega
      subst e
      clear HA HB
      go_wp2
      go_ret
      exact ⟨true, rfl, chain HN.out.2.2.2 bw (Nat.le_refl _)⟩
set_option maxHeartbeats 8000000 in
set_option maxRecDepth 100000 in
theorem same_len (a b : Mf) (la lb : Option Addr) (c d : Nat) (w : World) (hl : a.rs.length ≠ b.rs.length) :
    Calls Tryz.prog 14 #[.agg (mfC a la c).toArray, .agg (mfC b lb d).toArray] w fun e w' => ∃ B : Bool, e = .returned (.bool B) ∧ Below w.heap.size w w' := by
  obtain ⟨wa, hwa⟩ : ∃ wa, wa = w.alloc (.cells (mfC a la c).toArray 26) := ⟨_, rfl⟩
  have ba : Below w.heap.size w wa := by rw [hwa]; exact (Below.refl _ w).alloc (Nat.le_refl _) _
  have sza : wa.heap.size = w.heap.size + 1 := by rw [hwa]; simp
  have SA : SAt wa w.heap.size (mfC a la c) := by rw [hwa]; exact SAt.new w _ _
  have hwa' : w.alloc (.cells (mfC a la c).toArray 26) = wa := hwa.symm
  obtain ⟨wb, hwb⟩ : ∃ wb, wb = wa.alloc (.cells (mfC b lb d).toArray 26) := ⟨_, rfl⟩
  have bb : Below wa.heap.size wa wb := by rw [hwb]; exact (Below.refl _ wa).alloc (Nat.le_refl _) _
  have SB : SAt wb (w.heap.size + 1) (mfC b lb d) := by rw [← sza, hwb]; exact SAt.new wa _ _
  have hwb' : wa.alloc (.cells (mfC b lb d).toArray 26) = wb := hwb.symm
  have SA2 := SA.lat bb
  have b0 := chain ba bb (Nat.le_refl _)
  obtain ⟨n, hn⟩ : ∃ n, n = a.rs.length := ⟨_, rfl⟩
  obtain ⟨m, hm⟩ : ∃ m, m = b.rs.length := ⟨_, rfl⟩
  simp only [mf7] at SA2 SB hwa' hwb' ⊢
  rw [← hn, ← hm] at hl
  rw [← hm] at SB hwb' ⊢
  rw [← hn] at SA2 hwa' ⊢
  have a0 := SA2 0 _ rfl
  have a1 := SA2 1 _ rfl
  have a2 := SA2 2 _ rfl
  have a3 := SA2 3 _ rfl
  have a4 := SA2 4 _ rfl
  have a5 := SA2 5 _ rfl
  have a6 := SA2 6 _ rfl
  have c0 := SB 0 _ rfl
  have c1 := SB 1 _ rfl
  have c2 := SB 2 _ rfl
  have c3 := SB 3 _ rfl
  have c4 := SB 4 _ rfl
  have c5 := SB 5 _ rfl
  have c6 := SB 6 _ rfl
  have HN := Hid.mk b0
  have l1 : ((n : Int) != (m : Int)) = true := by simp; omega
  have l2 : ((n : Int) == (m : Int)) = false := beq_false_of_ne (by omega)
  have l3 : (n == m) = false := beq_false_of_ne hl
  obtain ⟨w1, h1, d1, s1, x1, j1, r1⟩ := a
  obtain ⟨w2, h2, d2, s2, x2, j2, r2⟩ := b
  dsimp only at *
  clear hwa hwb SA SB SA2 ba bb hn hm b0 hl
  go_enter Tryz.func14, Tryz.ntmps14
  go_wp2
  all_goals (go_ret; exact ⟨false, rfl, HN.out⟩)
/-- The law's same. -/
theorem same_some (a b : Mf) (la lb : Option Addr) (c d : Nat) (w : World) (hA : LAt w la a.rs) (hB : LAt w lb b.rs) (hc : a.rs.length ≤ c) (hd : b.rs.length ≤ d) (hs : a.rs.length < 4611686018427387904) :
    Calls Tryz.prog 14 #[.agg (mfC a la c).toArray, .agg (mfC b lb d).toArray] w fun e w' => ∃ B : Bool, e = .returned (.bool B) ∧ (a = b → B = true) ∧ Below w.heap.size w w' := by
  by_cases he : a = b
  · subst he
    exact (same_eq a la lb c d w hA hB hc hd hs).mono fun e w' h => ⟨true, h.1, fun _ => rfl, h.2⟩
  · by_cases hl : a.rs.length = b.rs.length
    · exact (same_ne a b la lb c d w hA hB hc hd hs hl).mono fun e w' ⟨B, h1, h2⟩ => ⟨B, h1, fun h => absurd h he, h2⟩
    · exact (same_len a b la lb c d w hl).mono fun e w' ⟨B, h1, h2⟩ => ⟨B, h1, fun h => absurd h he, h2⟩
end Go.Proofs.YtkoannkecojhmaaGreatDoor
set_option linter.unusedVariables false
set_option linter.unusedSimpArgs false
namespace Go.Proofs.YtkoannkecojhmaaGreatDoor
open Go.RowKit Go.ChangeShapes Go.WideShapes Go.Deep
theorem add_plain (b off j : Nat) : (⟨b, off, none⟩ : Addr).add j = ⟨b, off + j, none⟩ := by unfold Addr.add; split <;> simp_all
theorem cellsRn : Tryz.prog.cellsOf 54 = 4 := by kernel_rfl
theorem cellsMf : Tryz.prog.cellsOf 26 = 7 := by kernel_rfl
theorem cellsOp : Tryz.prog.cellsOf 23 = 3 := by kernel_rfl
theorem cellsRns : Tryz.prog.cellsOf 24 = 1 := by kernel_rfl
theorem bytesRn : Tryz.prog.bytesOf 54 = 32 := by kernel_rfl
theorem cells3 : Tryz.prog.cellsOf 3 = 1 := by kernel_rfl
theorem laidOut : laidOutB Tryz.prog = true := by kernel_rfl
theorem i64_of {n : Int} (h : (Lit.int .i64 n).wf = true) : I64 n := by
  have e1 : IntKind.i64.min = -9223372036854775808 := rfl
  have e2 : IntKind.i64.max = 9223372036854775807 := rfl
  simp [Lit.wf, e1, e2] at h
  constructor <;> omega
set_option maxRecDepth 100000 in
theorem ru_trod {H : Type} {enc : TypeId × Value → H} {W : World} {base : Nat} {spare : Nat → Bool} {held : Bool} {fuel : Nat} {cs : List Value} {x : DataW H × List MemPlace}
    (h : DataW.trod enc Tryz.prog W base spare held fuel 54 cs = some x) : ∃ e : Ru, cs = ruC e ∧ I64 e.num ∧ I64 e.lo ∧ I64 e.hi ∧ I64 e.cnt := by
  obtain ⟨xs, k, hk, hxy, hlen, hxl, hf⟩ := DataW.trod_struct Tryz.underlying54 h
  rw [cellsRn] at hlen
  match xs, hxl, cs, hlen with
  | [y0, y1, y2, y3], _, [v0, v1, v2, v3], _ =>
    have g0 := hf 0 _ rfl
    have g1 := hf 1 _ rfl
    have g2 := hf 2 _ rfl
    have g3 := hf 3 _ rfl
    simp [cells3] at g0 g1 g2 g3
    obtain ⟨z0, hz0, _, w0⟩ := DataW.trod_int Tryz.underlying3 g0
    obtain ⟨z1, hz1, _, w1⟩ := DataW.trod_int Tryz.underlying3 g1
    obtain ⟨z2, hz2, _, w2⟩ := DataW.trod_int Tryz.underlying3 g2
    obtain ⟨z3, hz3, _, w3⟩ := DataW.trod_int Tryz.underlying3 g3
    simp at hz0 hz1 hz2 hz3
    subst hz0 hz1 hz2 hz3
    exact ⟨⟨z0, z1, z2, z3⟩, rfl, i64_of w0, i64_of w1, i64_of w2, i64_of w3⟩
theorem flat_to {W : World} {b off : Nat} {l : List Ru} (h : ∀ i (hi : i < l.length) j v, (ruC l[i])[j]? = some v → W.cell? ⟨b, off + (i * 4 + j), none⟩ = some v) : RowAt W b off (l.flatMap ruC) := fun j x hx => by
  have hj : j < l.length * 4 := by rw [← flat_len4]; exact (List.getElem?_eq_some_iff.1 hx).1
  have hi : j / 4 < l.length := by omega
  have hr : j % 4 < 4 := by omega
  have e : j / 4 * 4 + j % 4 = j := by omega
  have h1 := flat_at ruC 4 ruC_len l (j / 4) (j % 4) hi hr
  rw [e, hx] at h1
  have h2 := h (j / 4) hi (j % 4) x h1.symm
  rw [e] at h2
  exact h2
set_option maxRecDepth 100000 in
/-- What a list of runs reads as. -/
theorem open_rns {H : Type} {enc : TypeId × Value → H} {W : World} {base : Nat} {spare : Nat → Bool} {held : Bool} {fuel : Nat} {cs : List Value} {x : DataW H × List MemPlace}
    (h : DataW.trod enc Tryz.prog W base spare held fuel 24 cs = some x) :
    ∃ (la : Option Addr) (l : List Ru) (c : Nat), cs = [.slice la l.length c] ∧ LAt W la l ∧ l.length ≤ c ∧ (∀ r ∈ l, I64 r.num ∧ I64 r.lo ∧ I64 r.hi ∧ I64 r.cnt) ∧ (l = [] ∨ ∃ elems sp, x.1 = .slice elems sp ∧ elems.length = l.length) := by
  rcases open_slice Tryz.underlying24 h with ⟨hcs, _⟩ | ⟨a, len, cap, m, n, D, Pl, hcs, _, hlc, _, hm, hx, hel⟩
  · exact ⟨none, [], 0, hcs, ⟨fun h => absurd rfl h⟩, Nat.le_refl _, (fun r hr => by cases hr), .inl rfl⟩
  · have hlm : len ≤ m := by rw [hm]; split <;> omega
    have each : ∀ i, i < len → ∃ e : Ru, (∀ j v, (ruC e)[j]? = some v → W.cell? ((a.add (i * 4)).add j) = some v) ∧ I64 e.num ∧ I64 e.lo ∧ I64 e.hi ∧ I64 e.cnt := by
      intro i hi
      obtain ⟨cs', h1, h2⟩ := hel i (by omega)
      rw [cellsRn] at h1
      obtain ⟨_, hlen, hcell⟩ := World.cells?_some h1
      obtain ⟨e, rfl, hw⟩ := ru_trod h2
      refine ⟨e, fun j v hv => ?_, hw⟩
      have hj : j < 4 := by have := (List.getElem?_eq_some_iff.1 hv).1; simpa [ruC] using this
      rw [hcell j hj, hv]
    haveI : Inhabited Ru := ⟨⟨0, 0, 0, 0⟩⟩
    obtain ⟨F, hF⟩ := choose_lt each
    refine ⟨some a, (List.range len).map F, cap, by simpa using hcs, ⟨fun hne => ?_⟩, by simpa using hlc, fun r hr => ?_, .inr ⟨_, _, by rw [hx], by simp⟩⟩
    · have hl0 : 0 < len := by
        rcases Nat.eq_zero_or_pos len with h0 | h0
        · subst h0; simp at hne
        · exact h0
      obtain ⟨b, off, spot⟩ := a
      have hsp : spot = none := by
        have := World.cell?_spot ((hF 0 hl0).1 0 _ rfl)
        simpa [Addr.add] using this
      subst hsp
      refine ⟨b, off, rfl, flat_to fun i hi j v hv => ?_⟩
      have hi' : i < len := by simpa using hi
      have h1 := (hF i hi').1 j v (by simpa using hv)
      rw [add_plain, add_plain, Nat.add_assoc] at h1
      exact h1
    · obtain ⟨i, hi, rfl⟩ := List.mem_map.1 hr
      exact (hF i (List.mem_range.1 hi)).2
set_option maxRecDepth 100000 in
theorem open_mf {H : Type} {enc : TypeId × Value → H} {W : World} {base b0 : Nat} {r : Reach} {spare : Nat → Bool} {held : Bool} {v : Value} {d : DataW H} {ps : List MemPlace}
    (hv : Value.okWide Tryz.prog W r b0 26 v) (h : DataW.Trod enc Tryz.prog W base spare held 26 v d ps) :
    ∃ (m : Mf) (la : Option Addr) (c : Nat), v = .agg (mfC m la c).toArray ∧ LAt W la m.rs ∧ MfW m ∧ m.rs.length ≤ c ∧ (m.rs = [] ∨ ∃ d0 d1 d2 d3 elems sp, d = .agg [d0, d1, d2, d3, .slice elems sp] ∧ elems.length = m.rs.length) := by
  obtain ⟨cs, rfl, hsz⟩ := okWide_struct Tryz.underlying26 hv
  obtain ⟨fuel, hf⟩ := h
  obtain ⟨xs, k, hk, hxy, hlen, hxl, hf⟩ := DataW.trod_struct Tryz.underlying26 hf
  rw [cellsMf] at hlen
  have hcs : (Value.agg cs).cells.toList = cs.toList := rfl
  rw [hcs] at hlen hf
  obtain ⟨cs⟩ := cs
  dsimp only at hlen hf ⊢
  match xs, hxl, cs, hlen with
  | [y0, y1, y2, y3, y4], _, [v0, v1, v2, v3, v4, v5, v6], _ =>
    have g0 := hf 0 _ rfl
    have g1 := hf 1 _ rfl
    have g2 := hf 2 _ rfl
    have g3 := hf 3 _ rfl
    have g4 := hf 4 _ rfl
    simp [cells3, cellsOp, cellsRns] at g0 g1 g2 g3 g4
    obtain ⟨xs2, k2, hk2, hxy2, hlen2, hxl2, hf2⟩ := DataW.trod_struct Tryz.underlying23 g0
    match xs2, hxl2 with
    | [z0, z1, z2], _ =>
      have q0 := hf2 0 _ rfl
      have q1 := hf2 1 _ rfl
      have q2 := hf2 2 _ rfl
      simp [cells3] at q0 q1 q2
      obtain ⟨n0, e0, _, w0⟩ := DataW.trod_int Tryz.underlying3 q0
      obtain ⟨n1, e1, _, w1⟩ := DataW.trod_int Tryz.underlying3 q1
      obtain ⟨n2, e2, _, w2⟩ := DataW.trod_int Tryz.underlying3 q2
      obtain ⟨n3, e3, _, w3⟩ := DataW.trod_int Tryz.underlying3 g1
      obtain ⟨n4, e4, _, w4⟩ := DataW.trod_int Tryz.underlying3 g2
      obtain ⟨n5, e5, _, w5⟩ := DataW.trod_int Tryz.underlying3 g3
      obtain ⟨la, l, c, e6, hL, hc, hI, hd⟩ := open_rns g4
      simp at e0 e1 e2 e3 e4 e5 e6
      subst e0 e1 e2 e3 e4 e5 e6
      refine ⟨⟨n0, n1, n2, n3, n4, n5, l⟩, la, c, rfl, hL, ⟨i64_of w0, i64_of w1, i64_of w2, i64_of w3, i64_of w4, i64_of w5, hI⟩, hc, ?_⟩
      rcases hd with h | ⟨elems, sp, h1, h2⟩
      · exact .inl h
      · right
        have hd : d = .agg [y0.1, y1.1, y2.1, y3.1, y4.1] := congrArg Prod.fst hxy
        exact ⟨y0.1, y1.1, y2.1, y3.1, elems, sp, by rw [hd, h1], h2⟩
end Go.Proofs.YtkoannkecojhmaaGreatDoor
set_option linter.unusedVariables false
set_option linter.unusedSimpArgs false
namespace Go.Proofs.YtkoannkecojhmaaGreatDoor
open Go.RowKit Go.ChangeShapes Go.WideShapes Go.Deep
/-- One Store that the law tries. -/
structure Tr where
  m : Mf
  la : Option Addr
  c : Nat
  cut : Int
  dn : Bool
  keep : Int
  sp : UInt8
def trC (t : Tr) : List Value := mfC t.m t.la t.c ++ [.int .i64 t.cut, .bool t.dn, .int .i64 t.keep, .int .u8 t.sp.toNat]
theorem trC_len (t : Tr) : (trC t).length = 11 := rfl
structure TrOk (W : World) (t : Tr) : Prop where
  row : LAt W t.la t.m.rs
  mf : MfW t.m
  cap : t.m.rs.length ≤ t.c
  len : t.m.rs.length < 4611686018427387904
  cut : -9223372036854775808 ≤ t.cut ∧ t.cut < 9223372036854775808
  keep : -9223372036854775808 ≤ t.keep ∧ t.keep < 9223372036854775808
/-- A list of tries in memory. -/
structure TsAt (W : World) (a : Option Addr) (ts : List Tr) : Prop where
  at_ : ∀ i (hi : i < ts.length), ∃ b o, a = some ⟨b, o, none⟩ ∧ ∀ k (hk : k < 11), W.cell? ⟨b, o + i * 11 + k, none⟩ = (trC ts[i])[k]?
  ok : ∀ i (hi : i < ts.length), TrOk W ts[i]
theorem TsAt.below {w W : World} {a : Option Addr} {ts : List Tr} (h : TsAt w a ts) (b : Below w.heap.size w W) : TsAt W a ts := by
  have key : ∀ {p : Addr} {v : Value}, w.cell? p = some v → W.cell? p = some v := fun hp => (b.cell (World.block_lt_of_cell? w _ hp)).trans hp
  refine ⟨fun i hi => ?_, fun i hi => ?_⟩
  · obtain ⟨bb, o, ha, hc⟩ := h.at_ i hi
    refine ⟨bb, o, ha, fun k hk => ?_⟩
    have h1 := hc k hk
    have h2 : ∃ v, (trC ts[i])[k]? = some v := ⟨(trC ts[i])[k]'(by rw [trC_len]; exact hk), by rw [List.getElem?_eq_getElem]⟩
    obtain ⟨v, h2⟩ := h2
    rw [h2] at h1 ⊢
    exact key h1
  · have := h.ok i hi
    exact ⟨this.row.below b, this.mf, this.cap, this.len, this.cut, this.keep⟩
theorem cellsTr : Tryz.prog.cellsOf 45 = 11 := by kernel_rfl
theorem cells4 : Tryz.prog.cellsOf 4 = 1 := by kernel_rfl
theorem cells5 : Tryz.prog.cellsOf 5 = 1 := by kernel_rfl
theorem trwf_u8 {z : Int} (h : (Lit.int .u8 z).wf = true) : ∃ x : UInt8, (x.toNat : Int) = z := by
  have h1 : IntKind.u8.min ≤ z ∧ z ≤ IntKind.u8.max := by simpa [Lit.wf] using h
  have e1 : IntKind.u8.min = 0 := by decide
  have e2 : IntKind.u8.max = 255 := by decide
  refine ⟨UInt8.ofNat z.toNat, ?_⟩
  simp
  omega
theorem mem_all {H : Type} {P : Program} {e : TypeId} : ∀ {l : List (DataW H)} {d : DataW H}, d ∈ l → ∀ n ∈ d.weights P e, n ∈ DataW.weightsAll P e l
  | d0 :: r, d, hd, n, hn => by
    simp only [DataW.weightsAll, List.mem_append]
    rcases List.mem_cons.1 hd with rfl | h
    · exact .inl hn
    · exact .inr (mem_all h n hn)
set_option maxRecDepth 100000 in
theorem mf_trod {H : Type} {enc : TypeId × Value → H} {W : World} {base : Nat} {spare : Nat → Bool} {held : Bool} {fuel : Nat} {cs : List Value} {x : DataW H × List MemPlace}
    (h : DataW.trod enc Tryz.prog W base spare held fuel 26 cs = some x) :
    ∃ (m : Mf) (la : Option Addr) (c : Nat), cs = mfC m la c ∧ LAt W la m.rs ∧ MfW m ∧ m.rs.length ≤ c ∧ (m.rs = [] ∨ ∃ d0 d1 d2 d3 elems sp, x.1 = .agg [d0, d1, d2, d3, .slice elems sp] ∧ elems.length = m.rs.length) := by
  obtain ⟨xs, k, hk, hxy, hlen, hxl, hf⟩ := DataW.trod_struct Tryz.underlying26 h
  rw [cellsMf] at hlen
  match xs, hxl, cs, hlen with
  | [y0, y1, y2, y3, y4], _, [v0, v1, v2, v3, v4, v5, v6], _ =>
    have g0 := hf 0 _ rfl
    have g1 := hf 1 _ rfl
    have g2 := hf 2 _ rfl
    have g3 := hf 3 _ rfl
    have g4 := hf 4 _ rfl
    simp [cells3, cellsOp, cellsRns] at g0 g1 g2 g3 g4
    obtain ⟨xs2, k2, hk2, hxy2, hlen2, hxl2, hf2⟩ := DataW.trod_struct Tryz.underlying23 g0
    match xs2, hxl2 with
    | [z0, z1, z2], _ =>
      have q0 := hf2 0 _ rfl
      have q1 := hf2 1 _ rfl
      have q2 := hf2 2 _ rfl
      simp [cells3] at q0 q1 q2
      obtain ⟨n0, e0, _, w0⟩ := DataW.trod_int Tryz.underlying3 q0
      obtain ⟨n1, e1, _, w1⟩ := DataW.trod_int Tryz.underlying3 q1
      obtain ⟨n2, e2, _, w2⟩ := DataW.trod_int Tryz.underlying3 q2
      obtain ⟨n3, e3, _, w3⟩ := DataW.trod_int Tryz.underlying3 g1
      obtain ⟨n4, e4, _, w4⟩ := DataW.trod_int Tryz.underlying3 g2
      obtain ⟨n5, e5, _, w5⟩ := DataW.trod_int Tryz.underlying3 g3
      obtain ⟨la, l, c, e6, hL, hc, hI, hd⟩ := open_rns g4
      simp at e0 e1 e2 e3 e4 e5 e6
      subst e0 e1 e2 e3 e4 e5 e6
      refine ⟨⟨n0, n1, n2, n3, n4, n5, l⟩, la, c, rfl, hL, ⟨i64_of w0, i64_of w1, i64_of w2, i64_of w3, i64_of w4, i64_of w5, hI⟩, hc, ?_⟩
      rcases hd with h | ⟨elems, sp, h1, h2⟩
      · exact .inl h
      · right
        have hd : x.1 = .agg [y0.1, y1.1, y2.1, y3.1, y4.1] := congrArg Prod.fst hxy
        exact ⟨y0.1, y1.1, y2.1, y3.1, elems, sp, by rw [hd, h1], h2⟩
set_option maxHeartbeats 1000000 in
set_option maxRecDepth 100000 in
/-- What a list of tries reads as. -/
theorem open_trs {H : Type} {enc : TypeId × Value → H} {W : World} {base : Nat} {spare : Nat → Bool} {held : Bool} {fuel : Nat} {a0 : Option Addr} {len cap : Nat} {d : DataW H} {ps : List MemPlace}
    (h : DataW.trod enc Tryz.prog W base spare held fuel 43 [.slice a0 len cap] = some (d, ps)) (hsz : ∀ n ∈ d.weights Tryz.prog 43, n ≤ reachBytes) :
    ∃ ts : List Tr, ts.length = len ∧ TsAt W a0 ts ∧ ts.length < 9223372036854775808 := by
  rcases open_slice Tryz.underlying43 h with ⟨hcs, _⟩ | ⟨a, len', cap', m, n, D, Pl, hcs, _, hlc, hcm, hm, hx, hel⟩
  · simp at hcs
    exact ⟨[], hcs.2.1.symm, ⟨fun i hi => (by cases hi), fun i hi => (by cases hi)⟩, by decide⟩
  · simp at hcs
    obtain ⟨rfl, rfl, rfl⟩ := hcs
    have hlm : len ≤ m := by rw [hm]; split <;> omega
    simp only [Prod.mk.injEq] at hx
    obtain ⟨hd, hps⟩ := hx
    have each : ∀ i, i < len → ∃ t : Tr, (∀ k, k < 11 → W.cell? (a.add (i * 11 + k)) = (trC t)[k]?) ∧ TrOk W t := by
      intro i hi
      have hwi : ∀ n ∈ (D i).weights Tryz.prog 45, n ≤ reachBytes := fun n hn => hsz n (by
        rw [hd]
        unfold DataW.weights
        rw [Tryz.underlying43]
        exact List.mem_cons_of_mem _ (List.mem_append_left _ (mem_all (List.mem_map.2 ⟨i, List.mem_range.2 hi, rfl⟩) n hn)))
      obtain ⟨cs', h1, h2⟩ := hel i (by omega)
      rw [cellsTr] at h1
      obtain ⟨_, hlen, hcell⟩ := World.cells?_some h1
      obtain ⟨xs, k, hk, hxy, _, hxl, hf⟩ := DataW.trod_struct Tryz.underlying45 h2
      match xs, hxl, cs', hlen with
      | [y0, y1, y2, y3, y4], _, [v0, v1, v2, v3, v4, v5, v6, v7, v8, v9, v10], _ =>
        have g0 := hf 0 _ rfl
        have g1 := hf 1 _ rfl
        have g2 := hf 2 _ rfl
        have g3 := hf 3 _ rfl
        have g4 := hf 4 _ rfl
        simp [cellsMf, cells3, cells4, cells5] at g0 g1 g2 g3 g4
        obtain ⟨mm, la, c, e0, hL, hW, hc, hdd⟩ := mf_trod g0
        obtain ⟨z1, e1, _, w1⟩ := DataW.trod_int Tryz.underlying3 g1
        obtain ⟨z2, e2, _⟩ := DataW.trod_bool Tryz.underlying4 g2
        obtain ⟨z3, e3, _, w3⟩ := DataW.trod_int Tryz.underlying3 g3
        obtain ⟨z4, e4, _, w4⟩ := DataW.trod_int Tryz.underlying5 g4
        simp at e1 e2 e3 e4
        subst e1 e2 e3 e4
        obtain ⟨ub, hub⟩ := trwf_u8 w4
        have hlr : mm.rs.length < 4611686018427387904 := by
          rcases hdd with h | ⟨x0, x1, x2, x3, elems, sp, hy, hl⟩
          · rw [h]; decide
          · have hDi : D i = .agg [y0.1, y1.1, y2.1, y3.1, y4.1] := congrArg Prod.fst hxy
            have := hwi ((elems.length + sp.length) * Tryz.prog.bytesOf 54) (by
              rw [hDi, hy]
              simp [DataW.weights, DataW.weightsEach, Tryz.underlying45, Tryz.underlying26, Tryz.underlying24])
            rw [bytesRn] at this
            have h3 : reachBytes = 140737488351232 := by decide
            omega
        refine ⟨⟨mm, la, c, z1, z2, z3, ub⟩, fun k hk => ?_, ⟨hL, hW, hc, hlr, by have := i64_of w1; unfold I64 at this; exact ⟨by dsimp only; omega, by dsimp only; omega⟩, by have := i64_of w3; unfold I64 at this; exact ⟨by dsimp only; omega, by dsimp only; omega⟩⟩⟩
        have e := hcell k (by omega)
        have ad : (a.add (i * 11)).add k = a.add (i * 11 + k) := by unfold Addr.add; split <;> split <;> simp_all <;> omega
        rw [ad] at e
        rw [e]
        unfold trC
        dsimp only
        rw [← e0, hub]
        rfl
    haveI : Inhabited Tr := ⟨⟨⟨0, 0, 0, 0, 0, 0, []⟩, none, 0, 0, false, 0, 0⟩⟩
    obtain ⟨F, hF⟩ := choose_lt each
    refine ⟨(List.range len).map F, by simp, ⟨fun i hi => ?_, fun i hi => ?_⟩, by simp; unfold maxLen at hcm; omega⟩
    · have hi' : i < len := by simpa using hi
      obtain ⟨b, off, spot⟩ := a
      have hsp : spot = none := by
        have h0 := (hF 0 (by omega)).1 0 (by omega)
        have := World.cell?_spot h0
        simpa [Addr.add] using this
      subst hsp
      refine ⟨b, off, rfl, fun k hk => ?_⟩
      have h1 := (hF i hi').1 k hk
      rw [add_plain] at h1
      rw [Nat.add_assoc, h1]
      simp
    · have hi' : i < len := by simpa using hi
      simpa using (hF i hi').2
end Go.Proofs.YtkoannkecojhmaaGreatDoor
set_option linter.unusedVariables false
set_option linter.unusedSimpArgs false
namespace Go.Proofs.YtkoannkecojhmaaGreatDoor
open Go.RowKit Go.Maps Go.Proofs.DiskMath
/-- A block beside the disk, and beside E. -/
structure Held (W : World) (p mb : Nat) (es : List Ent) (E : Nat → Prop) (k : Nat) (o : Obj) : Prop where
  at_ : W.heap[k]? = some o
  nf : ¬ Foot p mb es k
  ne : ¬ E k
/-- A row of runs beside the disk, and beside E. -/
structure LR (W : World) (p mb : Nat) (es : List Ent) (E : Nat → Prop) (la : Option Addr) (l : List Ru) : Prop where
  row : LAt W la l
  nf : l ≠ [] → ∀ a, la = some a → ¬ Foot p mb es a.block ∧ ¬ E a.block
theorem Held.stay {W W' : World} {p mb : Nat} {es es' : List Ent} {E G : Nat → Prop} {k : Nat} {o : Obj} (h : Held W p mb es E k o) (s : Stay G W W') (hG : ∀ k, G k → Foot p mb es k ∨ E k) (hF : ∀ k, Foot p mb es' k → Foot p mb es k ∨ W.heap.size ≤ k) : Held W' p mb es' E k o := by
  have hlt := (Array.getElem?_eq_some_iff.1 h.at_).1
  refine ⟨(s.block k hlt fun hg => ?_).trans h.at_, fun hf => ?_, h.ne⟩
  · rcases hG k hg with h1 | h1
    · exact h.nf h1
    · exact h.ne h1
  · rcases hF k hf with h1 | h1
    · exact h.nf h1
    · omega
theorem LR.stay {W W' : World} {p mb : Nat} {es es' : List Ent} {E G : Nat → Prop} {la : Option Addr} {l : List Ru} (h : LR W p mb es E la l) (s : Stay G W W') (hG : ∀ k, G k → Foot p mb es k ∨ E k) (hF : ∀ k, Foot p mb es' k → Foot p mb es k ∨ W.heap.size ≤ k) : LR W' p mb es' E la l := by
  have key : l ≠ [] → ∃ g off, la = some ⟨g, off, none⟩ ∧ RowAt W g off (l.flatMap ruC) ∧ g < W.heap.size ∧ ¬ Foot p mb es g ∧ ¬ E g := fun hn => by
    obtain ⟨g, off, e, hr⟩ := h.row.at' hn
    obtain ⟨h1, h2⟩ := h.nf hn _ e
    refine ⟨g, off, e, hr, ?_, h1, h2⟩
    match l, hn with
    | x :: r, _ => exact World.block_lt_of_cell? W _ (hr 0 (.int .i64 x.num) rfl)
  refine ⟨⟨fun hn => ?_⟩, fun hn a ha => ?_⟩
  · obtain ⟨g, off, e, hr, hlt, h1, h2⟩ := key hn
    refine ⟨g, off, e, fun j x hx => ?_⟩
    exact (World.cell?_of_block (s.block g hlt fun hg => (hG g hg).elim h1 h2)).trans (hr j x hx)
  · obtain ⟨g, off, e, hr, hlt, h1, h2⟩ := key hn
    rw [e] at ha
    cases ha
    exact ⟨fun hf => (hF g hf).elim h1 (fun h3 => by omega), h2⟩
theorem LR.fresh {w W : World} {p mb : Nat} {es : List Ent} {E : Nat → Prop} {la : Option Addr} {c : Nat} {l : List Ru} (h : W.ownsRow 0 54 4 (.slice la l.length c) l.length (l.flatMap ruC)) (hf : ∀ k, (Value.slice la l.length c).ownBlock = some k → w.heap.size ≤ k) (h1 : ∀ k, Foot p mb es k → k < w.heap.size) (h2 : ∀ k, E k → k < w.heap.size) : LR W p mb es E la l :=
  ⟨(own_lat h).1, fun hn a ha => by
    subst ha
    have := hf a.block rfl
    exact ⟨fun hF => by have := h1 _ hF; omega, fun hE => by have := h2 _ hE; omega⟩⟩
/-- What lies in the two boxes of the law. -/
structure SW (w W : World) (p mb g h : Nat) (es : List Ent) (c : Ctl) (M X : Mf) (l6 : Option Addr) (c6 : Nat) (l8 : Option Addr) (c8 : Nat) : Prop where
  dk : DK W p mb es c
  ft : ∀ k, Foot p mb es k → w.heap.size ≤ k
  bl : Below w.heap.size w W
  b6 : Held W p mb es (· = h) g (.cells (mfC M l6 c6).toArray 26 (0, 0))
  b8 : Held W p mb es (· = g) h (.cells (mfC X l8 c8).toArray 26 (0, 0))
  r6 : LR W p mb es (fun k => k = g ∨ k = h) l6 M.rs
  r8 : LR W p mb es (fun k => k = g ∨ k = h) l8 X.rs
  k6 : M.rs.length ≤ c6
  k8 : X.rs.length ≤ c8
  gw : w.heap.size ≤ g
  hw : w.heap.size ≤ h
theorem SW.step {w W W' : World} {p mb g h : Nat} {es es' : List Ent} {c c' : Ctl} {M X : Mf} {l6 l8 : Option Addr} {c6 c8 : Nat} (H : SW w W p mb g h es c M X l6 c6 l8 c8) (s : Step W W' p mb es es' c') : SW w W' p mb g h es' c' M X l6 c6 l8 c8 :=
  { H with
    dk := s.dk
    ft := fun k hk => by
      rcases s.foot k hk with h1 | h1
      · exact H.ft k h1
      · exact Nat.le_trans H.bl.size h1
    bl := H.bl.trans (s.stay.toBelow (fun k hk hF => by have := H.ft k hF; omega) H.bl.size)
    b6 := H.b6.stay s.stay (fun _ h => .inl h) s.foot
    b8 := H.b8.stay s.stay (fun _ h => .inl h) s.foot
    r6 := H.r6.stay s.stay (fun _ h => .inl h) s.foot
    r8 := H.r8.stay s.stay (fun _ h => .inl h) s.foot }
theorem Held.more {W W' : World} {p mb : Nat} {es : List Ent} {E : Nat → Prop} {k : Nat} {o : Obj} (h : Held W p mb es E k o) (b : Below W.heap.size W W') : Held W' p mb es E k o :=
  h.stay (G := fun _ => False) (.below b) (fun _ h => h.elim) (fun _ h => .inl h)
theorem LR.more {W W' : World} {p mb : Nat} {es : List Ent} {E : Nat → Prop} {la : Option Addr} {l : List Ru} (h : LR W p mb es E la l) (b : Below W.heap.size W W') : LR W' p mb es E la l :=
  h.stay (G := fun _ => False) (.below b) (fun _ h => h.elim) (fun _ h => .inl h)
theorem Held.step {W W' : World} {p mb : Nat} {es es' : List Ent} {c' : Ctl} {E : Nat → Prop} {k : Nat} {o : Obj} (h : Held W p mb es E k o) (s : Step W W' p mb es es' c') : Held W' p mb es' E k o :=
  h.stay s.stay (fun _ h => .inl h) s.foot
theorem LR.step {W W' : World} {p mb : Nat} {es es' : List Ent} {c' : Ctl} {E : Nat → Prop} {la : Option Addr} {l : List Ru} (h : LR W p mb es E la l) (s : Step W W' p mb es es' c') : LR W' p mb es' E la l :=
  h.stay s.stay (fun _ h => .inl h) s.foot
theorem SW.more {w W W' : World} {p mb g h : Nat} {es : List Ent} {c : Ctl} {M X : Mf} {l6 l8 : Option Addr} {c6 c8 : Nat} (H : SW w W p mb g h es c M X l6 c6 l8 c8) (b : Below W.heap.size W W') : SW w W' p mb g h es c M X l6 c6 l8 c8 :=
  { H with dk := H.dk.below b, bl := chain H.bl b (Nat.le_refl _), b6 := H.b6.more b, b8 := H.b8.more b, r6 := H.r6.more b, r8 := H.r8.more b }
/-- A manifest stored over another. -/
def put7 (W : World) (g : Nat) (m : Mf) (la : Option Addr) (c : Nat) : World :=
  ((((((W.setCell ⟨g, 0, none⟩ (.int .i64 m.w)).setCell ⟨g, 1, none⟩ (.int .i64 m.ch)).setCell ⟨g, 2, none⟩ (.int .i64 m.md)).setCell ⟨g, 3, none⟩ (.int .i64 m.seq)).setCell ⟨g, 4, none⟩ (.int .i64 m.nx)).setCell ⟨g, 5, none⟩ (.int .i64 m.jn)).setCell ⟨g, 6, none⟩ (.slice la m.rs.length c)
theorem put7_heap {W : World} {g : Nat} {X : Mf} {l : Option Addr} {d : Nat} (h : W.heap[g]? = some (.cells (mfC X l d).toArray 26 (0, 0))) (m : Mf) (la : Option Addr) (c : Nat) : (put7 W g m la c).heap[g]? = some (.cells (mfC m la c).toArray 26 (0, 0)) := by
  unfold put7
  rw [heap_setCell_same _ g 6 _ _ _ (heap_setCell_same _ g 5 _ _ _ (heap_setCell_same _ g 4 _ _ _ (heap_setCell_same _ g 3 _ _ _ (heap_setCell_same _ g 2 _ _ _ (heap_setCell_same _ g 1 _ _ _ (heap_setCell_same _ g 0 _ _ _ h))))))]
  rfl
theorem put7_stay (W : World) (g : Nat) (m : Mf) (la : Option Addr) (c : Nat) : Stay (· = g) W (put7 W g m la c) := by
  unfold put7
  exact (((((((Stay.refl (· = g) W).setCell (p := ⟨g, 0, none⟩) (fun _ => rfl) _).setCell (p := ⟨g, 1, none⟩) (fun _ => rfl) _).setCell (p := ⟨g, 2, none⟩) (fun _ => rfl) _).setCell (p := ⟨g, 3, none⟩) (fun _ => rfl) _).setCell (p := ⟨g, 4, none⟩) (fun _ => rfl) _).setCell (p := ⟨g, 5, none⟩) (fun _ => rfl) _).setCell (p := ⟨g, 6, none⟩) (fun _ => rfl) _
theorem SW.put8 {w W : World} {p mb g h : Nat} {es : List Ent} {c : Ctl} {M X : Mf} {l6 l8 : Option Addr} {c6 c8 : Nat} (H : SW w W p mb g h es c M X l6 c6 l8 c8) {Y : Mf} {la : Option Addr} {d : Nat} (hY : LR W p mb es (fun k => k = g ∨ k = h) la Y.rs) (hd : Y.rs.length ≤ d) : SW w (put7 W h Y la d) p mb g h es c M Y l6 c6 la d :=
  have s := put7_stay W h Y la d
  { H with
    dk := H.dk.kept s fun k hk e => H.b8.nf (by subst e; exact hk)
    bl := H.bl.trans (s.toBelow (fun k hk e => by have := H.hw; omega) H.bl.size)
    b6 := H.b6.stay s (fun _ h => .inr h) (fun _ h => .inl h)
    b8 := ⟨put7_heap H.b8.at_ Y la d, H.b8.nf, H.b8.ne⟩
    r6 := H.r6.stay s (fun _ h => .inr (.inr h)) (fun _ h => .inl h)
    r8 := hY.stay s (fun _ h => .inr (.inr h)) (fun _ h => .inl h)
    k8 := hd }
theorem SW.put6 {w W : World} {p mb g h : Nat} {es : List Ent} {c : Ctl} {M X : Mf} {l6 l8 : Option Addr} {c6 c8 : Nat} (H : SW w W p mb g h es c M X l6 c6 l8 c8) : SW w (put7 W g X l8 c8) p mb g h es c X X l8 c8 l8 c8 :=
  have s := put7_stay W g X l8 c8
  { H with
    dk := H.dk.kept s fun k hk e => H.b6.nf (by subst e; exact hk)
    bl := H.bl.trans (s.toBelow (fun k hk e => by have := H.gw; omega) H.bl.size)
    b6 := ⟨put7_heap H.b6.at_ X l8 c8, H.b6.nf, H.b6.ne⟩
    b8 := H.b8.stay s (fun _ h => .inr h) (fun _ h => .inl h)
    r6 := H.r8.stay s (fun _ h => .inr (.inl h)) (fun _ h => .inl h)
    r8 := H.r8.stay s (fun _ h => .inr (.inl h)) (fun _ h => .inl h)
    k6 := H.k8 }
theorem Held.put8 {W : World} {p mb g h : Nat} {es : List Ent} {k : Nat} {o : Obj} (H : Held W p mb es (fun k => k = g ∨ k = h) k o) (Y : Mf) (la : Option Addr) (d : Nat) : Held (put7 W h Y la d) p mb es (fun k => k = g ∨ k = h) k o :=
  H.stay (put7_stay W h Y la d) (fun _ h => .inr (.inr h)) (fun _ h => .inl h)
theorem LR.put8 {W : World} {p mb g h : Nat} {es : List Ent} {l : Option Addr} {r : List Ru} (H : LR W p mb es (fun k => k = g ∨ k = h) l r) (Y : Mf) (la : Option Addr) (d : Nat) : LR (put7 W h Y la d) p mb es (fun k => k = g ∨ k = h) l r :=
  H.stay (put7_stay W h Y la d) (fun _ h => .inr (.inr h)) (fun _ h => .inl h)
/-- What the disk holds between the law's Stores. -/
structure Rest (es : List Ent) (c : Ctl) (M : Mf) : Prop where
  calm : Calm c
  cap : c.cap = 1048576
  ok : chE M = 0
  fs : ∃ lo, OkL lo ∧ es.map fl = fsM (enT M).data.toList lo
theorem enT_le {m : Mf} (h : chE m = 0) : 14 ≤ (enT m).size ∧ (enT m).size ≤ 2014 := by
  have z1 := enT_size h
  have y1 := pay_len (goes_of h)
  omega
theorem rs_lt {m : Mf} (h : chE m = 0) : m.rs.length < 4611686018427387904 := by have := (goes_of h).len; omega
/-- What one armed Store and what follows it come to. -/
structure Tried (es : List Ent) (c : Ctl) (M N : Mf) (E : Int) : Prop where
  cap : c.cap = 1048576
  how : (E = 0 ∧ On c ∧ ∃ lo, OkL lo ∧ es.map fl = fsM (enT N).data.toList lo) ∨ (E = 45 ∧ c.off = true ∧ ∃ lo, OkL lo ∧ (es.map fl = fsM (enT M).data.toList lo ∨ es.map fl = fsM (enT N).data.toList lo))
theorem Rest.tried {es es' : List Ent} {c : Ctl} {M N : Mf} {n : Int} {b : Bool} (h : Rest es c M) (hN : chE N = 0) {r : Res} (hr : r = stR (es.map fl) (armC c n b) N) (hes : es'.map fl = r.2.1) : Tried es' r.2.2 M N r.1 := by
  obtain ⟨lo, hlo, hfs⟩ := h.fs
  have hon : On (armC c n b) := by unfold armC; rw [h.calm.1]; rfl
  have hcap : (armC c n b).cap = 1048576 := by unfold armC; rw [h.calm.1]; exact h.cap
  have e1 := enT_le h.ok
  have e2 := enT_le hN
  have hs := st_any (enT M).data.toList lo N (armC c n b) hon hlo hN (by omega) (by rw [nm_size, hcap]; omega)
  rw [hcap, ← hfs, ← hr] at hs
  rcases hs with ⟨h1, h2, h3, h4⟩ | ⟨h1, h2, h3, ⟨lo', h4, h5⟩ | h5⟩
  · exact ⟨h4, .inl ⟨h1, h3, none, trivial, by rw [hes, h2]⟩⟩
  · exact ⟨h3, .inr ⟨h1, h2, lo', h4, .inl (by rw [hes, h5])⟩⟩
  · exact ⟨h3, .inr ⟨h1, h2, none, trivial, .inr (by rw [hes, h5])⟩⟩
theorem arm0_calm {c : Ctl} (h : On c) : Calm (armC c 0 false) ∧ (armC c 0 false).cap = c.cap := by
  unfold armC; rw [show c.off = false from h]; exact ⟨⟨rfl, rfl⟩, rfl⟩
theorem arm0_off {c : Ctl} (h : c.off = true) : armC c 0 false = c := by unfold armC; rw [h]; rfl
theorem crash_calm (c : Ctl) : Calm (crashC c) ∧ (crashC c).cap = c.cap := ⟨⟨rfl, rfl⟩, rfl⟩
theorem LR.widen {W : World} {p mb : Nat} {es : List Ent} {E E' : Nat → Prop} {la : Option Addr} {l : List Ru} (h : LR W p mb es E la l) (hE : ∀ k, E' k → E k ∨ W.heap.size ≤ k) : LR W p mb es E' la l := by
  refine ⟨h.row, fun hn a ha => ?_⟩
  obtain ⟨h1, h2⟩ := h.nf hn a ha
  refine ⟨h1, fun h3 => ?_⟩
  rcases hE _ h3 with h4 | h4
  · exact h2 h4
  · obtain ⟨g, off, e, hr⟩ := h.row.at' hn
    rw [e] at ha
    cases ha
    have hlt : g < W.heap.size := by
      match l, hn with
      | x :: r, _ => exact World.block_lt_of_cell? W _ (hr 0 (.int .i64 x.num) rfl)
    have h4' : W.heap.size ≤ g := h4
    omega
theorem SW.start {w W : World} {p mb g : Nat} {es : List Ent} {c : Ctl} {M X : Mf} {l6 l8 : Option Addr} {c6 c8 : Nat} (dk : DK W p mb es c) (ft : ∀ k, Foot p mb es k → w.heap.size ≤ k) (bl : Below w.heap.size w W) (b6 : Held W p mb es (fun _ => False) g (.cells (mfC M l6 c6).toArray 26 (0, 0)))
    (r6 : LR W p mb es (· = g) l6 M.rs) (k6 : M.rs.length ≤ c6) (r8 : LR W p mb es (· = g) l8 X.rs) (k8 : X.rs.length ≤ c8) (gw : w.heap.size ≤ g) : SW w (W.alloc (.cells (mfC X l8 c8).toArray 26)) p mb g W.heap.size es c M X l6 c6 l8 c8 := by
  have b : Below W.heap.size W (W.alloc (.cells (mfC X l8 c8).toArray 26)) := (Below.refl _ W).alloc (Nat.le_refl _) _
  have hlt := (Array.getElem?_eq_some_iff.1 b6.at_).1
  have wid : ∀ k, (k = g ∨ k = W.heap.size) → k = g ∨ W.heap.size ≤ k := fun k h => h.elim .inl fun e => .inr (by omega)
  exact { dk := dk.below b, ft := ft, bl := chain bl b (Nat.le_refl _)
          b6 := ⟨(b6.more b).at_, b6.nf, fun e => by have e' : g = W.heap.size := e; omega⟩
          b8 := ⟨heap_alloc_new W _, fun hF => by have := dk.lt hF; omega, fun e => by have e' : W.heap.size = g := e; omega⟩
          r6 := (r6.widen wid).more b, r8 := (r8.widen wid).more b, k6 := k6, k8 := k8, gw := gw, hw := bl.size }
/-- The last Store: the power stays. -/
theorem st_last (b : List UInt8) (lo : Option (List UInt8 × Nat)) (m : Mf) (c : Ctl) (h : Calm c) (hm : chE m = 0) (hb : (enT m).size ≤ 100000) (hr : b.length + (enT m).size ≤ c.cap) :
    ∃ c', stR (fsM b lo) c m = (0, fsM (enT m).data.toList none, c') ∧ Calm c' := by
  cases lo with
  | none =>
    obtain ⟨c', h1, h2, -⟩ := st_room (some b) m c h hm hb hr
    exact ⟨c', h1, h2⟩
  | some x =>
    obtain ⟨d, k⟩ := x
    obtain ⟨c', h1, h2, -⟩ := seq_room (some b) (enT m).data.toList (tick c) h.tick (by rw [nm_size]; omega) (by rw [nm_size]; exact hr)
    refine ⟨c', ?_, h2⟩
    unfold stR
    rw [if_neg (by rw [h.1]; decide), if_pos hm]
    have h3 := clr_some (b := b) (d := d) (k := k) (c := c) h.1
    rw [h.ok, h.done, if_pos rfl] at h3
    unfold opsF at h1 ⊢
    rw [seq_yes h3]
    rw [← fsM_none, seq_yes (clr_none (b := b) h.tick.1)] at h1
    exact h1
theorem cuts_at {V : World} {p mb : Nat} {es : List Ent} {c : Ctl} {T : TypeId} (hd : DK V p mb es c) (keep : Int) (sp : UInt8) : ∀ W, Stay (Foot p mb es) (V.alloc (.cells #[.string tNew, .int .i64 keep, .int .u8 sp.toNat, .string tMan, .int .i64 keep, .int .u8 sp.toNat] T)) W → CutsAt W (some ⟨V.heap.size, 0, none⟩) [(tNew, keep, sp), (tMan, keep, sp)] := fun W s => by
  have hb := heap_alloc_new V (.cells #[.string tNew, .int .i64 keep, .int .u8 sp.toNat, .string tMan, .int .i64 keep, .int .u8 sp.toNat] T)
  have hb' := (s.block V.heap.size (Array.getElem?_eq_some_iff.1 hb).1 (fun hF => by have := hd.lt hF; omega)).trans hb
  intro j hj
  match j, hj with
  | 0, _ => exact ⟨V.heap.size, 0, rfl, by simp [World.cell?, hb'], by simp [World.cell?, hb'], by simp [World.cell?, hb']⟩
  | 1, _ => exact ⟨V.heap.size, 0, rfl, by simp [World.cell?, hb'], by simp [World.cell?, hb'], by simp [World.cell?, hb']⟩
theorem tcells {W : World} {k : Nat} {t : Tr} (h : W.heap[k]? = some (.cells (trC t).toArray 45 (0, 0))) :
    W.cell? ⟨k, 7, none⟩ = some (.int .i64 t.cut) ∧ W.cell? ⟨k, 8, none⟩ = some (.bool t.dn) ∧ W.cell? ⟨k, 9, none⟩ = some (.int .i64 t.keep) ∧ W.cell? ⟨k, 10, none⟩ = some (.int .u8 t.sp.toNat) := by
  simp only [trC, mf7] at h
  exact ⟨by simp [World.cell?, h], by simp [World.cell?, h], by simp [World.cell?, h], by simp [World.cell?, h]⟩
def zM : Mf := ⟨0, 0, 0, 3, 77, 0, []⟩
theorem zM_w : MfW zM := ⟨by unfold I64 zM; decide, by unfold I64 zM; decide, by unfold I64 zM; decide, by unfold I64 zM; decide, by unfold I64 zM; decide, by unfold I64 zM; decide, fun r hr => by cases hr⟩
end Go.Proofs.YtkoannkecojhmaaGreatDoor
