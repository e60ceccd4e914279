/-
  DERIVED. What each write answers and does, as a function of what the disk tells.
-/
import Derived.Test.YtkoannkecojhmaaGreatDoorDOps3
import Derived.Test.YtkoannkecojhmaaGreatDoorDArm
import Derived.Test.YtkoannkecojhmaaGreatDoorDCrash
set_option linter.unusedVariables false
set_option linter.unusedSimpArgs false
set_option linter.unnecessarySimpa false
namespace Go.Proofs.YtkoannkecojhmaaGreatDoor
open Go.RowKit Go.Maps Go.Proofs.DiskMath
def findF (fs : List Fl) (n : List UInt8) : Option Fl := fs.find? fun f => f.nm == n
def insF (x : Fl) : List Fl → List Fl
  | [] => [x]
  | y :: r => if x.nm < y.nm then x :: y :: r else y :: insF x r
def delF (fs : List Fl) (n : List UInt8) : List Fl := fs.filter fun f => !(f.nm == n)
def modF (fs : List Fl) (x : Fl) : List Fl := fs.map fun f => if f.nm = x.nm then x else f
def renF (fs : List Fl) (f : Fl) (to : List UInt8) : List Fl := insF { f with nm := to } (delF (delF fs f.nm) to)
theorem fl_find (es : List Ent) (n : List UInt8) : findF (es.map fl) n = (findE es n).map fl := by
  unfold findF findE; rw [List.find?_map]; rfl
theorem fl_ins (x : Ent) : ∀ es : List Ent, (insE x es).map fl = insF (fl x) (es.map fl)
  | [] => rfl
  | y :: r => by
    unfold insE
    show _ = if x.nm < y.nm then _ else _
    by_cases h : x.nm < y.nm
    · rw [if_pos h, if_pos h]; rfl
    · rw [if_neg h, if_neg h, List.map_cons, fl_ins x r]
theorem fl_del (es : List Ent) (n : List UInt8) : (delE es n).map fl = delF (es.map fl) n := by
  unfold delE delF; rw [List.filter_map]; rfl
theorem fl_mod (es : List Ent) (x : Ent) : (modE es x).map fl = modF (es.map fl) (fl x) := by
  unfold modE modF; rw [List.map_map, List.map_map]
  refine List.map_congr_left fun e _ => ?_
  show fl (if e.nm = x.nm then x else e) = if e.nm = x.nm then fl x else fl e
  split <;> rfl
theorem fl_ren (es : List Ent) (e : Ent) (to : List UInt8) : (renE es e to).map fl = renF (es.map fl) (fl e) to := by
  unfold renE renF
  rw [fl_ins, fl_del, fl_del]; rfl
def fdF (fs : List Fl) (c : Ctl) (n : List UInt8) : Int := if ckE c n = 0 then (match findF fs n with | some _ => 0 | none => 42) else ckE c n
theorem fl_fd (es : List Ent) (c : Ctl) (n : List UInt8) : fdF (es.map fl) c n = fdE es c n := by
  unfold fdF fdE; rw [fl_find]; cases findE es n <;> rfl
/-- What comes of a call: its answer, the files, the numbers. -/
abbrev Res := Int × List Fl × Ctl
def createF (fs : List Fl) (c : Ctl) (n : List UInt8) : Res :=
  if ckE c n ≠ 0 then (ckE c n, fs, c) else match findF fs n with
  | some _ => (41, fs, c)
  | none => if 4096 ≤ fs.length then (43, fs, c) else (okE c, if doneC c then insF ⟨n, [], 0⟩ fs else fs, tick c)
def appendF (fs : List Fl) (c : Ctl) (n d : List UInt8) : Res :=
  if fdF fs c n ≠ 0 then (fdF fs c n, fs, c) else match findF fs n with
  | none => (0, fs, c)
  | some f => if 268435456 < f.da.length + d.length then (36, fs, c) else if c.cap < usedF fs + d.length then (44, fs, c) else (okE c, modF fs { f with da := f.da ++ d }, tick c)
def syncF (fs : List Fl) (c : Ctl) (n : List UInt8) : Res :=
  if fdF fs c n ≠ 0 then (fdF fs c n, fs, c) else match findF fs n with
  | none => (0, fs, c)
  | some f => (okE c, if c.left = 1 then fs else modF fs { f with du := f.da.length }, tick c)
def cutAF (fs : List Fl) (c : Ctl) (n : List UInt8) (k : Int) : Res :=
  if fdF fs c n ≠ 0 then (fdF fs c n, fs, c) else match findF fs n with
  | none => (0, fs, c)
  | some f => if k < 0 ∨ (f.da.length : Int) < k then (13, fs, c) else (okE c, if doneC c then modF fs { f with da := f.da.take k.toNat, du := min f.du k.toNat } else fs, tick c)
def renameF (fs : List Fl) (c : Ctl) (n to : List UInt8) : Res :=
  if ckE c to ≠ 0 then (ckE c to, fs, c) else if fdF fs c n ≠ 0 then (fdF fs c n, fs, c) else match findF fs n with
  | none => (0, fs, c)
  | some f => (okE c, if doneC c then renF fs f to else fs, tick c)
def deleteF (fs : List Fl) (c : Ctl) (n : List UInt8) : Res :=
  if fdF fs c n ≠ 0 then (fdF fs c n, fs, c) else match findF fs n with
  | none => (0, fs, c)
  | some f => (okE c, if doneC c then delF fs n else fs, tick c)
/-- It came to this. -/
def Came (w : World) (p mb : Nat) (es : List Ent) (r : Res) (e : Ending) (w' : World) : Prop := ∃ es', e = .returned (.int .i64 r.1) ∧ Step w w' p mb es es' r.2.2 ∧ es'.map fl = r.2.1
theorem came {w w' : World} {p mb : Nat} {es es' : List Ent} {r : Res} {E : Int} {c' : Ctl} (st : Step w w' p mb es es' c') (h : r = (E, es'.map fl, c')) : Came w p mb es r (.returned (.int .i64 E)) w' := by
  subst h; exact ⟨es', rfl, st, rfl⟩
theorem create_f {p mb : Nat} {es : List Ent} {c : Ctl} (s : ByteArray) (w : World) (h : DK w p mb es c) : Calls Tryz.prog 30 #[Pt p, .string s] w (Came w p mb es (createF (es.map fl) c s.data.toList)) := by
  have hl : (es.map fl).length = es.length := by simp
  refine create_any s w h _ (fun hk w' st => came st ?_) (fun e hk hf w' st => came st ?_) (fun hk hf hm w' st => came st ?_) (fun hk hf hm hd w' fb st => came st ?_) (fun hk hf hm hd w' st => came st ?_)
  · unfold createF; rw [if_pos hk]
  · unfold createF; rw [if_neg (by simpa using hk), fl_find, hf]; rfl
  · unfold createF; rw [if_neg (by simpa using hk), fl_find, hf, hl]; simp [hm]
  · unfold createF; rw [if_neg (by simpa using hk), fl_find, hf, hl, hd, fl_ins]; simp [show ¬ 4096 ≤ es.length by omega]; rfl
  · unfold createF; rw [if_neg (by simpa using hk), fl_find, hf, hl, hd]; simp [show ¬ 4096 ≤ es.length by omega]
theorem append_f {p mb : Nat} {es : List Ent} {c : Ctl} (s t : ByteArray) (w : World) (h : DK w p mb es c) (ht : t.size ≤ maxLen) : Calls Tryz.prog 73 #[Pt p, .string s, .string t] w (Came w p mb es (appendF (es.map fl) c s.data.toList t.data.toList)) := by
  refine append_any s t w h ht _ (fun hk w' st => came st ?_) (fun e hf hk hb w' st => came st ?_) (fun e hf hk hb hu w' st => came st ?_) (fun e hf hk hb hu w' v st => came st ?_)
  all_goals unfold appendF; rw [fl_fd]
  · rw [if_pos hk]
  · rw [if_neg (by simpa using hk), fl_find, hf]; simp only [Option.map_some, nm_size]; rw [if_pos (show 268435456 < (fl e).da.length + t.size from hb)]
  · rw [if_neg (by simpa using hk), fl_find, hf]; simp only [Option.map_some, nm_size]; rw [if_neg (show ¬ 268435456 < (fl e).da.length + t.size from by show ¬ 268435456 < e.da.length + t.size; omega), if_pos (by rw [← used_fl]; exact hu)]
  · rw [if_neg (by simpa using hk), fl_find, hf]; simp only [Option.map_some, nm_size]; rw [if_neg (show ¬ 268435456 < (fl e).da.length + t.size from by show ¬ 268435456 < e.da.length + t.size; omega), if_neg (by rw [← used_fl]; omega), fl_mod]; rfl
theorem sync_f {p mb : Nat} {es : List Ent} {c : Ctl} (s : ByteArray) (w : World) (h : DK w p mb es c) : Calls Tryz.prog 34 #[Pt p, .string s] w (Came w p mb es (syncF (es.map fl) c s.data.toList)) := by
  refine sync_any s w h _ (fun hk w' st => came st ?_) (fun e hf hk w' st => came st ?_)
  all_goals unfold syncF; rw [fl_fd]
  · rw [if_pos hk]
  · rw [if_neg (by simpa using hk), fl_find, hf]
    by_cases hl : c.left = 1
    · simp [hl]
    · simp only [Option.map_some, if_neg hl]; rw [fl_mod]; rfl
theorem rename_f {p mb : Nat} {es : List Ent} {c : Ctl} (s t : ByteArray) (w : World) (h : DK w p mb es c) : Calls Tryz.prog 36 #[Pt p, .string s, .string t] w (Came w p mb es (renameF (es.map fl) c s.data.toList t.data.toList)) := by
  refine rename_any s t w h _ (fun hk w' st => came st ?_) (fun hk hf w' st => came st ?_) (fun e hf hk hc hd w' st => came st ?_) (fun e hf hk hc hd w' st => came st ?_)
  all_goals unfold renameF; rw [fl_fd]
  · rw [if_pos hk]
  · rw [if_neg (by simpa using hk), if_pos hf]
  · rw [if_neg (by simpa using hc), if_neg (by simpa using hk), fl_find, hf, hd, fl_ren]; rfl
  · rw [if_neg (by simpa using hc), if_neg (by simpa using hk), fl_find, hf, hd]; rfl
theorem delete_f {p mb : Nat} {es : List Ent} {c : Ctl} (s : ByteArray) (w : World) (h : DK w p mb es c) : Calls Tryz.prog 68 #[Pt p, .string s] w (Came w p mb es (deleteF (es.map fl) c s.data.toList)) := by
  refine delete_any s w h _ (fun hk w' st => came st ?_) (fun e hf hk hd w' st => came st ?_) (fun e hf hk hd w' st => came st ?_)
  all_goals unfold deleteF; rw [fl_fd]
  · rw [if_pos hk]
  · rw [if_neg (by simpa using hk), fl_find, hf, hd, fl_del, (findE_mem hf).2]; rfl
  · rw [if_neg (by simpa using hk), fl_find, hf, hd]; rfl
end Go.Proofs.YtkoannkecojhmaaGreatDoor
