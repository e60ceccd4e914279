/-
  DERIVED. Sorted files: their bytes and their order, without a program.
-/
import Derived.Test.YtdegclccbgpgiaaDoorJVar
import Derived.Test.YtdegclccbgpgiaaDoorSFrame
import Derived.Test.YtdegclccbgpgiaaDoorJBits
import Derived.Lib.Bytealg
set_option linter.unusedVariables false
set_option linter.unusedSimpArgs false
namespace Go.Proofs.YtdegclccbgpgiaaDoor
open Go.RowKit Go.Proofs.SealMath
/-- An entry. -/
structure En where
  v : Int
  c : ByteArray
  i : Int
  s : Int
  d : Bool
/-- A head. -/
structure Hd where
  w : Int
  t : Int
  b : Int
  lo : Int
  hi : Int
  n : Int
/-- An index's line. -/
structure Ln where
  e : En
  k : Nat
  p : Nat
def e0 : En := ⟨0, ⟨#[]⟩, 0, 0, false⟩
def enC (e : En) : List Value := [.int .i64 e.v, .string e.c, .int .i64 e.i, .int .i64 e.s, .bool e.d]
def hdC (h : Hd) : List Value := [.int .i64 h.w, .int .i64 h.t, .int .i64 h.b, .int .i64 h.lo, .int .i64 h.hi, .int .i64 h.n]
def lnC (l : Ln) : List Value := enC l.e ++ [.int .i64 l.k, .int .i64 l.p]
def dB (d : Bool) : List UInt8 := if d then [1] else [0]
theorem dB_len (d : Bool) : (dB d).length = 1 := by cases d <;> rfl
def plB (e : En) : List UInt8 := fixL e.v.toNat 4 ++ (e.c.data.toList ++ pvL 9 e.i.toNat)
def enB (e : En) : List UInt8 := plB e ++ (pvL 9 e.s.toNat ++ dB e.d)
def lnB (l : Ln) : List UInt8 := plB l.e ++ (pvL 9 l.k ++ pvL 9 l.p)
theorem cl (c : ByteArray) : c.data.toList.length = c.size := by simp
theorem plB_len (e : En) : (plB e).length ≤ 14 + e.c.size ∧ 5 ≤ (plB e).length := by
  have h1 := pvL_len 9 e.i.toNat
  have h2 := cl e.c
  unfold plB
  simp only [List.length_append, fixL_len, h2]
  omega
theorem enB_len (e : En) : (enB e).length ≤ 25 + e.c.size ∧ 7 ≤ (enB e).length := by
  have h1 := pvL_len 9 e.s.toNat
  have h2 := plB_len e
  unfold enB
  simp only [List.length_append, dB_len]
  omega
theorem lnB_len (l : Ln) : (lnB l).length ≤ 34 + l.e.c.size ∧ 7 ≤ (lnB l).length := by
  have h1 := pvL_len 9 l.k
  have h3 := pvL_len 9 l.p
  have h2 := plB_len l.e
  unfold lnB
  simp only [List.length_append]
  omega
section
variable {T : Type} (f : T → List UInt8)
def ln (l : List T) : Nat := (l.flatMap f).length
theorem ln_snoc (l : List T) (x : T) : ln f (l ++ [x]) = ln f l + (f x).length := by simp [ln]
/-- Parts of a list, each with the place where it begins: as many as have together at most 4096 bytes. -/
def pkA : Nat → List T → List T → List (Nat × List T)
  | a, cur, [] => if cur.isEmpty then [] else [(a, cur)]
  | a, cur, x :: r => if 4096 < ln f cur + (f x).length then (a, cur) :: pkA (a + cur.length) [x] r else pkA a (cur ++ [x]) r
def pk (l : List T) : List (Nat × List T) := pkA f 0 [] l
theorem pkA_flat : ∀ (r : List T) (a : Nat) (cur : List T), ((pkA f a cur r).map (·.2)).flatten = cur ++ r := by
  intro r
  induction r with
  | nil => intro a cur; unfold pkA; cases cur <;> simp
  | cons x r ih =>
    intro a cur
    unfold pkA
    split
    · simp [ih]
    · rw [ih]; simp
theorem pkA_spec : ∀ (r : List T) (a : Nat) (cur l : List T), ln f cur ≤ 4096 → (∀ x ∈ r, (f x).length ≤ 4096) → l.drop a = cur ++ r → a ≤ l.length →
    ∀ p ∈ pkA f a cur r, p.2 ≠ [] ∧ ln f p.2 ≤ 4096 ∧ p.1 + p.2.length ≤ l.length ∧ (l.drop p.1).take p.2.length = p.2 := by
  intro r
  induction r with
  | nil =>
    intro a cur l h1 h2 h3 h4 p hp
    unfold pkA at hp
    cases cur with
    | nil => simp at hp
    | cons y c =>
      simp at hp
      subst hp
      have hl := congrArg List.length h3
      simp at hl
      exact ⟨by simp, h1, by simp only [List.length_cons]; omega, by dsimp only; rw [h3]; simp⟩
  | cons x r ih =>
    intro a cur l h1 h2 h3 h4 p hp
    have hl := congrArg List.length h3
    simp at hl
    unfold pkA at hp
    have hx := h2 x (by simp)
    have hr := fun y hy => h2 y (List.mem_cons_of_mem _ hy)
    split at hp
    · rename_i hb
      have hne : cur ≠ [] := fun e => by subst e; simp [ln] at hb; omega
      rcases List.mem_cons.1 hp with rfl | hp
      · exact ⟨hne, h1, by dsimp only; omega, by dsimp only; rw [h3]; simp⟩
      · refine ih (a + cur.length) [x] l (by simpa [ln] using hx) hr ?_ (by omega) p hp
        rw [← List.drop_drop, h3]; simp
    · rename_i hb
      refine ih a (cur ++ [x]) l (by rw [ln_snoc]; omega) hr (by rw [h3]; simp) h4 p hp
theorem pkA_at : ∀ (r : List T) (a : Nat) (cur : List T) (pre : List (Nat × List T)) (x : Nat × List T) (post : List (Nat × List T)), pkA f a cur r = pre ++ x :: post → x.1 = a + (pre.map (·.2.length)).sum := by
  intro r
  induction r with
  | nil =>
    intro a cur pre x post h
    unfold pkA at h
    cases cur with
    | nil => simp at h
    | cons y c =>
      cases pre with
      | nil => simp at h; rw [← h.1]; simp
      | cons q pre => simp at h
  | cons y r ih =>
    intro a cur pre x post h
    unfold pkA at h
    split at h
    · cases pre with
      | nil => simp at h; rw [← h.1]; simp
      | cons q pre =>
        simp at h
        obtain ⟨rfl, h⟩ := h
        have := ih _ _ _ _ _ h
        simp; omega
    · exact ih _ _ _ _ _ h
theorem pk_flat (l : List T) : ((pk f l).map (·.2)).flatten = l := by unfold pk; rw [pkA_flat]; rfl
theorem pk_spec (l : List T) (h : ∀ x ∈ l, (f x).length ≤ 4096) : ∀ p ∈ pk f l, p.2 ≠ [] ∧ ln f p.2 ≤ 4096 ∧ p.1 + p.2.length ≤ l.length ∧ (l.drop p.1).take p.2.length = p.2 :=
  pkA_spec f l 0 [] l (by simp [ln]) h (by simp) (Nat.zero_le _)
/-- Parts as frames. -/
def blkL (k : Nat) (ps : List (Nat × List T)) : List UInt8 := ps.flatMap fun p => frL k (p.2.flatMap f)
theorem blkL_snoc (k : Nat) (ps : List (Nat × List T)) (p : Nat × List T) : blkL f k (ps ++ [p]) = blkL f k ps ++ frL k (p.2.flatMap f) := by simp [blkL]
theorem blkL_len (k : Nat) (ps : List (Nat × List T)) : (blkL f k ps).length = ln f (ps.map (·.2)).flatten + 14 * ps.length := by
  induction ps with
  | nil => simp [blkL, ln]
  | cons p ps ih =>
    have e : blkL f k (p :: ps) = frL k (p.2.flatMap f) ++ blkL f k ps := by simp [blkL]
    rw [e, List.length_append, ih, frL_len]
    simp [ln]
    omega
theorem ln_le (m : Nat) : ∀ l : List T, (∀ x ∈ l, (f x).length ≤ m) → ln f l ≤ m * l.length
  | [], _ => by simp [ln]
  | x :: l, h => by
    have h1 := ln_le m l (fun y hy => h y (List.mem_cons_of_mem _ hy))
    have h2 := h x (by simp)
    have : ln f (x :: l) = (f x).length + ln f l := by simp [ln]
    rw [this, List.length_cons, Nat.mul_add]
    omega
theorem flat_ge : ∀ ps : List (Nat × List T), (∀ p ∈ ps, p.2 ≠ []) → ps.length ≤ (ps.map (·.2)).flatten.length
  | [], _ => by simp
  | p :: ps, h => by
    have h1 := flat_ge ps (fun y hy => h y (List.mem_cons_of_mem _ hy))
    have h2 : 0 < p.2.length := List.length_pos_iff.2 (h p (by simp))
    simp only [List.length_cons, List.map_cons, List.flatten_cons, List.length_append]
    omega
theorem pk_len (l : List T) (h : ∀ x ∈ l, (f x).length ≤ 4096) : (pk f l).length ≤ l.length := by
  have := flat_ge (pk f l) (fun p hp => (pk_spec f l h p hp).1)
  rwa [pk_flat] at this
/-- What a beginning of the parts takes as frames. -/
theorem pre_len (k m : Nat) (l : List T) (h : ∀ x ∈ l, (f x).length ≤ m) (hm : m ≤ 4096) (pre : List (Nat × List T)) (hp : pre <+: pk f l) : (blkL f k pre).length ≤ (m + 14) * l.length := by
  obtain ⟨post, e⟩ := hp
  have h1 := blkL_len f k (pk f l)
  rw [pk_flat] at h1
  have h2 := pk_len f l (fun x hx => Nat.le_trans (h x hx) hm)
  have h3 := ln_le f m l h
  have h4 : (blkL f k pre).length ≤ (blkL f k (pk f l)).length := by rw [← e]; simp [blkL]
  rw [Nat.add_mul]
  omega
end
/-- The index's lines. -/
def lns (off : Nat) : List (Nat × List En) → List Ln
  | [] => []
  | p :: r => ⟨p.2.headD e0, p.2.length, off⟩ :: lns (off + (ln enB p.2 + 14)) r
theorem lns_snoc : ∀ (ps : List (Nat × List En)) (off : Nat) (p : Nat × List En), lns off (ps ++ [p]) = lns off ps ++ [⟨p.2.headD e0, p.2.length, off + (blkL enB 5 ps).length⟩]
  | [], off, p => by simp [lns, blkL]
  | q :: ps, off, p => by
    rw [List.cons_append, lns, lns, lns_snoc ps]
    have : (blkL enB 5 (q :: ps)).length = ln enB q.2 + 14 + (blkL enB 5 ps).length := by
      rw [blkL_len, blkL_len]; simp [ln]; omega
    rw [this, Nat.add_assoc]; rfl
theorem lns_len : ∀ (ps : List (Nat × List En)) (off : Nat), (lns off ps).length = ps.length
  | [], _ => rfl
  | _ :: ps, off => by rw [lns]; simp [lns_len ps]
def hdB (h : Hd) (n : Nat) : List UInt8 := pvL 9 h.w.toNat ++ (pvL 9 h.t.toNat ++ (pvL 9 h.b.toNat ++ (pvL 9 h.lo.toNat ++ (pvL 9 h.hi.toNat ++ pvL 9 n))))
theorem hdB_len (h : Hd) (n : Nat) : (hdB h n).length ≤ 60 := by
  have h1 := (pvL_len 9 h.w.toNat).2
  have h2 := (pvL_len 9 h.t.toNat).2
  have h3 := (pvL_len 9 h.b.toNat).2
  have h4 := (pvL_len 9 h.lo.toNat).2
  have h5 := (pvL_len 9 h.hi.toNat).2
  have h6 := (pvL_len 9 n).2
  unfold hdB
  simp only [List.length_append]
  omega
def hdF (h : Hd) (l : List En) : List UInt8 := frL 4 (hdB h l.length)
/-- Head and blocks. -/
def hbT (h : Hd) (l : List En) : List UInt8 := hdF h l ++ blkL enB 5 (pk enB l)
def idx (h : Hd) (l : List En) : List Ln := lns (hdF h l).length (pk enB l)
def ftB (h : Hd) (l : List En) : List UInt8 := pvL 9 (pk enB l).length ++ (pvL 9 (hbT h l).length ++ fixL (crc 0 (l.flatMap enB)) 4)
/-- A file. -/
def fileT (h : Hd) (l : List En) : List UInt8 := hbT h l ++ blkL lnB 6 (pk lnB (idx h l)) ++ frL 7 (ftB h l)
theorem ftB_len (h : Hd) (l : List En) : (ftB h l).length ≤ 24 := by
  have h1 := (pvL_len 9 (pk enB l).length).2
  have h2 := (pvL_len 9 (hbT h l).length).2
  unfold ftB
  simp only [List.length_append, fixL_len]
  omega
/-- Does a head go? -/
def hdE (h : Hd) : Int := if isW h.w = true then (if (0 ≤ h.t ∧ h.t ≤ 127) ∧ (1 ≤ h.b ∧ h.b ≤ 32) ∧ 0 ≤ h.lo ∧ h.lo ≤ h.hi ∧ h.hi ≤ 1152921504606846976 then 0 else 13) else 10
def enE (h : Hd) (e : En) : Int :=
  if (e.c.size : Int) = h.w / 8 then
    if 0 ≤ e.v ∧ e.v < 2 ^ h.b.toNat then
      if 0 ≤ e.i ∧ e.i ≤ 281474976710656 then
        if h.lo < e.s ∧ e.s ≤ h.hi then 0 else 51
      else 60
    else 13
  else 11
/-- Does one stand ahead of the other? -/
def lsB (a b : En) : Bool := if a.v = b.v then (if a.c = b.c then decide (a.i < b.i) else Op.bytesLess a.c.data.toList b.c.data.toList) else decide (a.v < b.v)
/-- Entry by entry. -/
def stt (p : Option En) (e : En) : Bool := match p with | some q => lsB q e | none => true
def lsE (h : Hd) : Option En → List En → Int
  | _, [] => 0
  | p, e :: r => if enE h e = 0 then (if stt p e = true then lsE h (some e) r else 50) else enE h e
def bdE (h : Hd) (l : List En) : Int := if hdE h = 0 then (if l.length ≤ 2097152 then lsE h none l else 43) else hdE h
def bdT (h : Hd) (l : List En) : List UInt8 := if bdE h l = 0 then fileT h l else []
/-- The one ahead of place i. -/
def prv (l : List En) (i : Nat) : Option En := if i = 0 then none else l[i - 1]?
def lsI (h : Hd) (l : List En) (i : Nat) : Int := lsE h (prv l i) (l.drop i)
theorem lsI_end (h : Hd) (l : List En) : lsI h l l.length = 0 := by unfold lsI; rw [List.drop_length]; unfold lsE; rfl
theorem lsI_step (h : Hd) (l : List En) (i : Nat) (hi : i < l.length) : lsI h l i = if enE h l[i] = 0 then (if (i = 0 ∨ ∃ q, l[i - 1]? = some q ∧ lsB q l[i] = true) then lsI h l (i + 1) else 50) else enE h l[i] := by
  have e1 : l.drop i = l[i] :: l.drop (i + 1) := List.drop_eq_getElem_cons hi
  have e2 : lsI h l (i + 1) = lsE h (some l[i]) (l.drop (i + 1)) := by
    unfold lsI prv
    rw [if_neg (by omega), Nat.add_sub_cancel, List.getElem?_eq_getElem hi]
  rw [e2]
  unfold lsI
  rw [e1, lsE]
  by_cases h0 : i = 0
  · simp [prv, h0, stt]
  · have h1 : l[i - 1]? = some (l[i - 1]'(by omega)) := List.getElem?_eq_getElem (by omega)
    simp [prv, h0, h1, stt]
theorem bytesLess_cmp : ∀ a b : List UInt8, Op.bytesLess a b = decide (Lib.compareBytes a b < 0)
  | [], [] => rfl
  | [], _ :: _ => rfl
  | _ :: _, [] => rfl
  | a :: x, b :: y => by
    unfold Op.bytesLess Lib.compareBytes
    by_cases h1 : a < b
    · simp [h1]
    · by_cases h2 : b < a
      · have : ¬ a = b := fun e => by subst e; exact h1 h2
        simp [h1, h2, this]
      · have : a = b := UInt8.le_antisymm (UInt8.not_lt.1 h2) (UInt8.not_lt.1 h1)
        subst this
        simp [h1, bytesLess_cmp x y]
theorem cmp_zero : ∀ a b : List UInt8, Lib.compareBytes a b = 0 ↔ a = b
  | [], [] => by simp [Lib.compareBytes]
  | [], _ :: _ => by simp [Lib.compareBytes]
  | _ :: _, [] => by simp [Lib.compareBytes]
  | a :: x, b :: y => by
    unfold Lib.compareBytes
    by_cases h1 : a < b
    · have : ¬ a = b := fun e => by subst e; exact absurd h1 (UInt8.lt_irrefl _)
      simp [h1, this]
    · by_cases h2 : b < a
      · have : ¬ a = b := fun e => by subst e; exact h1 h2
        simp [h1, h2, this]
      · have : a = b := UInt8.le_antisymm (UInt8.not_lt.1 h2) (UInt8.not_lt.1 h1)
        subst this
        simp [h1, cmp_zero x y]
end Go.Proofs.YtdegclccbgpgiaaDoor
