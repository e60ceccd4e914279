/-
  DERIVED. JSm, JFor0, JFor1, JFor2, as one text.
-/
import Derived.Test.YtfijjlkhgelmoaaGreatDoorTzAQ
import Derived.Test.YtfijjlkhgelmoaaGreatDoorTzAT
import Derived.Test.YtfijjlkhgelmoaaGreatDoorTzAP
import Derived.Test.YtfijjlkhgelmoaaGreatDoorTzAS
import Derived.Test.YtfijjlkhgelmoaaGreatDoorTzAI
set_option linter.unusedVariables false
set_option linter.unusedSimpArgs false
namespace Go.Proofs.YtfijjlkhgelmoaaGreatDoor
open Go.RowKit Go.Proofs.SealMath
abbrev Uq := Int × Int × Int × ByteArray
abbrev EU : Rw.El Uq := ⟨30, 22, 4, 40, .agg #[.int .i64 0, .int .i64 0, .int .i64 0, .string ⟨#[]⟩], fun x => [.int .i64 x.1, .int .i64 x.2.1, .int .i64 x.2.2.1, .string x.2.2.2]⟩
theorem okEU : EU.Ok Tryz.prog := ⟨fun _ => rfl, fun x u hu => by
  simp at hu
  rcases hu with rfl | rfl | rfl | rfl <;> rfl, by decide, rfl, by decide, by kernel_rfl, by kernel_rfl⟩
def uQ (z : Up × Nat) : Uq := (z.1.s, z.1.k, z.1.i, ⟨z.1.c.toArray⟩)
theorem lsQ (L : List (Up × Nat)) : (L.map uQ).flatMap EU.f = lsU L := by
  unfold lsU
  rw [List.flatMap_map]
  rfl
theorem rowQ {W : World} {v : Value} {L : List (Up × Nat)} (h : W.ownsRow 0 30 4 v L.length (lsU L)) : EU.Row W v (L.map uQ) := by
  show W.ownsRow 0 30 4 v (L.map uQ).length _
  rw [lsQ, List.length_map]; exact h
theorem uCells {W : World} {v : Value} {X : List Uq} (h : EU.Row W v X) (i : Nat) (hi : i < X.length) : ∃ g cap, v = .slice (some ⟨g, 0, none⟩) X.length cap ∧ W.cell? ⟨g, i * 4, none⟩ = some (.int .i64 X[i].1) ∧ W.cell? ⟨g, i * 4 + 1, none⟩ = some (.int .i64 X[i].2.1) ∧ W.cell? ⟨g, i * 4 + 2, none⟩ = some (.int .i64 X[i].2.2.1) ∧ W.cell? ⟨g, i * 4 + 3, none⟩ = some (.string X[i].2.2.2) ∧ ∀ j, W.frozen? ⟨g, j, none⟩ = false := by
  obtain ⟨g, cap, e, h1, h2⟩ := Rw.El.cells okEU h i hi
  exact ⟨g, cap, e, h1 0 _ rfl, h1 1 _ rfl, h1 2 _ rfl, h1 3 _ rfl, h2⟩
set_option maxRecDepth 100000 in
set_option maxHeartbeats 8000000 in
theorem same_any (v1 v2 : Value) (X : List Uq) (w : World) (h1 : EU.Row w v1 X) (h2 : EU.Row w v2 X) (hl : X.length < 4611686018427387904) :
    Calls Tryz.prog 13 #[v1, v2] w fun e w' => e = .returned (.bool true) ∧ Drew w w' := by
  have k1 := fun i hi => uCells h1 i hi
  have k2 := fun i hi => uCells h2 i hi
  obtain ⟨a1, c1, e1, -⟩ := h1.form
  obtain ⟨a2, c2, e2, -⟩ := h2.form
  subst e1 e2
  clear h1 h2
  obtain ⟨n, hn⟩ : ∃ n, n = X.length := ⟨_, rfl⟩
  have hx : ∀ i, i < n → ∃ (x : Uq) (g1 g2 : Nat), a1 = some ⟨g1, 0, none⟩ ∧ a2 = some ⟨g2, 0, none⟩ ∧ (w.cell? ⟨g1, i * 4, none⟩ = some (.int .i64 x.1) ∧ w.cell? ⟨g1, i * 4 + 1, none⟩ = some (.int .i64 x.2.1) ∧ w.cell? ⟨g1, i * 4 + 2, none⟩ = some (.int .i64 x.2.2.1) ∧ w.cell? ⟨g1, i * 4 + 3, none⟩ = some (.string x.2.2.2)) ∧ (w.cell? ⟨g2, i * 4, none⟩ = some (.int .i64 x.1) ∧ w.cell? ⟨g2, i * 4 + 1, none⟩ = some (.int .i64 x.2.1) ∧ w.cell? ⟨g2, i * 4 + 2, none⟩ = some (.int .i64 x.2.2.1) ∧ w.cell? ⟨g2, i * 4 + 3, none⟩ = some (.string x.2.2.2)) := fun i hi => by
    have hi' : i < X.length := by omega
    obtain ⟨g1, d1, e1, p0, p1, p2, p3, -⟩ := k1 i hi'
    obtain ⟨g2, d2, e2, q0, q1, q2, q3, -⟩ := k2 i hi'
    simp only [Value.slice.injEq] at e1 e2
    exact ⟨X[i], g1, g2, e1.1, e2.1, ⟨p0, p1, p2, p3⟩, ⟨q0, q1, q2, q3⟩⟩
  clear k1 k2
  rw [← hn] at hl ⊢
  have HX := Hid.mk hx
  clear hn hx
  go_enter Tryz.func13, Tryz.ntmps13
  go_wp2
  go_loopw [5] (fun u wr => ∃ i : Nat, u = .int .i64 i ∧ i ≤ n ∧ Drew w wr) (fun u _ => n - (intOf u).toNat)
  case atStart => exact ⟨0, rfl, Nat.zero_le _, Drew.refl _⟩
  case round =>
    obtain ⟨i, rfl, hi, hd⟩ := hrel
    by_cases hlt : i < n
    · obtain ⟨x, g1, g2, rfl, rfl, ⟨x0, x1, x2, x3⟩, ⟨y0, y1, y2, y3⟩⟩ := HX.out i hlt
      have hcell : ∀ a : Addr, wr.cell? a = w.cell? a := fun a => by obtain ⟨m, rfl⟩ := hd; exact World.cell?_drewN _ _ _
      rw [← hcell] at x0 x1 x2 x3 y0 y1 y2 y3
      have i1 : (i : Int) < (n : Int) := by omega
      have i2 : 0 ≤ (i : Int) := by omega
      clear hcell
      go_wp2
      go_quiet (fail)
      go_wp2
      refine ⟨⟨i + 1, rfl, hlt, hd.more _⟩, by simp only [intOf]; omega⟩
    · go_wp2
      go_ret
      exact ⟨rfl, hd⟩
end Go.Proofs.YtfijjlkhgelmoaaGreatDoor
set_option linter.unusedVariables false
set_option linter.unusedSimpArgs false
namespace Go.Proofs.YtfijjlkhgelmoaaGreatDoor
open Go.RowKit Go.Proofs.SealMath Go.Proofs.DiskMath
theorem nm1 : nmT 1 = ⟨#[106, 49]⟩ := by kernel_rfl
theorem nm1b : (nmT 1).data.toList = [106, 49] := by rw [nm1]
theorem isNm1 : Dk.isNm (nmT 1).data.toList = true := by rw [nm1b]; decide
theorem Pow.same {w W : World} (h : Pow w) (e : W.heap[2]? = w.heap[2]?) : Pow W := by
  have hgn : Tryz.prog.globalNamed "internal/strconv.uint64pow10" = some 2 := by kernel_rfl
  unfold Pow Lib.TabIs World.var? at h ⊢
  rw [hgn] at h ⊢
  simp only [Option.bind_some] at h ⊢
  rw [e]
  exact h
theorem pow_pos {w : World} (h : Pow w) : 2 < w.heap.size := by
  have hgn : Tryz.prog.globalNamed "internal/strconv.uint64pow10" = some 2 := by kernel_rfl
  unfold Pow Lib.TabIs World.var? at h
  rw [hgn] at h
  simp only [Option.bind_some] at h
  rcases Nat.lt_or_ge 2 w.heap.size with h' | h'
  · exact h'
  · rw [Array.getElem?_eq_none h'] at h; cases h
/-- The tables stand, wherever the call began. -/
structure Tb (w : World) : Prop where
  tab : Tab w
  pow : Pow w
theorem Tb.at {w W : World} (h : Tb w) (b : Below w.heap.size w W) : Tab W ∧ Pow W :=
  ⟨h.tab.same (b.block 0 h.tab.pos), h.pow.same (b.block 2 (pow_pos h.pow))⟩
/-- The disk has the one file of these bytes; a list of the call's own lies beside it. -/
structure JD (w W : World) (p mb : Nat) (e : Ent) (c : Dk.Ctl) (D : List UInt8) (v : Value) (X : List Uq) : Prop where
  dk : Dk.DK W p mb [e] c
  nm : e.nm = (nmT 1).data.toList
  da : e.da = D
  off : c.off = false
  left : c.left = 0
  cap : c.cap = 16777216
  ft : ∀ k, Dk.Foot p mb [e] k → w.heap.size ≤ k
  wr : EU.Row W v X
  wk : ∀ k, v.ownBlock = some k → w.heap.size ≤ k ∧ ¬ Dk.Foot p mb [e] k
  bl : Below w.heap.size w W
section
variable {w W W' : World} {p mb : Nat} {e e' : Ent} {c c' : Dk.Ctl} {D D' : List UInt8} {v v' : Value} {X X' : List Uq}
theorem JD.find (h : JD w W p mb e c D v X) : findE [e] (nmT 1).data.toList = some e := by unfold findE; simp [h.nm]
theorem JD.fd (h : JD w W p mb e c D v X) : Dk.fdE [e] c (nmT 1).data.toList = 0 := by
  unfold Dk.fdE Dk.ckE
  rw [h.find, h.off, isNm1]; rfl
theorem JD.keep (h : JD w W p mb e c D v X) (s : Stay (fun k => k ∉ [] ∧ False) W W') : JD w W' p mb e c D v X :=
  ⟨h.dk.kept s (fun k _ hf => hf.2), h.nm, h.da, h.off, h.left, h.cap, h.ft, row_kept h.wr s (fun k _ hf => hf.2), h.wk, h.bl.trans (s.toBelow (fun k _ hf => hf.2) h.bl.size)⟩
theorem JD.below (h : JD w W p mb e c D v X) (s : Below W.heap.size W W') : JD w W' p mb e c D v X := h.keep (.below s)
theorem JD.write (h : JD w W p mb e c D v X) (s : Dk.Step W W' p mb [e] [e'] c') (nm : e'.nm = (nmT 1).data.toList) (da : e'.da = D') (off : c'.off = false) (left : c'.left = 0) (cap : c'.cap = 16777216) : JD w W' p mb e' c' D' v X where
  dk := s.dk
  nm := nm
  da := da
  off := off
  left := left
  cap := cap
  ft := fun k hk => by
    rcases s.foot k hk with h1 | h1
    · exact h.ft k h1
    · exact Nat.le_trans h.bl.size h1
  wr := row_kept h.wr s.stay (fun k hk => (h.wk k hk).2)
  wk := fun k hk => ⟨(h.wk k hk).1, fun hf => by
    have hl := row_lt h.wr hk
    rcases s.foot k hf with h1 | h1
    · exact (h.wk k hk).2 h1
    · omega⟩
  bl := h.bl.trans (s.stay.toBelow (fun k hk hf => by have := h.ft k hf; omega) h.bl.size)
theorem JD.list (h : JD w W p mb e c D v X) (r : EU.Row W' v' X') (s : Stay (fun k => v.ownBlock = some k) W W') (hn : ∀ k, v'.ownBlock = some k → v.ownBlock = some k ∨ W.heap.size ≤ k) : JD w W' p mb e c D v' X' where
  dk := h.dk.kept s (fun k hk hf => (h.wk k hf).2 hk)
  nm := h.nm
  da := h.da
  off := h.off
  left := h.left
  cap := h.cap
  ft := h.ft
  wr := r
  wk := fun k hk => by
    rcases hn k hk with h1 | h1
    · exact h.wk k h1
    · exact ⟨Nat.le_trans h.bl.size h1, fun hf => by have := h.dk.lt hf; omega⟩
  bl := h.bl.trans (s.toBelow (fun k hk hf => by have := (h.wk k hf).1; omega) h.bl.size)
theorem JD.len (h : JD w W p mb e c D v X) : D.length ≤ 268435456 := by
  have := (h.dk.hf e (by simp)).da
  rw [h.da] at this
  exact this
end
/-- The disk is made, and its file. -/
theorem new_one (w : World) : Calls Tryz.prog 4 #[.int .i64 16777216] w fun r w1 => ∃ p mb, r = .returned (Pt p) ∧ Dk.DK w1 p mb [] (Dk.newC 16777216) ∧ (∀ k, Dk.Foot p mb [] k → w.heap.size ≤ k) ∧ Below w.heap.size w w1 := by
  refine Dk.new_any 16777216 w _ (fun h => by omega) (fun _ _ w' h b => ⟨_, _, rfl, h, fun k hk => ?_, b⟩)
  rcases hk with e | e | ⟨x, hx, -⟩
  · omega
  · omega
  · cases hx
theorem create_one {w W : World} {p mb : Nat} (h : Dk.DK W p mb [] (Dk.newC 16777216)) (hf : ∀ k, Dk.Foot p mb [] k → w.heap.size ≤ k) (b : Below w.heap.size w W) :
    Calls Tryz.prog 6 #[Pt p, .string ⟨#[106, 49]⟩] W fun r W' => r = .returned (.int .i64 0) ∧ ∃ e c, JD w W' p mb e c [] (.slice none 0 0) [] := by
  rw [← nm1]
  have hc : Dk.ckE (Dk.newC 16777216) (nmT 1).data.toList = 0 := by
    unfold Dk.ckE Dk.newC
    rw [isNm1]; rfl
  refine Dk.create_any (nmT 1) W h _ (fun e => absurd hc e) (fun e _ he => by cases he) (fun _ _ hl => by simp at hl) (fun _ _ _ _ W' fb hs => ⟨rfl, Dk.newE (nmT 1).data.toList fb, Dk.tick (Dk.newC 16777216), ?_⟩) (fun _ _ _ hd => by cases hd)
  exact ⟨hs.dk, rfl, rfl, rfl, rfl, rfl, fun k hk => by
      rcases hs.foot k hk with h1 | h1
      · exact hf k h1
      · exact Nat.le_trans b.size h1, ⟨rfl, .inl ⟨rfl, rfl⟩⟩, fun k hk => (by cases hk), b.trans (hs.stay.toBelow (fun k hk hf' => by have := hf k hf'; omega) b.size)⟩
section
variable {w W : World} {p mb : Nat} {e : Ent} {c : Dk.Ctl} {D : List UInt8} {v : Value} {X : List Uq}
theorem append_one (t : ByteArray) (h : JD w W p mb e c D v X) (hb : D.length + t.size ≤ 16777216) :
    Calls Tryz.prog 10 #[Pt p, .string ⟨#[106, 49]⟩, .string t] W fun r W' => r = .returned (.int .i64 0) ∧ Stay (Dk.Foot p mb [e]) W W' ∧ ∃ e' c', JD w W' p mb e' c' (D ++ t.data.toList) v X := by
  rw [← nm1]
  have hz : t.size = t.data.toList.length := by simp
  have hd := h.da
  have hdl : e.da.length = D.length := by rw [hd]
  have hk : Dk.okE c = 0 := by unfold Dk.okE; rw [h.left]; rfl
  refine Dk.append_any (nmT 1) t W h.dk (by unfold maxLen; omega) _ (fun e0 => absurd h.fd e0) (fun x he _ hl => ?_) (fun x he _ _ hl => ?_) (fun x he _ _ _ W' v' hs => ?_)
  · rw [h.find] at he; cases he
    omega
  · rw [h.find] at he; cases he
    have h1 : used [e] = e.da.length := by simp [used]
    rw [h1, h.cap] at hl
    omega
  · rw [h.find] at he; cases he
    have e1 : modE [e] { e with da := e.da ++ t.data.toList, v := v' } = [{ e with da := e.da ++ t.data.toList, v := v' }] := by
      unfold modE; simp
    rw [e1] at hs
    rw [hk]
    exact ⟨rfl, hs.stay, _, _, h.write hs h.nm (by rw [hd]) (by show (c.left == 1) = false; rw [h.left]; rfl) (by show c.left - 1 = 0; rw [h.left]) h.cap⟩
theorem cut_one (n : Nat) (h : JD w W p mb e c D v X) (hn : n ≤ D.length) :
    Calls Tryz.prog 19 #[Pt p, .string ⟨#[106, 49]⟩, .int .i64 n] W fun r W' => r = .returned (.int .i64 0) ∧ ∃ e' c', JD w W' p mb e' c' (D.take n) v X := by
  rw [← nm1]
  have hd := h.da
  have hdl : e.da.length = D.length := by rw [hd]
  have hdc : Dk.doneC c = true := Dk.done_yes (.inr (by rw [h.left]; rfl))
  refine Dk.cut_any (nmT 1) n W h.dk _ (fun e0 => absurd h.fd e0) (fun x he _ hl => ?_) (fun x he _ _ _ _ W' v' hs => ?_) (fun x he _ _ _ hdn => ?_)
  · rw [h.find] at he; cases he
    omega
  · rw [h.find] at he; cases he
    have e1 : modE [e] { e with da := e.da.take (n : Int).toNat, du := min e.du (n : Int).toNat, v := v' } = [{ e with da := e.da.take (n : Int).toNat, du := min e.du (n : Int).toNat, v := v' }] := by
      unfold modE; simp
    rw [e1] at hs
    rw [show Dk.okE c = 0 by unfold Dk.okE; rw [h.left]; rfl]
    exact ⟨rfl, _, _, h.write hs h.nm (by rw [← hd]; rfl) (by show (c.left == 1) = false; rw [h.left]; rfl) (by show c.left - 1 = 0; rw [h.left]) h.cap⟩
  · rw [hdc] at hdn; cases hdn
theorem size_one (h : JD w W p mb e c D v X) : Calls Tryz.prog 11 #[Pt p, .string ⟨#[106, 49]⟩] W fun r W' => r = .returned (.tuple #[.int .i64 (D.length : Nat), .int .i64 0]) ∧ W' = W := by
  rw [← nm1]
  refine Dk.size_any (nmT 1) W h.dk _ (fun e0 => absurd h.fd e0) (fun x he _ => ?_)
  rw [h.find] at he; cases he
  rw [h.da]
  exact ⟨rfl, rfl⟩
theorem writes_one (h : JD w W p mb e c D v X) : Calls Tryz.prog 16 #[Pt p] W fun r W' => r = .returned (.int .i64 c.wr) ∧ W' = W := Dk.writes_any W h.dk
theorem image_one (h : JD w W p mb e c D v X) : Calls Tryz.prog 17 #[Pt p] W fun r W' => r = .returned (.string ⟨(Dk.imgL ([e].map Dk.fl)).toArray⟩) ∧ Below W.heap.size W W' := Dk.image_any W h.dk _ (fun W' b => ⟨rfl, b⟩)
end
end Go.Proofs.YtfijjlkhgelmoaaGreatDoor
set_option linter.unusedVariables false
set_option linter.unusedSimpArgs false
namespace Go.Proofs.YtfijjlkhgelmoaaGreatDoor
open Go.RowKit Go.Proofs.SealMath Go.Proofs.DiskMath
theorem jc1 : jcE 1 0 64 = 0 := by decide
def upQ (u : Up) : Uq := (u.s, u.k, u.i, ⟨u.c.toArray⟩)
theorem plU_map (L : List Up) (a : Nat) : (plU a L).map uQ = L.map upQ := by
  have h := congrArg (List.map upQ) (plU_fst L a)
  rw [List.map_map] at h
  exact h
/-- Updates that may be written, with numbers one behind the other. -/
structure GL (L : List Up) : Prop where
  g : ∀ u ∈ L, Gu u
  n : Nu L
theorem lk_good {L : List Up} (h : GL L) (D : List UInt8) (hD : D = flU L) : lkL ⟨D.toArray⟩ 0 64 = plU 0 L ∧ lkE ⟨D.toArray⟩ 0 64 = 0 := by
  have h1 := told_good ⟨D.toArray⟩ L h.g (by rw [hD])
  have h2 : okB (0 : Int).toNat (ups ⟨D.toArray⟩ 64 0) = true := by
    rw [h1]
    exact (okB_iff _ _).2 (ok_plU h.n)
  unfold lkL lkE
  rw [if_pos jc1, if_pos jc1, if_pos h2, if_pos h2]
  exact ⟨h1, rfl⟩
theorem lk_bad {L : List Up} (h : GL L) (D : List UInt8) (k : Nat) (p y : List UInt8) (hk1 : 1 ≤ k) (hk2 : k ≤ 255) (hp : p.length ≤ 65536) (hD : D = flU L ++ frL k p ++ y) (hn : (unA k ⟨p.toArray⟩ 64).1.s ≠ L.length + 1) : lkL ⟨D.toArray⟩ 0 64 = [] ∧ lkE ⟨D.toArray⟩ 0 64 = 80 := by
  have h1 := told_bad ⟨D.toArray⟩ L k p y h.g hk1 hk2 hp (by rw [hD]) hn
  have h2 : ¬ okB (0 : Int).toNat (ups ⟨D.toArray⟩ 64 0) = true := fun h3 => h1 ((okB_iff _ _).1 h3)
  unfold lkL lkE
  rw [if_pos jc1, if_pos jc1, if_neg h2, if_neg h2]
  exact ⟨rfl, rfl⟩
/-- What Look answers of a good file. -/
def LkG (L : List Up) (W : World) (r : Ending) (W' : World) : Prop := ∃ a cp, r = .returned (.tuple #[.slice a L.length cp, .int .i64 ((flU L).length : Nat), .int .i64 0]) ∧ EU.Row W' (.slice a L.length cp) (L.map upQ) ∧ (∀ k, (Value.slice a L.length cp).ownBlock = some k → W.heap.size ≤ k) ∧ Below W.heap.size W W'
/-- .. of a bad one. -/
def LkN (W : World) (r : Ending) (W' : World) : Prop := ∃ a cp, r = .returned (.tuple #[.slice a 0 cp, .int .i64 0, .int .i64 80]) ∧ Below W.heap.size W W'
section
variable {w W : World} {p mb : Nat} {e : Ent} {c : Dk.Ctl} {D : List UInt8} {v : Value} {X : List Uq}
theorem look_one (h : JD w W p mb e c D v X) (ht : Tb w) : Calls Tryz.prog 12 #[Pt p, .int .i64 1, .int .i64 0, .int .i64 64] W (LkO ⟨D.toArray⟩ 0 64 W) := by
  have h1 := look_yes 0 64 W h.dk h.find h.fd (by have := h.len; rw [h.da]; omega) (ht.at h.bl).1 (ht.at h.bl).2
  rw [h.da] at h1
  exact h1
theorem look_good {L : List Up} (hL : GL L) (h : JD w W p mb e c (flU L) v X) (ht : Tb w) : Calls Tryz.prog 12 #[Pt p, .int .i64 1, .int .i64 0, .int .i64 64] W (LkG L W) := by
  refine (look_one h ht).mono ?_
  rintro r W' ⟨u, rfl, hr, hk, hb⟩
  obtain ⟨e1, e2⟩ := lk_good hL _ rfl
  have h1 := rowQ hr
  rw [e1, plU_map] at h1
  rw [e1, e2, plU_end]
  obtain ⟨a, cp, e3, -⟩ := h1.form
  rw [List.length_map] at e3
  subst e3
  exact ⟨a, cp, rfl, h1, hk, hb⟩
theorem look_bad {L : List Up} (hL : GL L) (h : JD w W p mb e c D v X) (ht : Tb w) (k : Nat) (q y : List UInt8) (hk1 : 1 ≤ k) (hk2 : k ≤ 255) (hp : q.length ≤ 65536) (hD : D = flU L ++ frL k q ++ y) (hn : (unA k ⟨q.toArray⟩ 64).1.s ≠ L.length + 1) : Calls Tryz.prog 12 #[Pt p, .int .i64 1, .int .i64 0, .int .i64 64] W (LkN W) := by
  refine (look_one h ht).mono ?_
  rintro r W' ⟨u, rfl, hr, -, hb⟩
  obtain ⟨e1, e2⟩ := lk_bad hL D k q y hk1 hk2 hp hD hn
  rw [e1] at hr
  rw [e1, e2]
  obtain ⟨a, cp, e3, -⟩ := slice_form hr
  subst e3
  exact ⟨a, cp, rfl, hb⟩
end
end Go.Proofs.YtfijjlkhgelmoaaGreatDoor
set_option linter.unusedVariables false
set_option linter.unusedSimpArgs false
namespace Go.Proofs.YtfijjlkhgelmoaaGreatDoor
open Go.RowKit Go.Proofs.SealMath Go.Proofs.DiskMath
set_option maxHeartbeats 4000000 in
theorem age_one {p mb : Nat} {es : List Ent} {c : Dk.Ctl} (w : World) (h : Dk.DK w p mb es c) :
    Calls Tryz.prog 65 #[Pt p] w fun e w' => e = .returned (.int .i64 c.age) ∧ w' = w := by
  obtain ⟨h0, h1, h2, h3, h4, h5, h6, h7⟩ := h.cell
  go_enter Tryz.func65, Tryz.ntmps65
  go_wp2_with fail
  refine (Dk.self_any w h).mono ?_
  rintro e w' ⟨rfl, rfl⟩
  go_wp2
  go_ret
  exact ⟨rfl, rfl⟩
section
variable {w W : World} {p mb : Nat} {e : Ent} {c : Dk.Ctl} {D : List UInt8} {v : Value} {X : List Uq}
set_option maxHeartbeats 1000000 in
set_option maxRecDepth 100000 in
/-- cut at the file's end does nothing. -/
theorem jcut_one (h : JD w W p mb e c D v X) (n : Nat) (hn : n = D.length) : Calls Tryz.prog 47 #[Pt p, .string ⟨#[106, 49]⟩, .int .i64 n] W fun r W' => r = .returned (.int .i64 0) ∧ W' = W := by
  have h1 := size_one h
  rw [← hn] at h1
  clear h hn
  go_enter Tryz.func47, Tryz.ntmps47
  go_wp2_with fail
  refine h1.mono ?_
  clear h1
  rintro r w1 ⟨rfl, rfl⟩
  go_wp2
  go_ret
  exact ⟨rfl, rfl⟩
set_option maxHeartbeats 1000000 in
set_option maxRecDepth 100000 in
/-- A journal over the disk. -/
theorem over_one (h : JD w W p mb e c D v X) (ht : Tb w) : Calls Tryz.prog 48 #[Pt p, .int .i64 1, .int .i64 0, .int .i64 64] W fun r W' => ∃ j, r = .returned (Pt j) ∧ W.heap.size ≤ j ∧ W'.heap[j]? = some (.cells #[Pt p, .int .i64 c.age, .string ⟨#[106, 49]⟩, .int .i64 64, .int .i64 0, .int .i64 0] 92 (0, 0)) ∧ Below W.heap.size W W' := by
  have h1 := fun (V : World) (b : Below W.heap.size W V) => age_one V (h.below b).dk
  have h2 := fun (V : World) (b : Below W.heap.size W V) => name_any 1 V (ht.at (h.below b).bl).2
  rw [nm1] at h2
  clear h ht
  go_enter Tryz.func48, Tryz.ntmps48
  go_wp2_with fail
  refine (h1 _ (Below.refl _ _)).mono ?_
  clear h1
  rintro r w1 ⟨rfl, rfl⟩
  go_wp2_with fail
  refine (h2 _ (Below.refl _ _)).mono ?_
  clear h2
  rintro r w2 ⟨rfl, b2⟩
  go_wp2
  go_ret
  exact ⟨_, rfl, b2.size, heap_alloc_last w2 _, b2.alloc b2.size _⟩
/-- Open of a file of whole frames. -/
def OpG (L : List Up) (W : World) (r : Ending) (W' : World) : Prop := ∃ j a cp, r = .returned (.tuple #[Pt j, .slice a L.length cp, .int .i64 0]) ∧ EU.Row W' (.slice a L.length cp) (L.map upQ) ∧ Below W.heap.size W W'
set_option maxHeartbeats 4000000 in
set_option maxRecDepth 100000 in
theorem open_good {L : List Up} (hL : GL L) (hn : L.length ≤ 1048576) (h : JD w W p mb e c (flU L) v X) (ht : Tb w) : Calls Tryz.prog 18 #[Pt p, .int .i64 1, .int .i64 0, .int .i64 64] W (OpG L W) := by
  have h1 := look_good hL h ht
  have h2 := fun (V : World) (b : Below W.heap.size W V) => name_any 1 V (ht.at (h.below b).bl).2
  rw [nm1] at h2
  have h3 := fun (V : World) (b : Below W.heap.size W V) => jcut_one (h.below b) (flU L).length rfl
  have h4 := fun (V : World) (b : Below W.heap.size W V) => over_one (h.below b) ht
  obtain ⟨n, en⟩ : ∃ n, n = L.length := ⟨_, rfl⟩
  obtain ⟨M, eM⟩ : ∃ M, M = (flU L).length := ⟨_, rfl⟩
  unfold OpG
  unfold LkG at h1
  rw [← en, ← eM] at h1
  rw [← en]
  rw [← eM] at h3
  have hn2 : n ≤ 1048576 := by omega
  clear h ht en eM hL hn
  go_enter Tryz.func18, Tryz.ntmps18
  go_wp2_with fail
  refine h1.mono ?_
  clear h1
  rintro r w1 ⟨a, cp, rfl, k1, k2, b1⟩
  go_wp2_with fail
  refine (h2 w1 b1).mono ?_
  clear h2
  rintro r w2 ⟨rfl, b2⟩
  have b12 := chain b1 b2 (Nat.le_refl _)
  go_wp2_with fail
  refine (h3 w2 b12).mono ?_
  clear h3
  rintro r w3 ⟨rfl, rfl⟩
  have h4' := h4 w3 b12
  clear h4
  go_wp2_with fail
  refine h4'.mono ?_
  clear h4'
  rintro r w4 ⟨j, rfl, hj, hb, b4⟩
  have z4 : w4.cell? ⟨j, 4, none⟩ = some (.int .i64 0) := by rw [cell_of_row _ _ 4 _ _ (0, 0) hb]; rfl
  have f4 : w4.frozen? ⟨j, 4, none⟩ = false := frozen_of_row _ _ _ _ _ hb
  have hk4 : EU.Row w4 (.slice a n cp) (L.map upQ) := (Rw.El.Row.below (Rw.El.Row.below k1 b2) b4)
  have hs1 : w1.heap.size ≤ w3.heap.size := b2.size
  have hlt := fun k hk => row_lt k1 (k := k) hk
  have st : Stay (fun k => k = j) w4 (w4.setCell ⟨j, 4, none⟩ (.int .i64 (n : Int))) := Stay.setCell (F := fun k => k = j) (p := ⟨j, 4, none⟩) (Stay.refl _ w4) (fun _ => rfl) _
  have HF := Hid.mk (show EU.Row (w4.setCell ⟨j, 4, none⟩ (.int .i64 (n : Int))) (.slice a n cp) (L.map upQ) ∧ Below W.heap.size W (w4.setCell ⟨j, 4, none⟩ (.int .i64 (n : Int))) from
    ⟨row_kept hk4 st (fun k hk e => by have := hlt k hk; have e' : k = j := e; omega), (chain b12 b4 (Nat.le_refl _)).trans (st.toBelow (fun k hk e => by have e' : k = j := e; have := b12.size; omega) (Nat.le_trans b12.size b4.size))⟩)
  have hw : wrap64 (n : Int) = (n : Int) := by unfold wrap64; omega
  clear k1 k2 b1 b2 b12 b4 hb hk4 hs1 hlt st hj
  go_wp2
  go_ret3
  exact ⟨j, a, cp, rfl, HF.out⟩
set_option maxHeartbeats 4000000 in
set_option maxRecDepth 100000 in
theorem open_bad {L : List Up} (hL : GL L) (h : JD w W p mb e c D v X) (ht : Tb w) (k : Nat) (q y : List UInt8) (hk1 : 1 ≤ k) (hk2 : k ≤ 255) (hp : q.length ≤ 65536) (hD : D = flU L ++ frL k q ++ y) (hn : (unA k ⟨q.toArray⟩ 64).1.s ≠ L.length + 1) :
    Calls Tryz.prog 18 #[Pt p, .int .i64 1, .int .i64 0, .int .i64 64] W fun r W' => r = .returned (.tuple #[.pointer none, .slice none 0 0, .int .i64 80]) ∧ Below W.heap.size W W' := by
  have h1 := look_bad hL h ht k q y hk1 hk2 hp hD hn
  clear h ht hL hk1 hk2 hp hD hn
  go_enter Tryz.func18, Tryz.ntmps18
  go_wp2_with fail
  refine h1.mono ?_
  clear h1
  rintro r w1 ⟨a, cp, rfl, b1⟩
  go_wp2
  go_ret3
  exact ⟨rfl, b1⟩
end
end Go.Proofs.YtfijjlkhgelmoaaGreatDoor
