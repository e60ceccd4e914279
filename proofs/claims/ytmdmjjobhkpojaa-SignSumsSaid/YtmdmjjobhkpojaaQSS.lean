/-
  DERIVED. SignSums: what is kept from round to round.
-/
import Derived.Test.YtmdmjjobhkpojaaQSame
import Derived.Test.YtmdmjjobhkpojaaQRefC
import Derived.Test.YtmdmjjobhkpojaaZGot
import Derived.Test.YtmdmjjobhkpojaaQSgd
set_option linter.unusedVariables false
set_option linter.unusedSimpArgs false
namespace Go.Proofs.Ytmdmjjobhkpojaa
open Go.RowKit Go.Shelf Go.Proofs.BitMath Go.Proofs.FloatMath
/-- The sums that are told: none with a refusal. -/
def smW (wd dm : Nat) (sd : Int) (v : List Zp) : List Zp := if ckE dm v = 0 then sumsL wd sd v else []
/-- Sums' answer, in few words. -/
def SmO (W : List Zp) (L : Nat) (c : Int) (w : World) (e : Ending) (w' : World) : Prop := ∃ a k, e = .returned (.tuple #[.slice a L k, .int .i64 c]) ∧ zE.Row w' (.slice a L k) W ∧ (∀ b, (Value.slice a L k).ownBlock = some b → w.heap.size ≤ b) ∧ Below w.heap.size w w'
theorem sums_g (b wd dm : Nat) (sd : Int) (la : Option Addr) (c : Nat) (v : List Zp) (w : World) (hs : SgAt w b wd dm sd) (hd : 0 < dm) (hd2 : dm ≤ 1024) (hw : 2 ≤ wd) (hw2 : wd ≤ 1024) (hv : zE.At w la v) :
    Calls Try.prog 16 #[Pt b, .slice la v.length c] w (SmO (smW wd dm sd v) (smW wd dm sd v).length (ckE dm v) w) := by
  refine sums_any b wd dm sd la c v w hs hd hd2 hw hw2 hv _ ?_
  intro e w' hO hb
  rcases hO with ⟨hk, rfl⟩ | ⟨g, cap, hk, hg, hr, rfl⟩
  · have e1 : smW wd dm sd v = [] := by unfold smW; rw [if_neg hk]
    rw [e1]
    exact ⟨none, 0, rfl, El.Row.nil zE w', fun b hb => (by cases hb), hb⟩
  · have e1 : smW wd dm sd v = sumsL wd sd v := by unfold smW; rw [if_pos hk]
    rw [e1, sumsL_len]
    exact ⟨some ⟨g, 0, none⟩, cap, by rw [hk], hr, fun b hb => by cases hb; exact hg, hb⟩
theorem rsums_g (b wd dm : Nat) (sd : Int) (la : Option Addr) (c : Nat) (v : List Zp) (w : World) (hs : SgAt w b wd dm sd) (hd : 0 < dm) (hd2 : dm ≤ 1024) (hw : 2 ≤ wd) (hw2 : wd ≤ 1024) (hv : zE.At w la v) :
    Calls Try.prog 17 #[Pt b, .slice la v.length c] w (SmO (smW wd dm sd v) (smW wd dm sd v).length (ckE dm v) w) := by
  refine rsums_any b wd dm sd la c v w hs hd hd2 hw hw2 hv _ ?_ ?_
  · intro hk w' hb
    have e1 : smW wd dm sd v = [] := by unfold smW; rw [if_neg hk]
    rw [e1]
    exact ⟨none, 0, rfl, El.Row.nil zE w', fun b hb => (by cases hb), hb⟩
  · intro hk o w' hG
    have e1 : smW wd dm sd v = sumsL wd sd v := by unfold smW; rw [if_pos hk]
    rw [e1]
    obtain ⟨a, k, rfl, -⟩ := hG.row.form
    exact ⟨a, k, by rw [hk], hG.row, hG.new, hG.bel⟩
theorem smW_len (wd dm : Nat) (sd : Int) (v : List Zp) (h : wd ≤ 1024) : (smW wd dm sd v).length ≤ 512 := by
  unfold smW
  split
  · rw [sumsL_len]; omega
  · simp
/-- From round to round. -/
structure SSI (W0 : World) (bf n : Nat) (want : Nat → List Zp) (i : Nat) (gv wv : Value) (gs ws : List Value) (W : World) : Prop where
  gl : gs.length = i
  wl : ws.length = i
  st : Stay (fun k => k = bf) W0 W
  full : ∃ F : List Zp, F.length = n + 64 ∧ zE.Row W (.slice (some ⟨bf, 0, none⟩) (n + 64) (n + 64)) F
  ls : EC.Got W0.heap.size W gv gs want
  wn : EC.Got W0.heap.size W wv ws want
  two : ∀ b, gv.ownBlock = some b → wv.ownBlock ≠ some b
theorem got_stay {B : Nat} {W W' : World} {gv : Value} {gs : List Value} {want : Nat → List Zp} (h : EC.Got B W gv gs want) {F : Nat → Prop} (s : Stay F W W') (hF : ∀ k, k < W.heap.size → B ≤ k → ¬ F k) : EC.Got B W' gv gs want :=
  ⟨row_kept h.row s (fun k hk => hF k (row_lt h.row hk) (h.gnew k hk)), fun j x hx => row_kept (h.each j x hx) s (fun k hk => hF k (row_lt (h.each j x hx) hk) (h.new j x k hx hk)), h.gnew, h.new, h.apart⟩
theorem got_beside {B : Nat} {W W' : World} {gv lv : Value} {gs : List Value} {want : Nat → List Zp} {n : Nat} {xs : List Value} (h : EC.Got B W gv gs want) (hl : W.ownsRow 0 EC.sl 1 lv n xs) (s : Stay (fun k => lv.ownBlock = some k) W W') (two : ∀ b, lv.ownBlock = some b → gv.ownBlock ≠ some b) : EC.Got B W' gv gs want :=
  ⟨row_kept h.row s (fun k hk e => two k e hk), fun j x hx => row_kept (h.each j x hx) s (fun k hk e => El.two okC2 hl (h.each j x hx) e hk), h.gnew, h.new, h.apart⟩
/-- Behind a round: all but full stands as it stood; full has some contents; a list is put behind each. -/
theorem SSI.next {W0 W W' : World} {bf n i : Nat} {want : Nat → List Zp} {ga wa : Option Addr} {gc wc : Nat} {gs ws : List Value} (h : SSI W0 bf n want i (.slice ga i gc) (.slice wa i wc) gs ws W) (hbf : bf < W0.heap.size) (s : Stay (fun k => k = bf) W W') (F : List Zp) (hF : F.length = n + 64) (hr : zE.Row W' (.slice (some ⟨bf, 0, none⟩) (n + 64) (n + 64)) F)
    (x y : Value) (hx : zE.Row W' x (want i)) (hy : zE.Row W' y (want i)) (nx : ∀ b, x.ownBlock = some b → W.heap.size ≤ b) (ny : ∀ b, y.ownBlock = some b → W.heap.size ≤ b) (x1 : x.oneCell' = true) (y1 : y.oneCell' = true) (hi : i ≤ 5) :
    ∃ a1 c1 W1 a2 c2 W2, (Builtin.append_ #[43, 43] 43 #[.slice ga i gc, .slice (some ⟨W'.heap.size, 0, none⟩) 1 1]).run Try.prog (W'.alloc (.cells #[x] 23)) = .ok (.slice a1 (i + 1) c1) W1 ∧
      (Builtin.append_ #[43, 43] 43 #[.slice wa i wc, .slice (some ⟨W1.heap.size, 0, none⟩) 1 1]).run Try.prog (W1.alloc (.cells #[y] 23)) = .ok (.slice a2 (i + 1) c2) W2 ∧
      SSI W0 bf n want (i + 1) (.slice a1 (i + 1) c1) (.slice a2 (i + 1) c2) (gs ++ [x]) (ws ++ [y]) W2 := by
  have hWs : W0.heap.size ≤ W.heap.size := h.st.size
  have hWs' : W.heap.size ≤ W'.heap.size := s.size
  have l1 : EC.Got W0.heap.size W' (.slice ga i gc) gs want := got_stay h.ls s (fun k _ hk e => by have : k = bf := e; omega)
  have l2 : EC.Got W0.heap.size W' (.slice wa i wc) ws want := got_stay h.wn s (fun k _ hk e => by have : k = bf := e; omega)
  have hgw : ∀ b, (Value.slice ga i gc).ownBlock = some b → b < W.heap.size := fun b hb => row_lt h.ls.row hb
  have hww : ∀ b, (Value.slice wa i wc).ownBlock = some b → b < W.heap.size := fun b hb => row_lt h.wn.row hb
  have hgi : i = gs.length := h.gl.symm
  have hwi : i = ws.length := h.wl.symm
  have m1 := El.more okC2 W' gs ga gc (by rw [h.gl]; have := l1.row; rw [h.gl] at this; exact this) (by omega) x x1
  rw [h.gl] at m1
  obtain ⟨a1, c1, W1, hap1, ro1, st1, loc1⟩ := m1
  obtain ⟨a1', c1', W1', hap1', g1, bel1, keep1⟩ := El.Got.push okC2 h.ls l1 hWs (Nat.le_trans hWs hWs') hx nx x1 hi
  have e1 := hap1.symm.trans hap1'
  simp only [Result.ok.injEq, Value.slice.injEq] at e1
  obtain ⟨⟨rfl, -, rfl⟩, rfl⟩ := e1
  have l3 : EC.Got W0.heap.size W1 (.slice wa i wc) ws want := got_beside l2 l1.row st1 (fun b hb => h.two b hb)
  have hs1 : W'.heap.size ≤ W1.heap.size := st1.size
  have m2 := El.more okC2 W1 ws wa wc (by rw [h.wl]; have := l3.row; rw [h.wl] at this; exact this) (by omega) y y1
  rw [h.wl] at m2
  obtain ⟨a2, c2, W2, hap2, ro2, st2, loc2⟩ := m2
  obtain ⟨a2', c2', W2', hap2', g2, bel2, keep2⟩ := El.Got.push okC2 h.wn l3 hWs (by omega) (keep1 hy) ny y1 hi
  have e2 := hap2.symm.trans hap2'
  simp only [Result.ok.injEq, Value.slice.injEq] at e2
  obtain ⟨⟨rfl, -, rfl⟩, rfl⟩ := e2
  have htw : ∀ b, (Value.slice a1 (i + 1) c1).ownBlock = some b → (Value.slice wa i wc).ownBlock ≠ some b := fun b hb hw => by
    rcases loc1 b hb with e | e
    · exact h.two b e hw
    · have := hww b hw; omega
  have g3 : EC.Got W0.heap.size W2 (.slice a1 (i + 1) c1) (gs ++ [x]) want := got_beside g1 l3.row st2 (fun b hb hg => htw b hg hb)
  have sA : Stay (fun k => k = bf) W0 W1 := (h.st.trans s).andThen st1 (fun k hk e => by have := h.ls.gnew k e; omega)
  have sB : Stay (fun k => k = bf) W0 W2 := sA.andThen st2 (fun k hk e => by have := h.wn.gnew k e; omega)
  refine ⟨a1, c1, W1, a2, c2, W2, hap1, hap2, ⟨by simp [h.gl], by simp [h.wl], sB, ⟨F, hF, ?_⟩, g3, g2, ?_⟩⟩
  · exact row_kept (row_kept hr st1 (fun k hk e => by cases hk; have h9 : W0.heap.size ≤ bf := h.ls.gnew bf e; omega)) st2 (fun k hk e => by cases hk; have h9 : W0.heap.size ≤ bf := h.wn.gnew bf e; omega)
  · intro b hb hw
    rcases loc2 b hw with e | e
    · exact htw b hb e
    · have := row_lt g1.row hb; omega
end Go.Proofs.Ytmdmjjobhkpojaa
