/-
  DERIVED. JRLook, JBoth, JLawL, JLawM, JTable, LookRow, as one text.
-/
import Derived.Test.YtjkhhjboejkafaaDoorLzAU
import Derived.Test.YtjkhhjboejkafaaDoorLzAT
import Derived.Test.YtjkhhjboejkafaaDoorLzAW
import Derived.Test.YtjkhhjboejkafaaDoorLzAE
import Derived.Test.YtjkhhjboejkafaaDoorLzAF
import Derived.Test.YtjkhhjboejkafaaDoorLzAR
import Derived.Test.YtjkhhjboejkafaaDoorLzAQ
import Derived.Test.YtjkhhjboejkafaaDoorLzAJ
import Derived.Test.YtjkhhjboejkafaaDoorCards
import Derived.Test.YtjkhhjboejkafaaDoorTie
import Derived.ProofKit
import Derived.LaidMore
import Derived.SizedLaws
import Derived.OpenShut
import Derived.Lib.LaidTab
import Derived.Lib.SmallJoins
import Derived.Stop.Joined
import Derived.SevenTiedAt
import Derived.ChangeMaps5
set_option linter.unusedVariables false
set_option linter.unusedSimpArgs false
namespace Go.Proofs.YtjkhhjboejkafaaDoor
open Go.RowKit Go.Shelf Go.Proofs.SealMath Go.Proofs.DiskMath
theorem jc7 (s x : Int) : jcE 7 s x = if isW x = true then (if s = 0 ∨ (1 ≤ s ∧ s ≤ 1152921504606846976) then 0 else 51) else 10 := by
  unfold jcE
  rw [if_pos (by decide)]
theorem rgoes_any (s x : Int) (w : World) : Calls Tryd.prog 31 #[.int .i64 7, .int .i64 s, .int .i64 x] w fun r w' => r = .returned (.int .i64 (jcE 7 s x)) ∧ w' = w := by
  have h2 := rWidth_any x w
  rw [jc7]
  cases c2 : isW x with
  | false =>
    rw [c2] at h2
    rw [if_neg (by simp)]
    go_enter Tryd.func31, Tryd.ntmps31
    go_wp2_with (go_at_call 50; refine h2.mono ?_; rintro r w2 ⟨rfl, rfl⟩)
    go_ret
    exact ⟨rfl, rfl⟩
  | true =>
    rw [c2] at h2
    rw [if_pos rfl]
    by_cases c3 : s < 0
    · rw [if_neg (by omega)]
      go_enter Tryd.func31, Tryd.ntmps31
      go_wp2_with (go_at_call 50; refine h2.mono ?_; rintro r w2 ⟨rfl, rfl⟩)
      go_ret
      exact ⟨rfl, rfl⟩
    · by_cases c4 : 1152921504606846976 < s
      · rw [if_neg (by omega)]
        go_enter Tryd.func31, Tryd.ntmps31
        go_wp2_with (go_at_call 50; refine h2.mono ?_; rintro r w2 ⟨rfl, rfl⟩)
        go_ret
        exact ⟨rfl, rfl⟩
      · rw [if_pos (by omega)]
        go_enter Tryd.func31, Tryd.ntmps31
        go_wp2_with (go_at_call 50; refine h2.mono ?_; rintro r w2 ⟨rfl, rfl⟩)
        go_ret
        exact ⟨rfl, rfl⟩
theorem RtO.lk {b : ByteArray} {S : Nat} {x : Int} {w w' : World} {r : Ending} (h : jcE 7 S x = 0) (k : RtO b S x w r w') : LkO b S x w r w' := by
  have e1 : lkL b S x = tlL b S x := by unfold lkL tlL; rw [if_pos h]; rfl
  have e2 : lkE b S x = tlE b S x := by unfold lkE tlE; rw [if_pos h]; rfl
  unfold LkO
  rw [e1, e2]
  exact k
set_option maxHeartbeats 4000000 in
set_option maxRecDepth 100000 in
theorem rlook5_any {d : Nat} {fs : List Dk.Fi} {fv : Value} {cap left cuts cnt : Int} {off dn : Bool} (s x : Int) (w : World) (h : Dk.RD4 w d fs fv cap off left dn cuts cnt) (hl : fs.length ≤ 4611686018427387904) (i : Nat) (hi : i < fs.length) (hk : Dk.lkD off (nmT 7) fs = ((i : Int), 0)) (hs : fs[i].d.size ≤ 1073741824) (hp : Pow w) :
    Calls Tryd.prog 12 #[Pt d, .int .i64 7, .int .i64 s, .int .i64 x] w (LkO fs[i].d s x w) := by
  have hg := rgoes_any s x w
  by_cases hE : jcE 7 s x = 0
  · obtain ⟨hW, hs0⟩ := jc0 hE
    obtain ⟨S, hS⟩ : ∃ S : Nat, s = S := ⟨s.toNat, by omega⟩
    subst hS
    have hSb : S ≤ 1152921504606846976 := by omega
    rw [hE] at hg
    have hnm := rname_any 7 w hp
    have keep : ∀ W, Below w.heap.size w W → Dk.RD4 W d fs fv cap off left dn cuts cnt := fun W b => ⟨(b.block d (Array.getElem?_eq_some_iff.1 h.box).1).trans h.box, row_kept (F := fun _ => False) h.row (.below b) (fun _ _ h => h)⟩
    have hsz := fun W (b : Below w.heap.size w W) => Dk.rsize_yes (nmT 7) W (keep W b) hl i hi hk
    have hrd := fun W (b : Below w.heap.size w W) => Dk.rread_yes (nmT 7) W (keep W b) hl i hi hk (by omega)
    have hnm2 := fun W (b : Below w.heap.size w W) => rname_any 7 W (hp.lat b)
    generalize fs[i].d = D at hs hsz hrd ⊢
    have htd := fun W => rtold_any D S x W hW hSb hs
    have HE := Hid.mk hE
    clear h hl hi hk hs hp hE hW hs0 hSb keep
    go_enter Tryd.func12, Tryd.ntmps12
    go_wp2_with fail
    refine hg.mono ?_
    clear hg
    rintro r w1 ⟨rfl, rfl⟩
    go_wp2_with fail
    refine hnm.mono ?_
    clear hnm
    rintro r w2 ⟨rfl, b2⟩
    have h2 := hsz w2 b2
    clear hsz
    go_wp2_with fail
    refine h2.mono ?_
    clear h2
    rintro r w3 ⟨rfl, rfl⟩
    have h3 := hnm2 w3 b2
    clear hnm2
    go_wp2_with fail
    refine h3.mono ?_
    clear h3
    rintro r w4 ⟨rfl, b4⟩
    have b24 := chain b2 b4 (Nat.le_refl _)
    have h4 := hrd w4 b24
    clear hrd
    go_wp2_with fail
    refine h4.mono ?_
    clear h4
    rintro r w5 ⟨rfl, rfl⟩
    have h5 := htd w5
    clear htd
    go_wp2_with fail
    refine h5.mono ?_
    clear h5
    rintro r w6 hR
    obtain ⟨v, rfl, k1, k2, k3⟩ := hR.lk HE.out
    have HF := Hid.mk (show LkO D S x w1 (.returned (.tuple #[v, .int .i64 (endU (lkL D S x) : Nat), .int .i64 (lkE D S x)])) w6 from ⟨v, rfl, k1, fun k hk => Nat.le_trans b24.size (k2 k hk), chain b24 k3 (Nat.le_refl _)⟩)
    clear k1 k2 k3 b2 b4 b24 hR
    go_wp2
    refine bodyPost_ret (v := .tuple #[v, .int .i64 (endU (lkL D S x) : Nat), .int .i64 (lkE D S x)]) (by simp [results, Tryd.results12, go_sem]; try rfl) rfl ?_
    exact HF.out
  · have hne : (jcE 7 s x != 0) = true := by simpa using hE
    generalize fs[i].d = D
    have eL : lkL D s x = [] := by unfold lkL; rw [if_neg hE]
    have eE : lkE D s x = jcE 7 s x := by unfold lkE; rw [if_neg hE]
    obtain ⟨E, hEE⟩ : ∃ E, E = jcE 7 s x := ⟨_, rfl⟩
    rw [← hEE] at hg hne eE
    have HE := Hid.mk (And.intro eL eE)
    clear h hl hk hs hp hE hEE eL eE
    go_enter Tryd.func12, Tryd.ntmps12
    go_wp2_with (go_at_call 31; refine hg.mono ?_; rintro r w1 ⟨rfl, rfl⟩)
    refine bodyPost_ret (v := .tuple #[.slice none 0 0, .int .i64 0, .int .i64 E]) (by simp [results, Tryd.results12, go_sem]; try rfl) rfl ?_
    exact ⟨.slice none 0 0, by rw [HE.out.1, HE.out.2]; rfl, by rw [HE.out.1]; exact ⟨rfl, .inl ⟨rfl, rfl⟩⟩, fun k hk => by simp [Value.ownBlock] at hk, Below.refl _ _⟩
end Go.Proofs.YtjkhhjboejkafaaDoor
set_option linter.unusedVariables false
set_option linter.unusedSimpArgs false
namespace Go.Proofs.YtjkhhjboejkafaaDoor
open Go.RowKit Go.Proofs.SealMath Go.Proofs.DiskMath
theorem nm7 : nmT 7 = ⟨#[106, 55]⟩ := by kernel_rfl
theorem nm7b : (nmT 7).data.toList = [106, 55] := by rw [nm7]
theorem isNm7 : Dk.isNm (nmT 7).data.toList = true := by rw [nm7b]; decide
theorem Pow.same {w W : World} (h : Pow w) (e : W.heap[1]? = w.heap[1]?) : Pow W := by
  have hgn : Tryd.prog.globalNamed "internal/strconv.uint64pow10" = some 1 := by kernel_rfl
  unfold Pow Lib.TabIs World.var? at h ⊢
  rw [hgn] at h ⊢
  simp only [Option.bind_some] at h ⊢
  rw [e]
  exact h
/-- Both disks. -/
structure JB (w0 W : World) (B p mb d : Nat) (e : Ent) (c : Dk.Ctl) (b : ByteArray) (fv : Value) : Prop where
  dk : Dk.DK W p mb [e] c
  rd : Dk.RD4 W d [⟨nmT 7, b, 0⟩] fv 1048576 false 0 false 0 2
  lt : ∀ k, (Dk.Foot p mb [e] k ∨ k = d ∨ fv.ownBlock = some k) → k < B
  tab : Tab W
  pow : Pow W
  pos : 1 < B
  sz : B ≤ W.heap.size
  nm : e.nm = (nmT 7).data.toList
  da : e.da = b.data.toList
  off : c.off = false
  wb : w0.heap.size ≤ B
  bl : Below w0.heap.size w0 W
theorem JB.keep {w0 W W' : World} {B p mb d : Nat} {e : Ent} {c : Dk.Ctl} {b : ByteArray} {fv : Value} {F : Nat → Prop} (h : JB w0 W B p mb d e c b fv) (s : Stay F W W') (hF : ∀ k, k < B → ¬ F k) : JB w0 W' B p mb d e c b fv where
  dk := h.dk.kept s (fun k hk => hF k (h.lt k (.inl hk)))
  rd := ⟨(s.block d (Array.getElem?_eq_some_iff.1 h.rd.box).1 (hF d (h.lt d (.inr (.inl rfl))))).trans h.rd.box, row_kept h.rd.row s (fun k hk => hF k (h.lt k (.inr (.inr hk))))⟩
  lt := h.lt
  tab := h.tab.same (s.block 0 (by have := h.pos; have := h.sz; omega) (hF 0 (by have := h.pos; omega)))
  pow := h.pow.same (s.block 1 (by have := h.pos; have := h.sz; omega) (hF 1 h.pos))
  pos := h.pos
  sz := Nat.le_trans h.sz s.size
  nm := h.nm
  da := h.da
  off := h.off
  wb := h.wb
  bl := h.bl.trans (s.toBelow (fun k hk => hF k (Nat.lt_of_lt_of_le hk h.wb)) h.bl.size)
theorem JB.below {w0 W W' : World} {B p mb d : Nat} {e : Ent} {c : Dk.Ctl} {b : ByteArray} {fv : Value} (h : JB w0 W B p mb d e c b fv) (s : Below W.heap.size W W') : JB w0 W' B p mb d e c b fv := h.keep (F := fun _ => False) (.below s) (fun _ _ hf => hf)
def xX (b : ByteArray) (s x : Int) : List Uq := (lkL b s x).map uQ
/-- What a Look answers. -/
def LkP (X : List Uq) (n : Nat) (t E : Int) (w : World) (r : Ending) (w' : World) : Prop := ∃ a cp, r = .returned (.tuple #[.slice a n cp, .int .i64 t, .int .i64 E]) ∧ EU.Row w' (.slice a n cp) X ∧ (∀ k, (Value.slice a n cp).ownBlock = some k → w.heap.size ≤ k) ∧ Below w.heap.size w w'
/-- What stands of a list. -/
def IsL (b : ByteArray) (s x : Int) (X : List Uq) (n : Nat) (t E : Int) : Prop := X = xX b s x ∧ n = X.length ∧ t = (endU (lkL b s x) : Nat) ∧ E = lkE b s x
theorem LkO.p {b : ByteArray} {s x : Int} {w w' : World} {r : Ending} {X : List Uq} {n : Nat} {t E : Int} (hL : IsL b s x X n t E) (h : LkO b s x w r w') : LkP X n t E w r w' := by
  obtain ⟨v, rfl, hr, hk, hb⟩ := h
  obtain ⟨rfl, rfl, rfl, rfl⟩ := hL
  have h1 := rowQ hr
  obtain ⟨a, c, e, -⟩ := h1.form
  subst e
  exact ⟨a, c, rfl, h1, hk, hb⟩
theorem look_prog {w0 W : World} {B p mb d : Nat} {e : Ent} {c : Dk.Ctl} {b : ByteArray} {fv : Value} {s x : Int} {X : List Uq} {n : Nat} {t E : Int} (hL : IsL b s x X n t E) (h : JB w0 W B p mb d e c b fv) : Calls Tryd.prog 11 #[Pt p, .int .i64 7, .int .i64 s, .int .i64 x] W (LkP X n t E W) := by
  have hf : findE [e] (nmT 7).data.toList = some e := by unfold findE; simp [h.nm]
  have h0 : Dk.fdE [e] c (nmT 7).data.toList = 0 := by
    unfold Dk.fdE Dk.ckE
    rw [hf, h.off, isNm7]; rfl
  have h1 := look_yes s x W h.dk hf h0 (by have := (h.dk.hf e (by simp)).da; omega) h.tab h.pow
  have e1 : (⟨e.da.toArray⟩ : ByteArray) = b := by rw [h.da]
  rw [e1] at h1
  exact h1.mono fun _ _ h => h.p hL
theorem look_doc {w0 W : World} {B p mb d : Nat} {e : Ent} {c : Dk.Ctl} {b : ByteArray} {fv : Value} {s x : Int} {X : List Uq} {n : Nat} {t E : Int} (hL : IsL b s x X n t E) (h : JB w0 W B p mb d e c b fv) : Calls Tryd.prog 12 #[Pt d, .int .i64 7, .int .i64 s, .int .i64 x] W (LkP X n t E W) := by
  have h2 : b.size ≤ 1073741824 := by
    have h3 := (h.dk.hf e (by simp)).da
    rw [h.da] at h3
    have : b.size = b.data.toList.length := by simp
    omega
  have h1 := rlook5_any s x W h.rd (by simp) 0 (by simp) (Dk.fd_one _ _ _ isNm7) h2 h.pow
  exact h1.mono fun _ _ h => LkO.p hL h
theorem xX_len (b : ByteArray) (s x : Int) : (xX b s x).length ≤ b.size := by
  unfold xX lkL
  rw [List.length_map]
  have := ups_len b x (b.size + 1) 0 (by omega) (by omega)
  split
  · split
    · omega
    · simp
  · simp
/-- Both disks while they are made: what they are, and apart. -/
structure JG (w W : World) (p mb : Nat) (es : List Ent) (c : Dk.Ctl) (d : Nat) (fs : List Dk.Fi) (fv : Value) (cnt : Int) : Prop where
  dk : Dk.DK W p mb es c
  rd : Dk.RD4 W d fs fv 1048576 false 0 false 0 cnt
  ft : ∀ k, Dk.Foot p mb es k → w.heap.size ≤ k ∧ k ≠ d
  fn : ∀ k, fv.ownBlock = some k → w.heap.size ≤ k ∧ ¬ Dk.Foot p mb es k
  wd : w.heap.size ≤ d
  bl : Below w.heap.size w W
theorem JG.prog {w W W' : World} {p mb d : Nat} {es es' : List Ent} {c c' : Dk.Ctl} {fs : List Dk.Fi} {fv : Value} {cnt : Int} (h : JG w W p mb es c d fs fv cnt) (s : Dk.Step W W' p mb es es' c') : JG w W' p mb es' c' d fs fv cnt where
  dk := s.dk
  rd := ⟨(s.stay.block d (Array.getElem?_eq_some_iff.1 h.rd.box).1 (fun hf => (h.ft d hf).2 rfl)).trans h.rd.box, row_kept h.rd.row s.stay (fun k hk => (h.fn k hk).2)⟩
  ft := fun k hk => by
    have hd : d < W.heap.size := (Array.getElem?_eq_some_iff.1 h.rd.box).1
    rcases s.foot k hk with h1 | h1
    · exact h.ft k h1
    · exact ⟨Nat.le_trans h.bl.size h1, by omega⟩
  fn := fun k hk => ⟨(h.fn k hk).1, fun hf => by
    have hl := row_lt h.rd.row hk
    rcases s.foot k hf with h1 | h1
    · exact (h.fn k hk).2 h1
    · omega⟩
  wd := h.wd
  bl := h.bl.trans (s.stay.toBelow (fun k hk hf => by have := (h.ft k hf).1; omega) h.bl.size)
theorem JG.doc {w W W' : World} {p mb d : Nat} {es : List Ent} {c : Dk.Ctl} {fs fs' : List Dk.Fi} {fv fv' : Value} {cnt cnt' : Int} (h : JG w W p mb es c d fs fv cnt) (r : Dk.RD4 W' d fs' fv' 1048576 false 0 false 0 cnt') (s : Stay (fun k => k = d) W W') (hn : ∀ k, fv'.ownBlock = some k → W.heap.size ≤ k) : JG w W' p mb es c d fs' fv' cnt' where
  dk := h.dk.kept s (fun k hk e => (h.ft k hk).2 e)
  rd := r
  ft := h.ft
  fn := fun k hk => ⟨Nat.le_trans h.bl.size (hn k hk), fun hf => by have := h.dk.lt hf; have := hn k hk; omega⟩
  wd := h.wd
  bl := h.bl.trans (s.toBelow (fun k hk hf => by have := h.wd; have e : k = d := hf; omega) h.bl.size)
theorem JG.both {w W : World} {p mb d : Nat} {e : Ent} {c : Dk.Ctl} {b : ByteArray} {fv : Value} (h : JG w W p mb [e] c d [⟨nmT 7, b, 0⟩] fv 2) (ht : Tab w) (hp : Pow w) (h1 : 1 < w.heap.size) (nm : e.nm = (nmT 7).data.toList) (da : e.da = b.data.toList) (off : c.off = false) : JB w W W.heap.size p mb d e c b fv where
  dk := h.dk
  rd := h.rd
  lt := fun k hk => by
    rcases hk with hk | hk | hk
    · exact h.dk.lt hk
    · rw [hk]; exact (Array.getElem?_eq_some_iff.1 h.rd.box).1
    · exact row_lt h.rd.row hk
  tab := ht.same (h.bl.block 0 (by omega))
  pow := hp.same (h.bl.block 1 h1)
  pos := Nat.lt_of_lt_of_le h1 h.bl.size
  sz := Nat.le_refl _
  nm := nm
  da := da
  off := off
  wb := h.bl.size
  bl := h.bl
theorem pow_pos {w : World} (h : Pow w) : 1 < w.heap.size := by
  have hgn : Tryd.prog.globalNamed "internal/strconv.uint64pow10" = some 1 := by kernel_rfl
  unfold Pow Lib.TabIs World.var? at h
  rw [hgn] at h
  simp only [Option.bind_some] at h
  rcases Nat.lt_or_ge 1 w.heap.size with h' | h'
  · exact h'
  · rw [Array.getElem?_eq_none h'] at h; cases h
abbrev nl : Value := .slice none 0 0
theorem new_both (w : World) : Calls Tryd.prog 4 #[.int .i64 1048576] w fun r w1 => ∃ p mb, r = .returned (Pt p) ∧ Dk.DK w1 p mb [] (Dk.newC 1048576) ∧ w.heap.size ≤ p ∧ w.heap.size ≤ mb ∧ Below w.heap.size w w1 := by
  refine Dk.new_any 1048576 w _ (fun h => by omega) (fun _ _ w' h b => ⟨_, _, rfl, h, by omega, Nat.le_refl _, b⟩)
theorem rnew_both {w W : World} {p mb : Nat} (h : Dk.DK W p mb [] (Dk.newC 1048576)) (h1 : w.heap.size ≤ p) (h2 : w.heap.size ≤ mb) (bl : Below w.heap.size w W) : Calls Tryd.prog 5 #[.int .i64 1048576] W fun r W' => ∃ d, r = .returned (Pt d) ∧ JG w W' p mb [] (Dk.newC 1048576) d [] nl 0 := by
  refine (Dk.rnew_any 1048576 W (by omega)).mono ?_
  rintro r W' ⟨d, rfl, hr, hd, b2⟩
  refine ⟨d, rfl, h.below b2, hr, fun k hk => ?_, fun k hk => (by cases hk), Nat.le_trans bl.size hd, chain bl b2 (Nat.le_refl _)⟩
  have hl := h.lt hk
  rcases hk with e | e | ⟨x, hx, -⟩
  · exact ⟨by omega, by omega⟩
  · exact ⟨by omega, by omega⟩
  · cases hx
/-- The program's disk takes the file. -/
theorem create_both {w W : World} {p mb d : Nat} (h : JG w W p mb [] (Dk.newC 1048576) d [] nl 0) :
    Calls Tryd.prog 6 #[Pt p, .string ⟨#[106, 55]⟩] W fun r W' => r = .returned (.int .i64 0) ∧ ∃ fb, JG w W' p mb [Dk.newE (nmT 7).data.toList fb] (Dk.tick (Dk.newC 1048576)) d [] nl 0 := by
  rw [← nm7]
  have hc : Dk.ckE (Dk.newC 1048576) (nmT 7).data.toList = 0 := by
    unfold Dk.ckE Dk.newC
    rw [isNm7]; rfl
  refine Dk.create_any (nmT 7) W h.dk _ (fun e => absurd hc e) (fun e _ he => by cases he) (fun _ _ hl => by simp at hl) (fun _ _ _ _ W' fb hs => ⟨rfl, fb, h.prog hs⟩) (fun _ _ _ hd => by cases hd)
theorem append_both {w W : World} {p mb d fb : Nat} (b : ByteArray) (hb : b.size ≤ 524288) (h : JG w W p mb [Dk.newE (nmT 7).data.toList fb] (Dk.tick (Dk.newC 1048576)) d [] nl 0) :
    Calls Tryd.prog 7 #[Pt p, .string ⟨#[106, 55]⟩, .string b] W fun r W' => r = .returned (.int .i64 0) ∧ ∃ e c, JG w W' p mb [e] c d [] nl 0 ∧ e.nm = (nmT 7).data.toList ∧ e.da = b.data.toList ∧ c.off = false := by
  rw [← nm7]
  have hf : findE [Dk.newE (nmT 7).data.toList fb] (nmT 7).data.toList = some (Dk.newE (nmT 7).data.toList fb) := by unfold findE Dk.newE; simp
  have h0 : Dk.fdE [Dk.newE (nmT 7).data.toList fb] (Dk.tick (Dk.newC 1048576)) (nmT 7).data.toList = 0 := by
    unfold Dk.fdE Dk.ckE
    rw [hf, isNm7]; rfl
  have hz : b.size = b.data.toList.length := by simp
  refine Dk.append_any (nmT 7) b W h.dk (by unfold maxLen; omega) _ (fun e => absurd h0 e) (fun e he _ hl => ?_) (fun e he _ _ hl => ?_) (fun e he _ _ _ W' v hs => ?_)
  · rw [hf] at he; cases he
    simp only [Dk.newE, List.length_nil] at hl
    omega
  · rw [hf] at he; cases he
    simp only [Dk.newE, used, List.map_cons, List.map_nil, List.sum_cons, List.sum_nil, List.length_nil, Dk.tick, Dk.newC] at hl
    omega
  · rw [hf] at he; cases he
    have e1 : modE [Dk.newE (nmT 7).data.toList fb] { Dk.newE (nmT 7).data.toList fb with da := (Dk.newE (nmT 7).data.toList fb).da ++ b.data.toList, v := v } = [{ Dk.newE (nmT 7).data.toList fb with da := (Dk.newE (nmT 7).data.toList fb).da ++ b.data.toList, v := v }] := by
      unfold modE; simp
    rw [e1] at hs
    exact ⟨rfl, _, _, h.prog hs, rfl, by simp [Dk.newE], rfl⟩
theorem rcreate_both {w W : World} {p mb d : Nat} {e : Ent} {c : Dk.Ctl} (h : JG w W p mb [e] c d [] nl 0) :
    Calls Tryd.prog 8 #[Pt d, .string ⟨#[106, 55]⟩] W fun r W' => r = .returned (.int .i64 0) ∧ ∃ fv, JG w W' p mb [e] c d [⟨nmT 7, ⟨#[]⟩, 0⟩] fv 1 := by
  rw [← nm7]
  refine (Dk.rcreate0 (nmT 7) W h.rd isNm7 (by omega)).mono ?_
  rintro r W' ⟨rfl, ⟨a, cp, hr, hn⟩, st⟩
  exact ⟨rfl, _, h.doc hr st hn⟩
theorem rappend_both {w W : World} {p mb d : Nat} {e : Ent} {c : Dk.Ctl} {fv : Value} (b : ByteArray) (hb : b.size ≤ 524288) (h : JG w W p mb [e] c d [⟨nmT 7, ⟨#[]⟩, 0⟩] fv 1) :
    Calls Tryd.prog 9 #[Pt d, .string ⟨#[106, 55]⟩, .string b] W fun r W' => r = .returned (.int .i64 0) ∧ ∃ fv, JG w W' p mb [e] c d [⟨nmT 7, b, 0⟩] fv 2 := by
  rw [← nm7]
  refine (Dk.rappend1 (nmT 7) b W h.rd isNm7 hb (by omega)).mono ?_
  rintro r W' ⟨rfl, ⟨a, cp, hr, hn⟩, st⟩
  exact ⟨rfl, _, h.doc hr st hn⟩
end Go.Proofs.YtjkhhjboejkafaaDoor
set_option linter.unusedVariables false
set_option linter.unusedSimpArgs false
namespace Go.Proofs.YtjkhhjboejkafaaDoor
open Go.RowKit Go.Proofs.SealMath Go.Proofs.DiskMath
/-- A list that lies between. -/
def RW (W : World) (S T : Nat) (v : Value) (X : List Uq) : Prop := EU.Row W v X ∧ ∀ k, v.ownBlock = some k → S ≤ k ∧ k < T
theorem RW.keep {W W' : World} {S T : Nat} {v : Value} {X : List Uq} {F : Nat → Prop} (h : RW W S T v X) (s : Stay F W W') (hF : ∀ k, S ≤ k → k < T → ¬ F k) : RW W' S T v X :=
  ⟨row_kept h.1 s (fun k hk => hF k (h.2 k hk).1 (h.2 k hk).2), h.2⟩
theorem RW.of {W W' : World} {S : Nat} {v : Value} {X : List Uq} (h : EU.Row W v X) (b : Below W.heap.size W W') (hs : ∀ k, v.ownBlock = some k → S ≤ k) : RW W' S W'.heap.size v X :=
  ⟨h.below b, fun k hk => ⟨hs k hk, Nat.lt_of_lt_of_le (row_lt h hk) b.size⟩⟩
/-- Both disks and the six other lists. -/
structure JZ (w0 W : World) (B S T p mb d : Nat) (e : Ent) (c : Dk.Ctl) (b : ByteArray) (fv : Value) (X Y : List Uq) (vo vp vq vz vm vy : Value) : Prop where
  jb : JB w0 W B p mb d e c b fv
  o : RW W S T vo X
  p : RW W S T vp Y
  q : RW W S T vq Y
  z : RW W S T vz X
  m : RW W S T vm X
  y : RW W S T vy Y
  bs : B ≤ S
  st : S ≤ T
  tw : T ≤ W.heap.size
theorem JZ.keep {w0 W W' : World} {B S T p mb d : Nat} {e : Ent} {c : Dk.Ctl} {b : ByteArray} {fv : Value} {X Y : List Uq} {vo vp vq vz vm vy : Value} {F : Nat → Prop} (h : JZ w0 W B S T p mb d e c b fv X Y vo vp vq vz vm vy) (s : Stay F W W') (hF : ∀ k, F k → (B ≤ k ∧ k < S) ∨ T ≤ k) : JZ w0 W' B S T p mb d e c b fv X Y vo vp vq vz vm vy where
  jb := h.jb.keep s (fun k hk hf => by have := h.bs; have := h.st; rcases hF k hf with e | e <;> omega)
  o := h.o.keep s (fun k h1 h2 hf => by rcases hF k hf with e | e <;> omega)
  p := h.p.keep s (fun k h1 h2 hf => by rcases hF k hf with e | e <;> omega)
  q := h.q.keep s (fun k h1 h2 hf => by rcases hF k hf with e | e <;> omega)
  z := h.z.keep s (fun k h1 h2 hf => by rcases hF k hf with e | e <;> omega)
  m := h.m.keep s (fun k h1 h2 hf => by rcases hF k hf with e | e <;> omega)
  y := h.y.keep s (fun k h1 h2 hf => by rcases hF k hf with e | e <;> omega)
  bs := h.bs
  st := h.st
  tw := Nat.le_trans h.tw s.size
theorem JZ.below {w0 W W' : World} {B S T p mb d : Nat} {e : Ent} {c : Dk.Ctl} {b : ByteArray} {fv : Value} {X Y : List Uq} {vo vp vq vz vm vy : Value} (h : JZ w0 W B S T p mb d e c b fv X Y vo vp vq vz vm vy) (s : Below W.heap.size W W') : JZ w0 W' B S T p mb d e c b fv X Y vo vp vq vz vm vy := h.keep (F := fun _ => False) (.below s) (fun _ hf => hf.elim)
theorem same_drew {w : World} {X : List Uq} {v1 v2 : Value} (h1 : EU.Row w v1 X) (h2 : EU.Row w v2 X) (hl : X.length < 4611686018427387904) (W : World) (hd : Drew w W) : Calls Tryd.prog 13 #[v1, v2] W fun e w' => e = .returned (.bool true) ∧ Drew w w' := by
  refine (same_any v1 v2 X W (h1.below (hd.below _)) (h2.below (hd.below _)) hl).mono ?_
  rintro e w' ⟨rfl, hd2⟩
  exact ⟨rfl, hd.trans hd2⟩
/-- The mark that is put into a list. -/
def put4 (W : World) (g i : Nat) : World := (((W.setCell ⟨g, i * 4, none⟩ (.int .i64 (-1))).setCell ⟨g, i * 4 + 1, none⟩ (.int .i64 0)).setCell ⟨g, i * 4 + 2, none⟩ (.int .i64 0)).setCell ⟨g, i * 4 + 3, none⟩ (.string ⟨#[]⟩)
theorem put4_row {W : World} {g cap n : Nat} {X : List Uq} (h : EU.Row W (.slice (some ⟨g, 0, none⟩) n cap) X) (hn : n = X.length) (i : Nat) (hi : i < X.length) : EU.Row (put4 W g i) (.slice (some ⟨g, 0, none⟩) n cap) (X.set i (-1, 0, 0, ⟨#[]⟩)) := Rw.El.set okEU h hn i hi (-1, 0, 0, ⟨#[]⟩)
theorem put4_stay (W : World) (g i : Nat) : Stay (fun k => k = g) W (put4 W g i) := Rw.putL_stay [.int .i64 (-1), .int .i64 0, .int .i64 0, .string ⟨#[]⟩] W g (i * 4)
/-- One more behind a list. -/
theorem more_app (W : World) (X : List Uq) (a : Option Addr) (n cp : Nat) (h : EU.Row W (.slice a n cp) X) (hn : n = X.length) (hb : X.length ≤ 1099511627776) :
    ∃ a' cp' W', (Builtin.append_ #[32, 32] 32 #[.slice a n cp, .slice (some ⟨W.heap.size, 0, none⟩) 1 1]).run Tryd.prog (W.alloc (.cells #[.int .i64 (-2), .int .i64 0, .int .i64 0, .string ⟨#[]⟩] 39)) = .ok (.slice a' (n + 1) cp') W' ∧ EU.Row W' (.slice a' (n + 1) cp') (X ++ [(-2, 0, 0, ⟨#[]⟩)]) ∧ Stay (fun k => (Value.slice a n cp).ownBlock = some k) W W' ∧ (∀ k, (Value.slice a' (n + 1) cp').ownBlock = some k → (Value.slice a n cp).ownBlock = some k ∨ W.heap.size ≤ k) := by
  obtain ⟨v', W', hap, hr, st, hk⟩ := Rw.El.app1 okEU W X (.slice a n cp) h (-2, 0, 0, ⟨#[]⟩) (by show (X.length + 1) * 40 ≤ _; omega) (by omega)
  obtain ⟨a', cp', e, -⟩ := hr.form
  rw [List.length_append, List.length_singleton, ← hn] at e
  subst e
  exact ⟨a', cp', W', hap, hr, st, hk⟩
/-- What stands while the lists are made. -/
structure JQ (w0 W : World) (B S p mb d : Nat) (e : Ent) (c : Dk.Ctl) (b : ByteArray) (fv : Value) (vl : Value) (X : List Uq) (L : List (Value × List Uq)) : Prop where
  jb : JB w0 W B p mb d e c b fv
  lr : EU.Row W vl X
  lk : ∀ k, vl.ownBlock = some k → B ≤ k ∧ k < S
  bs : B ≤ S
  sw : S ≤ W.heap.size
  jk : ∀ z ∈ L, RW W S W.heap.size z.1 z.2
theorem JQ.first {w0 W W' : World} {B p mb d : Nat} {e : Ent} {c : Dk.Ctl} {b : ByteArray} {fv : Value} (h : JB w0 W B p mb d e c b fv) {v : Value} {X : List Uq} (hr : EU.Row W' v X) (ho : ∀ k, v.ownBlock = some k → W.heap.size ≤ k) (hb : Below W.heap.size W W') : JQ w0 W' B W'.heap.size p mb d e c b fv v X [] where
  jb := h.below hb
  lr := hr
  lk := fun k hk => ⟨Nat.le_trans h.sz (ho k hk), row_lt hr hk⟩
  bs := Nat.le_trans h.sz hb.size
  sw := Nat.le_refl _
  jk := fun z hz => by cases hz
theorem JQ.push {w0 W W' : World} {B S p mb d : Nat} {e : Ent} {c : Dk.Ctl} {b : ByteArray} {fv : Value} {vl : Value} {X : List Uq} {L : List (Value × List Uq)} (h : JQ w0 W B S p mb d e c b fv vl X L) {v : Value} {Z : List Uq} (hr : EU.Row W' v Z) (ho : ∀ k, v.ownBlock = some k → W.heap.size ≤ k) (hb : Below W.heap.size W W') : JQ w0 W' B S p mb d e c b fv vl X ((v, Z) :: L) where
  jb := h.jb.below hb
  lr := h.lr.below hb
  lk := h.lk
  bs := h.bs
  sw := Nat.le_trans h.sw hb.size
  jk := fun z hz => by
    rcases List.mem_cons.1 hz with e | e
    · rw [e]; exact ⟨hr, fun k hk => ⟨Nat.le_trans h.sw (ho k hk), row_lt hr hk⟩⟩
    · have h1 := (h.jk z e).keep (F := fun _ => False) (.below hb) (fun _ _ _ hf => hf)
      exact ⟨h1.1, fun k hk => ⟨(h1.2 k hk).1, Nat.lt_of_lt_of_le (h1.2 k hk).2 hb.size⟩⟩
theorem JQ.all {w0 W : World} {B S p mb d : Nat} {e : Ent} {c : Dk.Ctl} {b : ByteArray} {fv : Value} {vl : Value} {X Y : List Uq} {vo vp vq vz vm vy : Value} (h : JQ w0 W B S p mb d e c b fv vl X [(vy, Y), (vm, X), (vz, X), (vq, Y), (vp, Y), (vo, X)]) : JZ w0 W B S W.heap.size p mb d e c b fv X Y vo vp vq vz vm vy where
  jb := h.jb
  o := h.jk (vo, X) (by simp)
  p := h.jk (vp, Y) (by simp)
  q := h.jk (vq, Y) (by simp)
  z := h.jk (vz, X) (by simp)
  m := h.jk (vm, X) (by simp)
  y := h.jk (vy, Y) (by simp)
  bs := h.bs
  st := h.sw
  tw := Nat.le_refl _
end Go.Proofs.YtjkhhjboejkafaaDoor
set_option linter.unusedVariables false
set_option linter.unusedSimpArgs false
namespace Go.Proofs.YtjkhhjboejkafaaDoor
open Go.RowKit Go.Proofs.SealMath Go.Proofs.DiskMath
set_option maxHeartbeats 16000000 in
set_option maxRecDepth 100000 in
theorem law_look (b : ByteArray) (s x : Int) (w : World) (ht : Tab w) (hp : Pow w) :
    Calls Tryd.prog 3 #[.string b, .int .i64 s, .int .i64 x] w fun e w' => e = .returned (.bool true) ∧ Below w.heap.size w w' := by
  obtain ⟨X, hX⟩ : ∃ X, X = xX b s x := ⟨_, rfl⟩
  obtain ⟨n, hn⟩ : ∃ n, n = X.length := ⟨_, rfl⟩
  obtain ⟨t, h1⟩ : ∃ t : Int, t = (endU (lkL b s x) : Nat) := ⟨_, rfl⟩
  obtain ⟨E, h2⟩ : ∃ E, E = lkE b s x := ⟨_, rfl⟩
  have LX := Hid.mk (show IsL b s x X n t E from ⟨hX, hn, h1, h2⟩)
  obtain ⟨Y, hY⟩ : ∃ Y, Y = xX b 0 64 := ⟨_, rfl⟩
  obtain ⟨ny, hny⟩ : ∃ ny, ny = Y.length := ⟨_, rfl⟩
  obtain ⟨ty, h3⟩ : ∃ ty : Int, ty = (endU (lkL b 0 64) : Nat) := ⟨_, rfl⟩
  obtain ⟨EY, h4⟩ : ∃ EY, EY = lkE b 0 64 := ⟨_, rfl⟩
  have LY := Hid.mk (show IsL b 0 64 Y ny ty EY from ⟨hY, hny, h3, h4⟩)
  have hXl : X.length ≤ b.size := by rw [hX]; exact xX_len b s x
  have hYl : Y.length ≤ b.size := by rw [hY]; exact xX_len b 0 64
  have HL := Hid.mk (And.intro hXl hYl)
  have HT := Hid.mk (And.intro ht hp)
  clear hX h1 h2 hY h3 h4 hn hny hXl hYl ht hp
  have h4 := new_both w
  go_enter Tryd.func3, Tryd.ntmps3
  go_wp2_with fail
  refine h4.mono ?_
  clear h4
  rintro r w1 ⟨p, mb, rfl, hdk, hp1, hp2, b1⟩
  have h5 := rnew_both hdk hp1 hp2 b1
  clear hdk hp1 hp2 b1
  go_wp2_with fail
  refine h5.mono ?_
  clear h5
  rintro r w2 ⟨d, rfl, hg⟩
  by_cases hbig : 524288 < (b.size : Int)
  · have HG := Hid.mk hg.bl
    clear hg
    go_wp2
    go_ret
    exact ⟨rfl, HG.out⟩
  have hb : b.size ≤ 524288 := by omega
  have HB := Hid.mk hb
  have h6 := create_both hg
  clear hg hb
  go_wp2_with fail
  refine h6.mono ?_
  clear h6
  rintro r w3 ⟨rfl, fb, hg⟩
  have h7 := append_both b HB.out hg
  clear hg
  go_wp2_with fail
  refine h7.mono ?_
  clear h7
  rintro r w4 ⟨rfl, e, c, hg, ne, da, off⟩
  have HE := Hid.mk (And.intro ne (And.intro da off))
  have h8 := rcreate_both hg
  clear hg ne da off
  go_wp2_with fail
  refine h8.mono ?_
  clear h8
  rintro r w5 ⟨rfl, fv0, hg⟩
  have h9 := rappend_both b HB.out hg
  clear hg
  go_wp2_with fail
  refine h9.mono ?_
  clear h9
  rintro r w6 ⟨rfl, fv, hg⟩
  have hB := hg.both HT.out.1 HT.out.2 (pow_pos HT.out.2) HE.out.1 HE.out.2.1 HE.out.2.2
  clear hg HT HE fv0 fb hbig
  obtain ⟨B, hBs⟩ : ∃ B, B = w6.heap.size := ⟨_, rfl⟩
  rw [← hBs] at hB
  clear hBs
  have h10 := Dk.writes_any w6 hB.dk
  have HB6 := Hid.mk hB
  clear hB
  go_wp2_with fail
  refine h10.mono ?_
  clear h10
  rintro r w7 ⟨rfl, rfl⟩
  have hl := look_prog LX.out HB6.out
  go_wp2_with fail
  refine hl.mono ?_
  clear hl
  rintro r w8 ⟨la, lc, rfl, k1, k2, k3⟩
  have HQ := Hid.mk (JQ.first HB6.out k1 k2 k3)
  clear k1 k2 k3 HB6
  obtain ⟨S, hS⟩ : ∃ S, S = w8.heap.size := ⟨_, rfl⟩
  rw [← hS] at HQ
  clear hS
  have hl := look_prog LX.out HQ.out.jb
  go_wp2_with fail
  refine hl.mono ?_
  clear hl
  rintro r w9 ⟨oa, oc, rfl, k1, k2, k3⟩
  have HQ' := Hid.mk (HQ.out.push k1 k2 k3)
  clear k1 k2 k3 HQ
  have HQ := HQ'
  clear HQ'
  have hl := look_prog LY.out HQ.out.jb
  go_wp2_with fail
  refine hl.mono ?_
  clear hl
  rintro r w10 ⟨pa, pc, rfl, k1, k2, k3⟩
  have HQ' := Hid.mk (HQ.out.push k1 k2 k3)
  clear k1 k2 k3 HQ
  have HQ := HQ'
  clear HQ'
  have hl := look_prog LY.out HQ.out.jb
  go_wp2_with fail
  refine hl.mono ?_
  clear hl
  rintro r w11 ⟨qa, qc, rfl, k1, k2, k3⟩
  have HQ' := Hid.mk (HQ.out.push k1 k2 k3)
  clear k1 k2 k3 HQ
  have HQ := HQ'
  clear HQ'
  have hl := look_prog LX.out HQ.out.jb
  go_wp2_with fail
  refine hl.mono ?_
  clear hl
  rintro r w12 ⟨za, zc, rfl, k1, k2, k3⟩
  have HQ' := Hid.mk (HQ.out.push k1 k2 k3)
  clear k1 k2 k3 HQ
  have HQ := HQ'
  clear HQ'
  have hl := look_doc LX.out HQ.out.jb
  go_wp2_with fail
  refine hl.mono ?_
  clear hl
  rintro r w13 ⟨ma, mc, rfl, k1, k2, k3⟩
  have HQ' := Hid.mk (HQ.out.push k1 k2 k3)
  clear k1 k2 k3 HQ
  have HQ := HQ'
  clear HQ'
  have hl := look_doc LY.out HQ.out.jb
  go_wp2_with fail
  refine hl.mono ?_
  clear hl
  rintro r w14 ⟨ya, yc, rfl, k1, k2, k3⟩
  have HQ' := Hid.mk (HQ.out.push k1 k2 k3)
  clear k1 k2 k3 HQ
  have HQ := HQ'
  clear HQ'
  have HK := Hid.mk HQ.out.lk
  have HZ := Hid.mk (And.intro HQ.out.lr HQ.out.all)
  clear HQ
  have hs := same_drew HZ.out.1 HZ.out.2.m.1 (by have := HL.out.1; have := HB.out; omega) w14 (Drew.refl _)
  go_wp2_with fail
  refine hs.mono ?_
  clear hs
  rintro r u0 ⟨rfl, ud0⟩
  have hs := same_drew HZ.out.2.o.1 HZ.out.2.m.1 (by have := HL.out.1; have := HB.out; omega) u0 ud0
  go_wp2_with fail
  refine hs.mono ?_
  clear hs
  rintro r u1 ⟨rfl, ud1⟩
  clear ud0
  have hs := same_drew HZ.out.2.p.1 HZ.out.2.y.1 (by have := HL.out.2; have := HB.out; omega) u1 ud1
  go_wp2_with fail
  refine hs.mono ?_
  clear hs
  rintro r u2 ⟨rfl, ud2⟩
  clear ud1
  have hs := same_drew HZ.out.2.q.1 HZ.out.2.y.1 (by have := HL.out.2; have := HB.out; omega) u2 ud2
  go_wp2_with fail
  refine hs.mono ?_
  clear hs
  rintro r u3 ⟨rfl, ud3⟩
  clear ud2
  have hs := same_drew HZ.out.2.z.1 HZ.out.2.m.1 (by have := HL.out.1; have := HB.out; omega) u3 ud3
  go_wp2_with fail
  refine hs.mono ?_
  clear hs
  rintro r u4 ⟨rfl, ud4⟩
  clear ud3
  obtain ⟨T, hT⟩ : ∃ T, T = w14.heap.size := ⟨_, rfl⟩
  rw [← hT] at HZ
  have HZ2 := Hid.mk (And.intro (HZ.out.1.below (ud4.below _)) (HZ.out.2.below (ud4.below _)))
  clear HZ ud4 hT
  have HN := Hid.mk (show n = X.length from LX.out.2.1)
  have nb : n ≤ 524288 := by have h1 := HN.out; have h2 := HL.out.1; have h3 := HB.out; omega
  go_wp2
  go_loopw [34] (fun u wr => ∃ i : Nat, u = .int .i64 i ∧ i ≤ n ∧ Hid (∃ Z : List Uq, Z.length = n ∧ EU.Row wr (.slice la n lc) Z ∧ JZ w wr B S T p mb d e c b fv X Y (.slice oa n oc) (.slice pa ny pc) (.slice qa ny qc) (.slice za n zc) (.slice ma n mc) (.slice ya ny yc))) (fun u _ => n - (intOf u).toNat)
  case atStart => exact ⟨0, rfl, Nat.zero_le _, ⟨X, HN.out.symm, HZ2.out.1, HZ2.out.2⟩⟩
  case round =>
    clear HZ2
    obtain ⟨i, rfl, hi, HM⟩ := hrel
    by_cases hlt : i < n
    · have i1 : (i : Int) < (n : Int) := by omega
      have i2 : (0 : Int) ≤ (i : Int) := by omega
      obtain ⟨Z, hZl, hZr, hZ⟩ := HM.out
      have hiZ : i < Z.length := by omega
      obtain ⟨g, cap, e1, x0, x1, x2, x3, fz⟩ := uCells hZr i hiZ
      simp only [Value.slice.injEq] at e1
      obtain ⟨rfl, -, rfl⟩ := e1
      have f0 := fz (i * 4)
      have f1 := fz (i * 4 + 1)
      have f2 := fz (i * 4 + 2)
      have f3 := fz (i * 4 + 3)
      obtain ⟨p0, y0⟩ : ∃ p, wr.cell? ⟨g, i * 4, none⟩ = some p := ⟨_, x0⟩
      obtain ⟨p1, y1⟩ : ∃ p, wr.cell? ⟨g, i * 4 + 1, none⟩ = some p := ⟨_, x1⟩
      obtain ⟨p2, y2⟩ : ∃ p, wr.cell? ⟨g, i * 4 + 2, none⟩ = some p := ⟨_, x2⟩
      obtain ⟨p3, y3⟩ : ∃ p, wr.cell? ⟨g, i * 4 + 3, none⟩ = some p := ⟨_, x3⟩
      have HR : Hid (∃ Z : List Uq, Z.length = n ∧ EU.Row (put4 wr g i) (.slice (some ⟨g, 0, none⟩) n lc) Z ∧ JZ w (put4 wr g i) B S T p mb d e c b fv X Y (.slice oa n oc) (.slice pa ny pc) (.slice qa ny qc) (.slice za n zc) (.slice ma n mc) (.slice ya ny yc)) :=
        ⟨Z.set i (-1, 0, 0, ⟨#[]⟩), by rw [List.length_set]; exact hZl, put4_row hZr hZl.symm i hiZ, hZ.keep (put4_stay wr g i) (fun k hk => .inl (by rw [show k = g from hk]; exact HK.out g rfl))⟩
      have hwi : wrap64 ((i : Int) + 1) = ((i + 1 : Nat) : Int) := by unfold wrap64; omega
      unfold put4 at HR
      clear HM hZr hZ hZl x0 x1 x2 x3 fz hiZ
      go_wp2
      exact ⟨⟨i + 1, rfl, hlt, HR⟩, by simp only [intOf]; omega⟩
    · have i1 : ¬ (i : Int) < (n : Int) := by omega
      obtain ⟨Z, hZl, hZr, hZ⟩ := HM.out
      obtain ⟨a1, c1, W1, hap, hr1, st1, ho1⟩ := more_app wr Z la n lc hZr hZl.symm (by omega)
      have HR : Hid (∃ Z : List Uq, Z.length = n + 1 ∧ EU.Row W1 (.slice a1 (n + 1) c1) Z ∧ (∀ k, (Value.slice a1 (n + 1) c1).ownBlock = some k → (B ≤ k ∧ k < S) ∨ T ≤ k) ∧ JZ w W1 B S T p mb d e c b fv X Y (.slice oa n oc) (.slice pa ny pc) (.slice qa ny qc) (.slice za n zc) (.slice ma n mc) (.slice ya ny yc)) :=
        ⟨_, by rw [List.length_append]; simp [hZl], hr1, fun k hk => (ho1 k hk).imp (fun h => HK.out k h) (fun h => Nat.le_trans hZ.tw h), hZ.keep st1 (fun k hk => .inl (HK.out k hk))⟩
      clear HM hZr hZ hZl hr1 st1 ho1 HK
      go_wp2_with (at_builtin; refine wpList_append_eq rfl _ _ _ _ rfl _ _ _ _ rfl rfl hap ?_; clear hap)
      go_wp2
      go_loopw [35, 36] (fun um u wr => ∃ (j : Nat) (a2 : Option Addr) (c2 : Nat), um = .slice a2 (n + 1 + j) c2 ∧ u = .int .i64 j ∧ j ≤ 64 ∧ Hid (∃ Z : List Uq, Z.length = n + 1 + j ∧ EU.Row wr (.slice a2 (n + 1 + j) c2) Z ∧ (∀ k, (Value.slice a2 (n + 1 + j) c2).ownBlock = some k → (B ≤ k ∧ k < S) ∨ T ≤ k) ∧ JZ w wr B S T p mb d e c b fv X Y (.slice oa n oc) (.slice pa ny pc) (.slice qa ny qc) (.slice za n zc) (.slice ma n mc) (.slice ya ny yc))) (fun _ u _ => 64 - (intOf u).toNat)
      case atStart => exact ⟨0, a1, c1, rfl, rfl, by omega, HR⟩
      case round =>
        clear HR
        obtain ⟨j, a2, c2, rfl, rfl, hj, HM⟩ := hrel
        by_cases hlt2 : j < 64
        · have j1 : (j : Int) < 64 := by omega
          have j2 : (0 : Int) ≤ (j : Int) := by omega
          obtain ⟨Z, hZl, hZr, hZk, hZ⟩ := HM.out
          obtain ⟨a3, c3, W3, hap, hr1, st1, ho1⟩ := more_app wr Z a2 (n + 1 + j) c2 hZr hZl.symm (by omega)
          have HR : Hid (∃ Z : List Uq, Z.length = n + 1 + (j + 1) ∧ EU.Row W3 (.slice a3 (n + 1 + (j + 1)) c3) Z ∧ (∀ k, (Value.slice a3 (n + 1 + (j + 1)) c3).ownBlock = some k → (B ≤ k ∧ k < S) ∨ T ≤ k) ∧ JZ w W3 B S T p mb d e c b fv X Y (.slice oa n oc) (.slice pa ny pc) (.slice qa ny qc) (.slice za n zc) (.slice ma n mc) (.slice ya ny yc)) :=
            ⟨_, by rw [List.length_append]; simp [hZl, Nat.add_assoc], hr1, fun k hk => (ho1 k hk).elim (fun h => hZk k h) (fun h => .inr (Nat.le_trans hZ.tw h)), hZ.keep st1 (fun k hk => hZk k hk)⟩
          have hwj : wrap64 ((j : Int) + 1) = ((j + 1 : Nat) : Int) := by unfold wrap64; omega
          clear HM hZr hZ hZl hZk hr1 st1 ho1
          obtain ⟨q1, hq1⟩ : ∃ q1, q1 = n + 1 + j := ⟨_, rfl⟩
          rw [← hq1] at hap ⊢
          obtain ⟨q2, hq2⟩ : ∃ q2, q2 = n + 1 + (j + 1) := ⟨_, rfl⟩
          rw [← hq2] at HR
          have e12 : q1 + 1 = q2 := by omega
          rw [e12] at hap
          have HV := Hid.mk hq2
          clear hq1 hq2 e12
          go_wp2_with (at_builtin; refine wpList_append_eq rfl _ _ _ _ rfl _ _ _ _ rfl rfl hap ?_; clear hap)
          try go_wp2
          exact ⟨⟨j + 1, a3, c3, by rw [← HV.out], rfl, hlt2, by rw [← HV.out]; exact HR⟩, by simp only [intOf]; omega⟩
        · have j1 : ¬ (j : Int) < 64 := by omega
          obtain rfl : j = 64 := by omega
          obtain ⟨Z, hZl, hZr, hZk, hZ0⟩ := HM.out
          have HZ := Hid.mk (And.intro trivial hZ0)
          clear HM hZl hZr hZk hZ0
          obtain ⟨n2, hn2⟩ : ∃ n2, n2 = n + 1 + 64 := ⟨_, rfl⟩
          rw [← hn2]
          have hw2 : ((n2 : Int) == (n : Int) + 65) = true := by rw [beq_iff_eq]; omega
          have HW := Hid.mk hw2
          clear hn2 hw2
          have hs := same_drew HZ.out.2.o.1 HZ.out.2.m.1 (by have := HL.out.1; have := HB.out; omega) wr (Drew.refl _)
          go_wp2_with fail
          refine hs.mono ?_
          clear hs
          rintro r v0 ⟨rfl, vd0⟩
          have hs := same_drew HZ.out.2.p.1 HZ.out.2.y.1 (by have := HL.out.2; have := HB.out; omega) v0 vd0
          go_wp2_with fail
          refine hs.mono ?_
          clear hs
          rintro r v1 ⟨rfl, vd1⟩
          clear vd0
          have hs := same_drew HZ.out.2.q.1 HZ.out.2.y.1 (by have := HL.out.2; have := HB.out; omega) v1 vd1
          go_wp2_with fail
          refine hs.mono ?_
          clear hs
          rintro r v2 ⟨rfl, vd2⟩
          clear vd1
          have hs := same_drew HZ.out.2.z.1 HZ.out.2.m.1 (by have := HL.out.1; have := HB.out; omega) v2 vd2
          go_wp2_with fail
          refine hs.mono ?_
          clear hs
          rintro r v3 ⟨rfl, vd3⟩
          clear vd2
          have HZ3 := Hid.mk (HZ.out.2.below (vd3.below _))
          clear HZ vd3
          have hl := look_prog LX.out HZ3.out.jb
          go_wp2_with fail
          refine hl.mono ?_
          clear hl
          rintro r wk ⟨ka, kc, rfl, k1, k2, k3⟩
          have HZ := Hid.mk (And.intro k1 (HZ3.out.below k3))
          clear k1 k2 k3 HZ3
          have hs := same_drew HZ.out.1 HZ.out.2.m.1 (by have := HL.out.1; have := HB.out; omega) wk (Drew.refl _)
          go_wp2_with fail
          refine hs.mono ?_
          clear hs
          rintro r x0 ⟨rfl, xd0⟩
          have hs := same_drew HZ.out.2.o.1 HZ.out.2.m.1 (by have := HL.out.1; have := HB.out; omega) x0 xd0
          go_wp2_with fail
          refine hs.mono ?_
          clear hs
          rintro r x1 ⟨rfl, xd1⟩
          clear xd0
          have hs := same_drew HZ.out.2.p.1 HZ.out.2.y.1 (by have := HL.out.2; have := HB.out; omega) x1 xd1
          go_wp2_with fail
          refine hs.mono ?_
          clear hs
          rintro r x2 ⟨rfl, xd2⟩
          clear xd1
          have hs := same_drew HZ.out.2.q.1 HZ.out.2.y.1 (by have := HL.out.2; have := HB.out; omega) x2 xd2
          go_wp2_with fail
          refine hs.mono ?_
          clear hs
          rintro r x3 ⟨rfl, xd3⟩
          clear xd2
          have hs := same_drew HZ.out.2.z.1 HZ.out.2.m.1 (by have := HL.out.1; have := HB.out; omega) x3 xd3
          go_wp2_with fail
          refine hs.mono ?_
          clear hs
          rintro r x4 ⟨rfl, xd4⟩
          clear xd3
          have h1 := num_any 0 x4
          have h2 := num_any 0 x4
          have h3 := num_any E x4
          have h5 := Dk.writes_any x4 (HZ.out.2.below (xd4.below _)).jb.dk
          have HBl := Hid.mk (HZ.out.2.below (xd4.below _)).jb.bl
          clear HZ xd4
          go_wp2_with fail
          refine h1.mono ?_
          clear h1
          rintro r y1 ⟨rfl, rfl⟩
          go_wp2_with fail
          refine h2.mono ?_
          clear h2
          rintro r y2 ⟨rfl, rfl⟩
          go_wp2_with fail
          refine h3.mono ?_
          clear h3
          rintro r y3 ⟨rfl, rfl⟩
          go_wp2_with fail
          refine h5.mono ?_
          clear h5
          rintro r y4 ⟨rfl, rfl⟩
          go_wp2
          go_ret
          exact ⟨by rw [HW.out]; rfl, HBl.out⟩
end Go.Proofs.YtjkhhjboejkafaaDoor
namespace Go.Proofs.YtjkhhjboejkafaaDoor
open Go.ChangeShapes Go.WideShapes Go.ChangeAt Go.WideMaps Go.WideElems Go.RowKit Go.Proofs.SealMath
theorem own : ownKnob Tryd.prog.godebug = none := by kernel_rfl
theorem gTab : Tryd.prog.globalNamed "kindred/seal.table" = some 0 := by kernel_rfl
theorem tTab : (Tryd.prog.globals[0]?).map (·.type) = some 109 := by kernel_rfl
theorem cu32 : Tryd.prog.cellsOf 93 = 1 := by kernel_rfl
theorem cTab : Tryd.prog.cellsOf 109 = 16 := by kernel_rfl
theorem gPow : Tryd.prog.globalNamed "internal/strconv.uint64pow10" = some 1 := by kernel_rfl
theorem tPow : (Tryd.prog.globals[1]?).map (·.type) = some 118 := by kernel_rfl
theorem cu64 : Tryd.prog.cellsOf 98 = 1 := by kernel_rfl
theorem cPow : Tryd.prog.cellsOf 118 = 20 := by kernel_rfl
/-- What the rows list. -/
abbrev lst : List (String × DataW Unit) := [("math/bits.deBruijn32tab", Rows.laid_math_bits_deBruijn32tab), ("math/bits.deBruijn64tab", Rows.laid_math_bits_deBruijn64tab), ("internal/strconv.uint64pow10", Rows.laid_internal_strconv_uint64pow10), ("kindred/seal.table", Rows.laid_kindred_seal_table)]
theorem door_met (os : Os) (args : Array Value) : laidMetH Tryd.prog lst ((World.doorLaid Tryd.prog 4000 os).forCall (fun _ _ => 0) ⟨#[], args, []⟩).memory :=
  laidMetH_of_parts3 (fuel := 8) (laidMet_of_run' 8 (by kernel_rfl) (by kernel_rfl)) (by kernel_rfl) (by kernel_rfl)
def tabZ : List Int := [0, 274646895, 549293790, 820201905, 1098587580, 1361435347, 1640403810, 1905808397, 2197175160, 2460548119, 2722870694, 2987750089, 3280807620, 3553878443, 3811616794, 4084100981]
theorem tabZ_at : ∀ i, i < 16 → tabZ.getD i 0 = ((tabN.getD i 0 : Nat) : Int) := by decide +kernel
theorem met_tail {P : Program} {x : String × DataW Unit} {l : List (String × DataW Unit)} {w : World} (h : laidMet P (x :: l) w) : laidMet P l w := by
  obtain ⟨ps, ⟨g, t, cs, fuel, p, q, h1, h2, h3, h4, h5, rfl⟩, hnd, hm⟩ := h
  exact ⟨q, h5, (List.nodup_append.1 hnd).2.1, fun b off hb => hm b off (List.mem_append_right _ hb)⟩
/-- The tables, out of the condition. -/
theorem tab_of {W : World} (h : laidMetH Tryd.prog lst W) : Tab W := by
  rw [MakeChecks.laidMetH_plain _ _ _ (by kernel_rfl)] at h
  have hT := Lib.tabIs_of_head (k := .u32) (zs := tabZ) (rest := []) gTab tTab Tryd.underlying109 Tryd.underlying93 cu32 cTab (met_tail (met_tail (met_tail h)))
  intro i hi
  rw [← tabZ_at i hi]
  exact hT.cell gTab i hi
theorem pow_of {W : World} (h : laidMetH Tryd.prog lst W) : Pow W := by
  rw [MakeChecks.laidMetH_plain _ _ _ (by kernel_rfl)] at h
  exact Lib.tabIs_of_head (k := .u64) (zs := Lib.pow10Tab) gPow tPow Tryd.underlying118 Tryd.underlying98 cu64 cPow (met_tail (met_tail h))
theorem tab_pos {W : World} (h : Tab W) : 0 < W.heap.size := World.block_lt_of_cell? W ⟨0, 0, none⟩ (h 0 (by omega))
end Go.Proofs.YtjkhhjboejkafaaDoor
namespace Go.Proofs.YtjkhhjboejkafaaDoor
open Go.ChangeMaps (open_string shut_string)
open Go.ChangeShapes Go.WideShapes Go.ChangeAt Go.WideMaps Go.WideElems Go.RowKit Go.Proofs.SealMath
set_option maxRecDepth 100000 in
theorem look_lifted (os : Os) (started : os.Started) (H : Type) (enc : TypeId × Value → H) :
    ReturnsInHanded {} Tryd.checked os 3 .any (fun w args => (Rows.journalLookSpec.pre enc Tryd.prog Tryd.f3 [] false w args ∧ laidMetH Tryd.prog lst w) ∧ sizedMet enc Tryd.prog Tryd.f3 (OpenSpec.ofChange Rows.journalLookSpec) false w args)
      (Rows.journalLookSpec.post enc Tryd.prog Tryd.f3 false true false false) := by
  refine returnsInHanded_of_change_and (C := Tryd.checked) (X := fun w _ => laidMetH Tryd.prog lst w) (fun _ _ _ hh h => h.of_heap hh) own started (by kernel_rfl) Tryd.func3
    (ChangeSpec.witness_shaped (enc := enc) (C := Tryd.checked) (os := os) (X := fun w _ => laidMetH Tryd.prog lst w) false (World.doorLaid Tryd.prog 4000 os) #[.string ⟨#[]⟩, .int .i64 0, .int .i64 0] 8 rfl (World.shaped_of_RefB (by kernel_rfl) (by kernel_rfl)) (by kernel_rfl) (by kernel_rfl) (by kernel_rfl) (door_met os _)) ?_
  intro W base args ds gs before hval0 hW _ hsz0 hL _
  have hsz : (DataW.weightsEach Tryd.prog (Tryd.f3.params.toList ++ Rows.journalLookSpec.plain.varTypes Tryd.prog) (ds ++ gs)).all (· ≤ reachBytes) = true := hsz0
  clear hsz0
  have hval : ∀ (j : Nat) t v, Tryd.f3.params[j]? = some t → args[j]? = some v → Value.okWide Tryd.prog W .any base t v := hval0
  have hW' := hW
  obtain ⟨p, q, hA0, hV, rfl, hfz, hnd⟩ := hW
  have hA : DataW.TrodAll enc Tryd.prog W 0 (fun _ => true) true Tryd.f3.params.toList args.toList ds p := hA0
  rw [Tryd.params3] at hA hval hsz
  obtain ⟨v0, v1, v2, d0, d1, d2, p0, p1, p2, rfl, rfl, rfl, h0, h1, h2⟩ := trodAll_three hA
  obtain ⟨rfl, rfl⟩ := trodVars_none hV
  obtain ⟨b, rfl, rfl, rfl, hb⟩ := open_string Tryd.underlying9 (hval 0 9 v0 rfl rfl) h0
  have sb : b.size ≤ 140737488351232 := by
    have := sized_string hsz (j := 0) (t := 9) rfl rfl
    simpa [reachBytes] using this
  obtain ⟨s, rfl, rfl, rfl, ws⟩ := open_int Tryd.underlying3 (hval 1 3 v1 rfl rfl) h1
  obtain ⟨x, rfl, rfl, rfl, wx⟩ := open_int Tryd.underlying3 (hval 2 3 v2 rfl rfl) h2
  clear hA0 hval0
  have ht := tab_of hL
  have hg0 := tab_pos ht
  have e1 : Rows.journalLookSpec.fn H ([.lit (.string b.data.toList), .lit (.int .i64 s), .lit (.int .i64 x)] ++ []) = { results := [.lit (.bool true)], args := [.lit (.string b.data.toList), .lit (.int .i64 s), .lit (.int .i64 x)] } := by simp [Rows.journalLookSpec]
  have fin : ∀ (e : Ending) (W' : World), (e = .returned (.bool true) ∧ Below W.heap.size W W') → ∃ v, e = .returned v ∧ Rows.journalLookSpec.post enc Tryd.prog Tryd.f3 false true false false W #[.string b, .int .i64 s, .int .i64 x] v W' := by
    rintro e W' ⟨rfl, hbl⟩
    refine ⟨_, rfl, _, _, _, [], [], [], hW', ?_, ?_, ?_, hbl.frame _, fun h => by cases h⟩
    · rw [e1]; exact trodAll_mk1 (shut_bool Tryd.underlying4 true)
    · rw [e1]; exact trodAll_mk3 (shut_string Tryd.underlying9 hb) (shut_int Tryd.underlying3 ws) (shut_int Tryd.underlying3 wx)
    · rw [e1]; rfl
  exact (law_look b s x W ht (pow_of hL)).mono fin

theorem look_row : Rows.JournalLookSaid :=
  OpenClaim.holds_of_wide 3 Tryd.f3 rfl rfl rfl rfl rfl rfl rfl ⟨rfl, rfl, rfl, rfl, rfl⟩ rfl rfl rfl rfl rfl (by kernel_rfl) Tryd.func3 (by kernel_rfl)
    (of_decide_eq_true (by kernel_rfl)) (by unfold Func.isWrapper; rw [if_neg (of_decide_eq_false (by kernel_rfl))]; exact ⟨rfl, rfl⟩)
    (fun os started H enc _ => look_lifted os started H enc)
theorem look_holds : Rows.JournalLookCardSaid :=
  Claim7.holds_tied_plain_at .later [] [.data, .data, .data, .called] true (true, "d982bd08c6477893da95ef353f75971c64281bb1b30521e32262f0a19b23faeb") false
    look_row (fun _ h => by cases h) (by kernel_rfl) (fun _ h => by cases h) journalLook_row_tie rfl ⟨rfl, rfl⟩ (by kernel_rfl) rfl
    (fun f fn hf hfn => by
      obtain rfl : f = 3 := Option.some.inj ((show Tryd.prog.funcNamed "kindred/kindredlaw5.JournalLook" = some 3 by kernel_rfl).symm.trans hf) |>.symm
      obtain rfl : fn = Tryd.f3 := (Option.some.inj (Tryd.func3.symm.trans hfn)).symm
      exact ⟨by kernel_rfl, fun j t ht => by
        rw [Tryd.params3] at ht
        have hm : t ∈ [9, 3, 3] := by simpa using Array.mem_of_getElem? ht
        have hall : ([9, 3, 3].all fun u => !Tryd.prog.wantsStandIn u) = true := by kernel_rfl
        exact (show Tryd.prog.wantsStandIn t = false by simpa using List.all_eq_true.1 hall t hm)⟩)
    (by kernel_rfl)
#print axioms look_holds
end Go.Proofs.YtjkhhjboejkafaaDoor
