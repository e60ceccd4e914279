/-
  DERIVED. BRangeN, BAll0, BAll, as one text.
-/
import Derived.Test.YtjdpolhjbkpnlaaGreatDoorLzAD
import Derived.Test.YtjdpolhjbkpnlaaGreatDoorLzAL
import Derived.Test.YtjdpolhjbkpnlaaGreatDoorLzAO
set_option linter.unusedVariables false
namespace Go.Proofs.YtjdpolhjbkpnlaaGreatDoor
open Go.RowKit Go.Shelf
section
variable {F : Fence} {n : Nat} {P : Program} {α σ : Type}
theorem wpIn_rangeFunc_stN {g : Operand} {ps : Array Tmp} {assign body : Code} {Q : Exit → Act → World → Prop} {a : Act} {w : World}
    {l₀ : Nat} {r₀ : Loop} (hro : F.round = some l₀) (hl₀ : w.heap[l₀]? = some (.loop r₀)) (h1 : 1 ≤ n) {gf : Nat} {lb : Array Value} (hg : a.eval g = .func (.func gf) #[] lb) (hFg : F.fn gf) (eg : ∀ args w, (callFunc gf args).run P w = .ok (.enter gf args) w)
    {encs : α → Array Value} {Nx : List α → α → Prop} {Tr : σ → World → σ → World → Prop} {Kp : σ → World → World → Prop} {S Sp : List α → Prop} {s0 : σ}
    (hseq : SeqSt F (n - 1) P gf lb encs Nx Tr Kp S Sp s0 w)
    (hTr : ∀ s A s' B, Tr s A s' B → KeepsOthers A B)
    (hKt : ∀ {s A B C}, Kp s A B → Kp s B C → Kp s A C) (hKb : ∀ (s : σ) (A : World) (l : Nat) (o o' : Obj), w.heap.size ≤ l → A.heap[l]? = some o → o.isCells = false → o.isWalk = false → Kp s A (A.putObj l o'))
    (hps : ∀ x, (encs x).size = ps.size)
    (I : List α → σ → World → Prop) (Ix : Code → List α → σ → World → Prop)
    (hIt : ∀ p s A s' B, I p s A → Tr s A s' B → I p s' B) (hIxt : ∀ c p s A s' B, Ix c p s A → Tr s A s' B → Ix c p s' B)
    (hI : OwnFrom w.heap.size (fun (z : List α × σ) A => I z.1 z.2 A)) (hIx : ∀ c, OwnFrom w.heap.size (fun (z : List α × σ) A => Ix c z.1 z.2 A))
    (h0 : I [] s0 w) (Ax : α → Act → World → Prop) (hAx : ∀ x a', OwnFrom w.heap.size (fun (_ : Unit) A => Ax x a' A))
    (hassign : ∀ (l : Nat) (p : List α) (x : α) (s : σ) (A : World) (K : Act → World → Prop), I p s A → Nx p x → (∀ a' B, KeepsFrom w.heap.size A B → Kp s A B → I p s B → Ax x a' B → K a' B) →
      assign.wpIn (F.inRound l) (n - 1 - 1) P (Exit.then K (fun _ _ _ => False)) { tmps := (ps.zip (encs x)).foldl (fun t (p, v) => t.setIfInBounds p v) a.tmps, defers := [] } A)
    (hbody : ∀ (l : Nat) (p : List α) (x : α) (s : σ) (a' : Act) (A : World), w.heap.size ≤ l → (∃ r, A.heap[l]? = some (.loop r)) → I p s A → Ax x a' A → Nx p x → body.wpIn (F.inRound l) (n - 1 - 1) P (stPost w.heap.size Kp I Ix (p ++ [x]) s A) a' A)
    (hdone : ∀ (p : List α) (s : σ) (A : World), S p → I p s A → Q .normal a A)
    (hstop : ∀ (c : Code) (p : List α) (s : σ) (A : World), Sp p → Ix c p s A → c.wpIn F n P Q a A) :
    (Code.rangeFunc g ps assign body).wpIn F n P Q a w := by
  refine wpIn_rangeFunc fun fn hfn => ?_
  rw [hro]
  obtain ⟨rec, hrec⟩ : ∃ rec : LoopState → Option Code → Loop, rec = fun st pe => { state := st, pending := pe, fn, tmps := a.tmps, params := ps, assign, body, defers := r₀.defers } := ⟨_, rfl⟩
  obtain ⟨V, hV⟩ : ∃ V, V = w.alloc (.loop (rec .ready none)) := ⟨_, rfl⟩
  obtain ⟨lp, hlp⟩ : ∃ lp, lp = w.heap.size := ⟨_, rfl⟩
  have vl : V.heap[lp]? = some (.loop (rec .ready none)) := by rw [hV, hlp]; exact World.alloc_heap_new w _
  have vb : Below w.heap.size w V := by rw [hV]; exact (Below.refl _ w).alloc (Nat.le_refl _) _
  have v0 : I [] s0 V := by rw [hV]; exact hI.alloc (s := ([], s0)) _ h0
  refine ⟨lp, [], V, { target := .fn (.func gf) lb, args := #[.func (.yield lp) #[] #[]] }, V, gf, #[.func (.yield lp) #[] #[]] ++ lb, V, ?_, ?_, ?_, ?_, fun _ => h1, ?_⟩
  · rw [hV, hlp, hrec]; exact run_enterLoop_inner hl₀ _ _ _ _ _
  · simp only [resolve, hg]; simp [go_sem]
  · intro f' hf'; simp [Target.leads] at hf'; subst hf'; exact hFg
  · simp [invoke, go_sem, eg]
  · refine (hseq lp (fun p s A => I p s A ∧ A.heap[lp]? = some (.loop (rec .ready none)))
      (fun p s A => ∃ c, Ix c p s A ∧ A.heap[lp]? = some (.loop (rec .done (some c)))) V vb
      (fun p s A s' B h ht => ⟨hIt p s A s' B h.1 ht, (hTr _ _ _ _ ht).same _ _ h.2 rfl⟩)
      (fun p s A s' B h ht => by obtain ⟨c, hc, hl⟩ := h; exact ⟨c, hIxt c p s A s' B hc ht, (hTr _ _ _ _ ht).same _ _ hl rfl⟩)
      ?_ ⟨v0, vl⟩).mono ?_
    · rintro p x s A ⟨hi, hl⟩ hx
      have hy := run_yield (P := P) (args := encs x) hl (by rw [hrec]; exact hps x)
      rw [hrec] at hy
      refine ⟨fn, _, assign, body, hy, roundIn_of_wpIn hfn (hassign _ p x s A _ hi hx fun a' B kf kp hib hax => ?_)⟩
      clear hy
      have bl := kf.same _ _ (by omega) hl rfl
      have blt : lp < B.heap.size := (Array.getElem?_eq_some_iff.1 bl).1
      refine ⟨_, run_beginRound bl (by rw [hrec]), ?_⟩
      have cl : (B.putObj lp (.loop { rec .ready none with state := .busy })).heap[lp]? = some (.loop { rec .ready none with state := .busy }) := World.putObj_heap_same blt
      have ck : Kp s B (B.putObj lp (.loop { rec .ready none with state := .busy })) := hKb _ _ _ _ _ (by omega) bl rfl rfl
      refine wpIn_mono (hbody _ p x s a' _ (by omega) ⟨_, cl⟩ (hI.putObj (s := (p, s)) _ hib (by omega) bl rfl) ((hAx x a').putObj (s := ()) _ hax (by omega) bl rfl) hx) ?_
      have fin : ∀ (jump : Option Code) (C : World), KeepsFrom w.heap.size (B.putObj lp (.loop { rec .ready none with state := .busy })) C →
          (Instr.endRound lp jump).run P C = .ok (.bool jump.isNone) (C.putObj lp (.loop (rec (if jump.isNone then .ready else .done) jump))) ∧
          C.heap[lp]? = some (.loop { rec .ready none with state := .busy }) ∧
          (C.putObj lp (.loop (rec (if jump.isNone then .ready else .done) jump))).heap[lp]? = some (.loop (rec (if jump.isNone then .ready else .done) jump)) := fun jump C kc => by
        have l3 := kc.same _ _ (by omega) cl rfl
        have r3 := run_endRound (P := P) jump l3
        rw [hrec] at r3 ⊢
        exact ⟨r3, by rw [hrec] at l3; exact l3, World.putObj_heap_same (Array.getElem?_eq_some_iff.1 l3).1⟩
      rintro e a3 C hp
      cases e with
      | normal =>
        obtain ⟨k3, kp3, i3⟩ := hp
        obtain ⟨hr, l3, l4⟩ := fin none C k3
        exact ⟨_, _, hr, .inl ⟨rfl, ⟨hI.putObj (s := (p ++ [x], s)) _ i3 (by omega) l3 rfl, l4⟩, hKt kp (hKt (hKt ck kp3) (hKb _ _ _ _ _ (by omega) l3 rfl rfl))⟩⟩
      | ret =>
        obtain ⟨k3, kp3, i3⟩ := hp
        obtain ⟨hr, l3, l4⟩ := fin (some .ret) C k3
        exact ⟨_, _, hr, .inr ⟨rfl, ⟨.ret, (hIx _).putObj (s := (p ++ [x], s)) _ i3 (by omega) l3 rfl, l4⟩, hKt kp (hKt (hKt ck kp3) (hKb _ _ _ _ _ (by omega) l3 rfl rfl))⟩⟩
      | exit id =>
        obtain ⟨k3, kp3, i3⟩ := hp
        obtain ⟨hr, l3, l4⟩ := fin (some (.exit id)) C k3
        exact ⟨_, _, hr, .inr ⟨rfl, ⟨.exit id, (hIx _).putObj (s := (p ++ [x], s)) _ i3 (by omega) l3 rfl, l4⟩, hKt kp (hKt (hKt ck kp3) (hKb _ _ _ _ _ (by omega) l3 rfl rfl))⟩⟩
      | goto t =>
        obtain ⟨k3, kp3, i3⟩ := hp
        obtain ⟨hr, l3, l4⟩ := fin (some (.goto t)) C k3
        exact ⟨_, _, hr, .inr ⟨rfl, ⟨.goto t, (hIx _).putObj (s := (p ++ [x], s)) _ i3 (by omega) l3 rfl, l4⟩, hKt kp (hKt (hKt ck kp3) (hKb _ _ _ _ _ (by omega) l3 rfl rfl))⟩⟩
      | panic ch => exact hp.elim
      | outgrown => exact hp.elim
    · rintro e C ⟨⟨v, rfl⟩, (⟨p, s, hS, hi, hl⟩ | ⟨p, s, hSp, c, hi, hl⟩)⟩
      · exact ⟨none, _, by have := run_endLoop (P := P) hl (by rw [hrec]; simp); rw [hrec] at this; exact this, hdone p s _ hS (hI.putObj (s := (p, s)) _ hi (by omega) hl rfl)⟩
      · exact ⟨some c, _, by have := run_endLoop (P := P) hl (by rw [hrec]; simp); rw [hrec] at this; exact this, hstop c p s _ hSp ((hIx c).putObj (s := (p, s)) _ hi (by omega) hl rfl)⟩
end
end Go.Proofs.YtjdpolhjbkpnlaaGreatDoor
set_option linter.unusedVariables false
set_option linter.unusedSimpArgs false
namespace Go.Proofs.YtjdpolhjbkpnlaaGreatDoor
open Go.RowKit Go.Shelf Go.Proofs.SealMath
/-- A list in its box, gathered from W0 on; s is the iterator's own block. -/
structure AI (W0 : World) (lb : Nat) (lv0 : Value) (L : List En) (lv : Value) (s : Option Nat) (A : World) : Prop where
  lt : lb < W0.heap.size
  box : A.heap[lb]? = some (.cells #[lv] 34 (0, 0))
  row : A.ownsRow 0 38 5 lv L.length (L.flatMap enC)
  stay : Stay (fun k => k = lb ∨ lv0.ownBlock = some k) W0 A
  loc : ∀ k, lv.ownBlock = some k → lv0.ownBlock = some k ∨ W0.heap.size ≤ k
  own : ∀ k, s = some k → W0.heap.size ≤ k ∧ k < A.heap.size ∧ lv.ownBlock ≠ some k
section
variable {W0 A B : World} {lb : Nat} {lv0 lv : Value} {L : List En} {s s' : Option Nat}
theorem AI.row_lt (h : AI W0 lb lv0 L lv s A) {k : Nat} (hk : lv.ownBlock = some k) : k < A.heap.size := by
  obtain ⟨c, hc⟩ := row_block h.row hk
  exact (Array.getElem?_eq_some_iff.1 hc).1
theorem AI.row_lb (h : AI W0 lb lv0 L lv s A) {k : Nat} (hk : lv.ownBlock = some k) : k ≠ lb := fun e => by
  obtain ⟨c, hc⟩ := row_block h.row hk
  have := h.box
  rw [← e, hc] at this; simp at this
theorem AI.tr (h : AI W0 lb lv0 L lv s A) (t : TrB s A s' B) : AI W0 lb lv0 L lv s' B where
  lt := h.lt
  box := (t.stay.block lb (Array.getElem?_eq_some_iff.1 h.box).1 (fun e => by have := (h.own lb e).1; have := h.lt; omega)).trans h.box
  row := row_kept h.row t.stay (fun k hk e => (h.own k e).2.2 hk)
  stay := h.stay.andThen t.stay (fun k hk e => by have := (h.own k e).1; omega)
  loc := h.loc
  own := fun k hk => by
    have hlt := t.lt k hk
    rcases t.loc k hk with e | e
    · exact ⟨(h.own k e).1, hlt, (h.own k e).2.2⟩
    · refine ⟨Nat.le_trans h.stay.size e, hlt, fun e2 => ?_⟩
      have := h.row_lt e2
      omega
theorem AI.grown {row : Option Nat} (h : AI W0 lb lv0 L lv s A) (hg : A.grownBy B row) (hr : ∀ r, row = some r → W0.heap.size ≤ r ∧ ∃ o : Obj, A.heap[r]? = some o ∧ o.isCells = false) : AI W0 lb lv0 L lv s B := by
  have st : Stay (fun k => row = some k) A B := .grown hg (fun k hk => hk)
  exact {
    lt := h.lt
    box := (st.block lb (Array.getElem?_eq_some_iff.1 h.box).1 (fun e => by have := (hr lb e).1; have := h.lt; omega)).trans h.box
    row := row_kept h.row st (fun k hk e => by
      obtain ⟨-, o, ho, hc⟩ := hr k e
      obtain ⟨c, hc'⟩ := row_block h.row hk
      rw [hc'] at ho; cases ho; cases hc)
    stay := h.stay.andThen st (fun k hk e => by have := (hr k e).1; omega)
    loc := h.loc
    own := fun k hk => ⟨(h.own k hk).1, Nat.lt_of_lt_of_le (h.own k hk).2.1 hg.size, (h.own k hk).2.2⟩ }
theorem AI.below (h : AI W0 lb lv0 L lv s A) (b : Below A.heap.size A B) : AI W0 lb lv0 L lv s B := by
  have st : Stay (fun _ => False) A B := .below b
  exact {
    lt := h.lt
    box := (b.block lb (Array.getElem?_eq_some_iff.1 h.box).1).trans h.box
    row := row_kept h.row st (fun _ _ e => e)
    stay := h.stay.andThen st (fun _ _ e => e.elim)
    loc := h.loc
    own := fun k hk => ⟨(h.own k hk).1, Nat.lt_of_lt_of_le (h.own k hk).2.1 b.size, (h.own k hk).2.2⟩ }
/-- The list has grown. -/
theorem AI.app {L' : List En} {lv' : Value} {V : World} (h : AI W0 lb lv0 L lv s A) (hr : V.ownsRow 0 38 5 lv' L'.length (L'.flatMap enC)) (st : Stay (fun k => lv.ownBlock = some k) A V) (hloc : ∀ k, lv'.ownBlock = some k → lv.ownBlock = some k ∨ A.heap.size ≤ k) :
    AI W0 lb lv0 L' lv' s (V.setCell ⟨lb, 0, none⟩ lv') ∧ Stay (fun k => k = lb ∨ lv.ownBlock = some k) A (V.setCell ⟨lb, 0, none⟩ lv') := by
  have hb : V.heap[lb]? = _ := (st.block lb (Array.getElem?_eq_some_iff.1 h.box).1 (fun e => h.row_lb e rfl)).trans h.box
  have s1 : Stay (fun k => k = lb) V (V.setCell ⟨lb, 0, none⟩ lv') := stay1 _ _ _ _ _ (.refl _ _)
  have hb' : (V.setCell ⟨lb, 0, none⟩ lv').heap[lb]? = some (.cells #[lv'] 34 (0, 0)) := by
    rw [heap_setCell_same V lb 0 _ _ _ hb]; rfl
  have s2 : Stay (fun k => k = lb ∨ lv.ownBlock = some k) A (V.setCell ⟨lb, 0, none⟩ lv') := (st.mono (fun k _ e => .inr e)).trans (s1.mono (fun k _ e => .inl e))
  refine ⟨{ lt := h.lt, box := hb', row := row_kept hr s1 (fun k hk e => ?_), stay := h.stay.andThen s2 (fun k hk e => ?_), loc := fun k hk => ?_, own := fun k hk => ?_ }, s2⟩
  · obtain ⟨c, hc⟩ := row_block hr hk
    rw [e, hb] at hc; simp at hc
  · rcases e with e | e
    · exact .inl e
    · rcases h.loc k e with e | e
      · exact .inr e
      · omega
  · rcases hloc k hk with e | e
    · exact h.loc k e
    · exact .inr (Nat.le_trans h.stay.size e)
  · obtain ⟨k1, k2, k3⟩ := h.own k hk
    refine ⟨k1, Nat.lt_of_lt_of_le k2 s2.size, fun e => ?_⟩
    rcases hloc k e with e | e
    · exact k3 e
    · omega
/-- What a body keeps. -/
theorem AI.kp {K : Nat → Prop} (h : AI W0 lb lv0 L lv s A) (st : Stay (fun k => k = lb ∨ lv.ownBlock = some k) A B) (hK : ∀ k, K k → k ≠ lb ∧ lv.ownBlock ≠ some k) : KpB K s A B ∧ KeepsOthers A B := by
  have hc : ∀ k, (k = lb ∨ lv.ownBlock = some k) → ∃ c t m, A.heap[k]? = some (.cells c t m) := fun k e => by
    rcases e with e | e
    · subst e; exact ⟨_, _, _, h.box⟩
    · obtain ⟨c, hc⟩ := row_block h.row e; exact ⟨_, _, _, hc⟩
  refine ⟨⟨st.size, fun k c t m hk hh => (st.block k (Array.getElem?_eq_some_iff.1 hh).1 (fun e => ?_)).trans hh⟩, ⟨st.size, fun k o hk ho => (st.block k (Array.getElem?_eq_some_iff.1 hk).1 (fun e => ?_)).trans hk⟩⟩
  · rcases hk with hk | hk
    · rcases e with e | e
      · exact (hK k hk).1 e
      · exact (hK k hk).2 e
    · obtain ⟨k1, k2, k3⟩ := h.own k hk
      rcases e with e | e
      · have := h.lt; omega
      · exact k3 e
  · obtain ⟨c, t, m, h1⟩ := hc k e
    rw [hk] at h1; cases h1; cases ho
end
/-- Marks of loops among the deferred calls. -/
def markL (ds : List Nat) : List Deferred := ds.map fun D => { target := .collected D, args := #[] }
theorem stay_put {F : Nat → Prop} (w : World) (D : Nat) (o : Obj) (h : F D) : Stay F w (w.putObj D o) := ⟨rfl, rfl, rfl, by simp, fun k _ hn => World.putObj_heap_other (fun e => hn (e ▸ h))⟩
theorem leaves_marks {F : Fence} {n : Nat} {fn : Func} {tmps : Array Value} {R : Ending → World → Prop} (v : Value) :
    ∀ (ds : List Nat) (w : World), (∀ D ∈ ds, w.heap[D]? = some (.deferred (some []))) → ds.Nodup → (∀ w', Stay (fun k => k ∈ ds) w w' → (results fn tmps).run Tryz.prog w' = .ok v w' ∧ R (.returned v) w') → LeavesInM F n Tryz.prog fn tmps R (markL ds) .returning w
  | [], w, _, _, h => ⟨v, (h w (.refl _ _)).1, (h w (.refl _ _)).2⟩
  | D :: ds, w, hd, hn, h => by
    rw [List.nodup_cons] at hn
    have s1 : Stay (fun k => k ∈ D :: ds) w (w.putObj D (.deferred none)) := stay_put w D _ (by simp)
    refine ⟨by simp, .inl ⟨D, _, rfl, run_takeDeferred (hd D (by simp)), leaves_marks v ds _ (fun D' h' => ?_) hn.2 (fun w' s2 => h w' (s1.trans (s2.mono (fun k _ e => List.mem_cons_of_mem _ e))))⟩⟩
    have hne : D' ≠ D := fun e => hn.1 (by rw [← e]; exact h')
    exact (World.putObj_heap_other hne).trans (hd D' (List.mem_cons_of_mem _ h'))
end Go.Proofs.YtjdpolhjbkpnlaaGreatDoor
set_option linter.unusedVariables false
set_option linter.unusedSimpArgs false
namespace Go.Proofs.YtjdpolhjbkpnlaaGreatDoor
open Go.RowKit Go.Shelf Go.Proofs.SealMath
attribute [local go_sem] Oper.semAt_some
theorem ptr_nil (fb : Nat) (w : World) : (binOp .eql 23 (Pt fb) (.pointer none)).run Tryz.prog w = .ok (.bool false) w := by kernel_rfl
theorem len_sum : ∀ bl : List (List UInt8), bl.length ≤ (bl.map (·.length + 14)).sum
  | [] => by simp
  | x :: l => by have := len_sum l; simp only [List.length_cons, List.map_cons, List.sum_cons]; omega
/-- What stands while the blocks are gone through. -/
def AL (w : World) (fb : Nat) (h : Hd) (bl : List (List UInt8)) (ix : List En) (bv iv : Value) (rd lb CB i : Nat) (ds : List Nat) (A : World) : Prop :=
  ∃ lv : Value, A.heap[lb]? = some (.cells #[lv] 34 (0, 0)) ∧ A.ownsRow 0 38 5 lv (alA CB (bl.take i)).length ((alA CB (bl.take i)).flatMap enC) ∧ FA A fb h bl ix bv iv rd ∧ (∀ k, lv.ownBlock = some k → w.heap.size ≤ k) ∧ (∀ D ∈ ds, w.heap.size ≤ D ∧ A.heap[D]? = some (.deferred (some []))) ∧ ds.Nodup ∧ Below w.heap.size w A ∧ w.heap.size ≤ lb ∧ i ≤ bl.length
set_option maxHeartbeats 4000000 in
set_option maxRecDepth 100000 in
theorem all_any (fb : Nat) (h : Hd) (bl : List (List UInt8)) (ix : List En) (bv iv : Value) (rd : Nat) (w : World) (H : FA w fb h bl ix bv iv rd) (hw : 64 ≤ h.w ∧ h.w ≤ 1024) (hn : 0 ≤ h.n ∧ h.n ≤ 1099511627776) (hs : (bl.map (·.length + 14)).sum ≤ 1099511627776) :
    Calls Tryz.prog 10 #[Pt fb] w fun r w' => ∃ v, r = .returned v ∧ w'.ownsRow 0 38 5 v (alA (cbH h) bl).length ((alA (cbH h) bl).flatMap enC) ∧ (∀ k, v.ownBlock = some k → w.heap.size ≤ k) ∧ Below w.heap.size w w' := by
  obtain ⟨i0, hi, hz0, hz1, hz2⟩ := info_parts infoEn
  obtain ⟨⟨y0, y1, y2, y3, y4, y5⟩, y6, -⟩ := fl9 H.box
  obtain ⟨ba, bc, rfl, hbc⟩ := slice_form H.row
  obtain ⟨N, hN⟩ : ∃ N : Nat, h.n = N := ⟨h.n.toNat, by omega⟩
  rw [hN] at y5
  have hNl : N ≤ 1099511627776 := by omega
  obtain ⟨CB, hCB⟩ : ∃ CB, CB = cbH h := ⟨_, rfl⟩
  have hcb := fun W hbx => codeBytes_any fb h (.slice ba bl.length bc) iv rd W hbx hw
  rw [← hCB] at hcb ⊢
  have hCB2 : CB ≤ 128 := by rw [hCB]; unfold cbH; omega
  clear hCB
  refine (callsIn_wide (n := 9)).1 ?_
  refine callsIn_of_wp_marks Tryz.func10 rfl trivial ?_ rfl
  simp only [Tryz.ntmps10, List.size_toArray, List.length_cons, List.length_nil, Nat.reduceAdd, Nat.reduceSub, Array.replicate_succ, Array.replicate_zero, List.push_toArray, List.append_toArray, List.nil_append, List.cons_append]
  have hfz := H.lt
  gi_wp2_with (gi_at_make; refine wpListIn_make_own _ rfl _ _ 34 rfl 0 38 i0 _ 5 Tryz.underlying34 hi hz0 hz1 _ _ _ N rfl rfl rfl (by rw [hz2]; omega) (by unfold maxLen; omega) (Nat.zero_le _) ?_; intro w1 hrow1 hg1; have y6 := hg1.cell y6 (by simp); have hfz1 : fb < w1.heap.size := Nat.lt_of_lt_of_le hfz hg1.size)
  have b1 : Below w.heap.size w w1 := (Below.refl _ w).grown hg1 (Nat.le_refl _) (fun k h => by cases h)
  have b2 : Below w1.heap.size w1 (w1.alloc (.cells #[.slice (some ⟨w.heap.size, 0, none⟩) 0 N] 34)) := (Below.refl _ w1).alloc (Nat.le_refl _) _
  have hbox := heap_alloc_last w1 (.cells #[.slice (some ⟨w.heap.size, 0, none⟩) 0 N] 34)
  have hrow2 : (w1.alloc (.cells #[.slice (some ⟨w.heap.size, 0, none⟩) 0 N] 34)).ownsRow 0 38 5 (.slice (some ⟨w.heap.size, 0, none⟩) 0 N) 0 [] := row_kept (F := fun _ => False) hrow1 (.below b2) (fun _ _ e => e)
  obtain ⟨V, hV⟩ : ∃ V, V = w1.alloc (.cells #[.slice (some ⟨w.heap.size, 0, none⟩) 0 N] 34) := ⟨_, rfl⟩
  obtain ⟨lb, hlb⟩ : ∃ lb, lb = w1.heap.size := ⟨_, rfl⟩
  rw [← hV] at hrow2 b2
  rw [← hV, ← hlb] at hbox ⊢
  have bV := chain b1 b2 (Nat.le_refl _)
  have hlw : w.heap.size ≤ lb := by rw [hlb]; exact b1.size
  clear hV hlb b1 b2 hrow1 hg1 y6 hfz1
  refine wpIn_loop (fun a' w' => ∃ (i : Nat) (ds : List Nat) (u5 u21 u22 u23 u24 u25 u26 u27 u33 : Value), a' = { tmps := #[Pt fb, undef, .slice none 0 0, .pointer (some ⟨lb, 0, none⟩), undef, u5, undef, Pt fb, .bool false, Pt fb, .pointer (some ⟨fb, 0, none⟩), .pointer (some ⟨fb, 0, none⟩), .pointer (some ⟨fb, 5, none⟩), .int .i64 N, .slice (some ⟨w.heap.size, 0, none⟩) 0 N, Pt fb, .pointer (some ⟨fb, 0, none⟩), .pointer (some ⟨fb, 6, none⟩), .slice ba bl.length bc, .int .i64 bl.length, .int .i64 i, u21, u22, u23, u24, u25, u26, u27, undef, undef, undef, undef, undef, u33, undef], defers := markL ds } ∧ AL w fb h bl ix (.slice ba bl.length bc) iv rd lb CB i ds w')
    (fun a' _ => bl.length - (intOf (a'.tmps.getD 20 undef)).toNat) ?_ ?_
  · exact ⟨0, [], _, _, _, _, _, _, _, _, _, rfl, _, hbox, hrow2, H.kept (.below bV) (fun h => h) (fun _ _ h => h) (fun _ _ h => h), (fun _ h => by cases h; exact Nat.le_refl _), (by simp), (by simp), bV, hlw, by simp⟩
  · rintro a' wr ⟨i, ds, u5, u21, u22, u23, u24, u25, u26, u27, u33, rfl, lv, Lb, Lr, Lf, Ll, Lm, Ln, Lw, Lo, Li⟩
    by_cases hlt : i < bl.length
    · have i1 : (i : Int) < (bl.length : Int) := by omega
      obtain ⟨g, hg⟩ : ∃ g, ba = some ⟨g, 0, none⟩ := by
        rcases H.row.2 with ⟨e, -⟩ | ⟨g, cap, cur, e, -⟩
        · injection e with e1 e2; omega
        · injection e with e1 e2; exact ⟨g, e1⟩
      subst hg
      have xb := World.ownsRow.cells Lf.row (g := g) rfl i (sv bl[i]) (by simp [hlt])
      rw [show (⟨g, 0, none⟩ : Addr).add i = ⟨g, i, none⟩ by unfold Addr.add; split <;> simp_all] at xb
      obtain ⟨X, hX⟩ : ∃ X : ByteArray, X = ⟨bl[i].toArray⟩ := ⟨_, rfl⟩
      rw [show sv bl[i] = .string X by rw [hX]] at xb
      have cb1 := hcb wr Lf.box
      have HX := Hid.mk hX
      clear hX
      have HL := Hid.mk (And.intro Lb (And.intro Lr (And.intro Lf (And.intro Ll (And.intro Lm (And.intro Ln (And.intro Lw (And.intro Lo Li))))))))
      clear Lb Lr Lf Ll Lm Ln Lw Lo Li hcb
      gi_wp2_with fail
      refine ⟨trivial, (callsIn_wide.2 cb1).mono ?_⟩
      rintro r w2 ⟨rfl, rfl⟩
      gi_wp2_with fail
      refine ⟨trivial, (callsIn_wide.2 (entries_any X CB w2)).mono ?_⟩
      rintro r w3 ⟨rfl, rfl⟩
      gi_wp2_with fail
      obtain ⟨Lb, Lr, Lf, Ll, Lm, Ln, Lw, Lo, Li⟩ := HL.out
      obtain ⟨U, hU⟩ : ∃ U, U = (w2.alloc (.cells #[.string X] 9)).alloc (.cells #[.int .i64 CB] 3) := ⟨_, rfl⟩
      have bU : Below w2.heap.size w2 U := by rw [hU]; exact ((Below.refl _ w2).alloc (Nat.le_refl _) _).alloc (by simp) _
      have sU : U.heap.size = w2.heap.size + 2 := by rw [hU]; simp
      have U1 : U.heap[w2.heap.size]? = some (.cells #[.string X] 9 (0, 0)) := by
        have h1 := heap_alloc_last w2 (.cells #[.string X] 9)
        have h2 : Below (w2.alloc (.cells #[.string X] 9)).heap.size (w2.alloc (.cells #[.string X] 9)) U := by rw [hU]; exact (Below.refl _ _).alloc (Nat.le_refl _) _
        exact (h2.block _ (by simp)).trans h1
      have U2 : U.heap[w2.heap.size + 1]? = some (.cells #[.int .i64 CB] 3 (0, 0)) := by
        have h1 := heap_alloc_last (w2.alloc (.cells #[.string X] 9)) (.cells #[.int .i64 CB] 3)
        rw [World.size_alloc] at h1
        rw [hU]; exact h1
      rw [← hU]
      clear hU
      have hLb2 : lb < w2.heap.size := (Array.getElem?_eq_some_iff.1 Lb).1
      have hsum1 : ((bl.take (i + 1)).map (·.length + 14)).sum ≤ 1099511627776 := by
        have h1 := congrArg (fun l => (l.map (·.length + 14)).sum) (List.take_append_drop (i + 1) bl)
        simp only [List.map_append, List.sum_append] at h1
        omega
      have htk : alA CB (bl.take (i + 1)) = alA CB (bl.take i) ++ ents X 0 CB := by
        rw [List.take_add_one, List.getElem?_eq_getElem hlt]
        unfold alA
        rw [List.flatMap_append]
        simp [HX.out]
      have hal := alA_len CB (bl.take (i + 1))
      rw [htk, List.length_append] at hal
      have hXl : X.size < 1152921504606846976 := by
        have h1 : bl[i].length + 14 ≤ ((bl.take (i + 1)).map (·.length + 14)).sum := by
          rw [List.take_add_one, List.getElem?_eq_getElem hlt, List.map_append, List.sum_append]
          simp
        rw [HX.out, ba_len]; omega
      have hseq := entries_st X CB w2.heap.size (w2.heap.size + 1) 8 (fun k => k = w2.heap.size ∨ k = w2.heap.size + 1) U U1 U2 ⟨.inl rfl, .inr rfl⟩ (fun k hk => by
        rcases hk with rfl | rfl
        · exact ⟨_, _, _, U1⟩
        · exact ⟨_, _, _, U2⟩) hXl hCB2
      have a0 : AI U lb lv (alA CB (bl.take i) ++ []) lv none U :=
        { lt := by omega, box := (bU.block lb hLb2).trans Lb, row := by rw [List.append_nil]; exact row_kept (F := fun _ => False) Lr (.below bU) (fun _ _ e => e), stay := .refl _ _, loc := fun k hk => .inl hk, own := fun k hk => by cases hk }
      refine wpIn_rangeFunc_st rfl (by omega) (gf := 53) (lb := #[Pt w2.heap.size, Pt (w2.heap.size + 1)]) rfl trivial (enters_of Tryz.func53 (by kernel_rfl) rfl) hseq (fun _ _ _ _ h => h.others) KpB.trans (fun s A l o o' _ h ho _ => KpB.put s A l o o' h ho) (fun _ => rfl)
        (fun p s A => ∃ lv', AI U lb lv (alA CB (bl.take i) ++ p) lv' s A)
        (fun _ _ _ _ => False)
        (fun p s A s' B h ht => by obtain ⟨lv', hA⟩ := h; exact ⟨lv', hA.tr ht⟩)
        (fun _ _ _ _ _ _ h _ => h.elim)
        (fun z A B row h hg hr => by obtain ⟨lv', hA⟩ := h; exact ⟨lv', hA.grown hg hr⟩)
        (fun _ _ _ _ _ h _ _ => h)
        ⟨lv, a0⟩
        (fun x a' A => ∃ Bx, U.heap.size ≤ Bx ∧ A.heap[Bx]? = some (.cells (enV x) 38 (0, 0)) ∧ a' = { tmps := #[Pt fb, undef, .slice none 0 0, .pointer (some ⟨lb, 0, none⟩), undef, .string X, Pt Bx, Pt fb, .bool false, Pt fb, .pointer (some ⟨fb, 0, none⟩), .pointer (some ⟨fb, 0, none⟩), .pointer (some ⟨fb, 5, none⟩), .int .i64 N, .slice (some ⟨w.heap.size, 0, none⟩) 0 N, Pt fb, .pointer (some ⟨fb, 0, none⟩), .pointer (some ⟨fb, 6, none⟩), .slice (some ⟨g, 0, none⟩) bl.length bc, .int .i64 bl.length, .int .i64 i, .bool true, .pointer (some ⟨g, i, none⟩), .string X, .string X, Pt fb, .int .i64 CB, .func (.func 53) #[] #[Pt w2.heap.size, Pt (w2.heap.size + 1)], .agg (enV x), undef, undef, undef, undef, u33, undef], defers := [] })
        (fun x a' s A B row h hg hr => by
          obtain ⟨Bx, h1, h2, h3⟩ := h
          refine ⟨Bx, h1, (hg.block Bx (Array.getElem?_eq_some_iff.1 h2).1 (fun e => ?_)).trans h2, h3⟩
          obtain ⟨-, o, ho, hc⟩ := hr Bx e.symm
          rw [h2] at ho; cases ho; cases hc) ?assign ?body ?done ?stop
      case assign =>
        rintro lp p x s A K ⟨lv', hA⟩ hx hK
        simp only [encE]
        gi_wp2
        have bA : Below A.heap.size A (A.alloc (.cells (enV x) 38)) := (Below.refl _ A).alloc (Nat.le_refl _) _
        exact hK _ _ ((KeepsOthers.alloc _ _).from _) ⟨bA.size, fun k c t m _ h => (bA.block k (Array.getElem?_eq_some_iff.1 h).1).trans h⟩ ⟨lv', hA.below bA⟩ ⟨A.heap.size, hA.stay.size, heap_alloc_last A _, rfl⟩
      case body =>
        rintro lp p x s a' A hlp ⟨rc, hrc⟩ ⟨lv', hA⟩ ⟨Bx, hBu, hBx, rfl⟩ hx
        have hll : (alA CB (bl.take i) ++ p).length = (alA CB (bl.take i)).length + p.length := List.length_append
        obtain ⟨LL, hLL⟩ : ∃ LL, LL = alA CB (bl.take i) ++ p := ⟨_, rfl⟩
        rw [← hLL] at hA hll
        obtain ⟨qa, qc, rfl, -⟩ := slice_form hA.row
        obtain ⟨x0, x1, x2, x3, x4⟩ := en5 hBx
        have c0 := boxc (A := A) hA.box rfl
        have hpx : p.length + 1 ≤ (ents X 0 CB).length := by have := hx.length_le; simpa using this
        obtain ⟨v', V5, hap, ho5, st5, loc5⟩ := en_app A LL _ hA.row x (by have : (alA CB (bl.take i)).length + (ents X 0 CB).length ≤ ((alA CB (bl.take i)).length + (ents X 0 CB).length) * (CB + 7) := Nat.le_mul_of_pos_right _ (by omega); omega)
        obtain ⟨hA6, st6⟩ := hA.app ho5 st5 loc5
        have hb5 : V5.heap[lb]? = _ := (st5.block lb (Array.getElem?_eq_some_iff.1 hA.box).1 (fun e => hA.row_lb e rfl)).trans hA.box
        have z0 := boxc (A := V5) hb5 rfl
        have zf : V5.frozen? ⟨lb, 0, none⟩ = false := frozen_of_row _ _ _ _ _ hb5
        obtain ⟨kp, ko⟩ := hA.kp (K := fun k => k = w2.heap.size ∨ k = w2.heap.size + 1) st6 (fun k hk => by
          have hne : ∀ c t m, A.heap[k]? = some (.cells c t m) → t ≠ 34 → t ≠ 38 → k ≠ lb ∧ Value.ownBlock (.slice qa LL.length qc) ≠ some k := fun c t m h1 h2 h3 => ⟨fun e => by
            rw [e, hA.box] at h1; simp at h1; exact h2 h1.2.1.symm, fun e => by
            obtain ⟨c', hc'⟩ := row_block hA.row e
            rw [hc'] at h1; simp at h1; exact h3 h1.2.1.symm⟩
          have hlow : ∀ c t, U.heap[k]? = some (.cells c t (0, 0)) → t ≠ 34 → t ≠ 38 → A.heap[k]? = some (.cells c t (0, 0)) := fun c t h1 h2 h3 => (hA.stay.block k (Array.getElem?_eq_some_iff.1 h1).1 (fun e => by
            rcases e with e | e
            · have := (bU.block lb hLb2).trans Lb
              rw [e, this] at h1; simp at h1; exact h2 h1.2.symm
            · obtain ⟨c', hc'⟩ := row_block Lr e
              have := (bU.block k (Array.getElem?_eq_some_iff.1 hc').1).trans hc'
              rw [this] at h1; simp at h1; exact h3 h1.2.symm)).trans h1
          rcases hk with rfl | rfl
          · exact hne _ _ _ (hlow _ _ U1 (by decide) (by decide)) (by decide) (by decide)
          · exact hne _ _ _ (hlow _ _ U2 (by decide) (by decide)) (by decide) (by decide))
        obtain ⟨ra, rc5, hra, -⟩ := slice_form ho5
        have HA := Hid.mk (And.intro hA6 (And.intro kp ko))
        obtain ⟨n5, hn5⟩ : ∃ n5, n5 = LL.length := ⟨_, rfl⟩
        obtain ⟨m5, hm5⟩ : ∃ m5, m5 = (LL ++ [x]).length := ⟨_, rfl⟩
        rw [← hm5] at hra
        have HR := Hid.mk (And.intro hra hLL)
        rw [hra] at hap
        rw [← hn5] at hap c0 z0
        clear hA hA6 st6 ho5 st5 loc5 hb5 kp ko hra hseq a0 Lb Lr Lf Ll Lm Ln Lw Lo Li hBx hrc hx htk hal hsum1 hpx U1 U2 bU hll hLL hn5 hm5
        gi_wp2_with (gi_at_builtin; refine wpListIn_append_eq rfl _ _ _ _ rfl _ _ _ _ rfl rfl hap ?_)
        obtain ⟨hA6, kp, ko⟩ := HA.out
        rw [← HR.out.1]
        refine ⟨ko.from _, kp, v', ?_⟩
        rw [← List.append_assoc, ← HR.out.2]
        exact hA6
      case done =>
        rintro D p s A hD hS ⟨lv', hA⟩ hdef
        subst hS
        rw [← htk] at hA
        have stA : Stay (fun k => k = lb ∨ lv.ownBlock = some k) w2 A := (Stay.below bU).trans (hA.stay.mono (fun k _ e => e))
        have hcell : ∀ k, (k = lb ∨ lv.ownBlock = some k) → ∃ c t, w2.heap[k]? = some (.cells c t (0, 0)) ∧ (t = 34 ∨ t = 38) ∧ w.heap.size ≤ k := fun k e => by
          rcases e with e | e
          · subst e; exact ⟨_, _, Lb, .inl rfl, Lo⟩
          · obtain ⟨c, hc⟩ := row_block Lr e; exact ⟨_, _, hc, .inr rfl, Ll k e⟩
        have fA : FA A fb h bl ix (.slice (some ⟨g, 0, none⟩) bl.length bc) iv rd := Lf.kept stA (fun e => by
            obtain ⟨c, t, h1, h2, -⟩ := hcell fb e
            rw [Lf.box] at h1; simp at h1
            rcases h2 with h2 | h2 <;> rw [h2] at h1 <;> simp at h1) (fun k hk e => by
            obtain ⟨c, t, h1, h2, -⟩ := hcell k e
            obtain ⟨c', hc'⟩ := row_block Lf.row hk
            rw [hc'] at h1; simp at h1
            rcases h2 with h2 | h2 <;> rw [h2] at h1 <;> simp at h1) (fun k hk e => by
            have := (hcell k e).choose_spec.choose_spec.2.2
            have h3 := row_lt H.idx hk
            omega)
        have bA : Below w.heap.size w A := Lw.trans (stA.toBelow (fun k hk e => by
          obtain ⟨c, t, h1, h2, h3⟩ := hcell k e
          omega) Lw.size)
        have mk : ∀ D' ∈ D :: ds, w.heap.size ≤ D' ∧ A.heap[D']? = some (.deferred (some [])) := fun D' hD' => by
          rcases List.mem_cons.1 hD' with e | e
          · subst e; exact ⟨Nat.le_trans Lw.size (by omega), hdef⟩
          · obtain ⟨m1, m2⟩ := Lm D' e
            refine ⟨m1, (stA.block D' (Array.getElem?_eq_some_iff.1 m2).1 (fun e2 => ?_)).trans m2⟩
            obtain ⟨c, t, h1, -⟩ := hcell D' e2
            rw [m2] at h1; cases h1
        have nd : (D :: ds).Nodup := List.nodup_cons.2 ⟨fun e => by
          have := (Array.getElem?_eq_some_iff.1 (Lm D e).2).1
          omega, Ln⟩
        have fin : AL w fb h bl ix (.slice (some ⟨g, 0, none⟩) bl.length bc) iv rd lb CB (i + 1) (D :: ds) A := ⟨lv', hA.box, hA.row, fA, fun k hk => by
          rcases hA.loc k hk with e | e
          · exact Ll k e
          · exact Nat.le_trans Lw.size (by omega), mk, nd, bA, Lo, hlt⟩
        have hwi : wrap64 ((i : Int) + 1) = ((i + 1 : Nat) : Int) := by have := len_sum bl; unfold wrap64; omega
        have HW := Hid.mk hwi
        clear hwi
        have HF := Hid.mk fin
        clear hA stA hcell fA bA mk nd fin hdef hseq a0 Lb Lr Lf Ll Lm Ln Lw Lo Li U1 U2 bU htk hal hsum1
        gi_wp2
        rw [HW.out]
        refine ⟨⟨i + 1, D :: ds, _, _, _, _, _, _, _, _, _, rfl, HF.out⟩, ?_⟩
        show bl.length - (intOf (.int .i64 ((i + 1 : Nat) : Int))).toNat < bl.length - (intOf (.int .i64 (i : Int))).toNat
        simp only [intOf]
        omega
      case stop =>
        rintro D c p s A _ _ h _
        exact h.elim
    · have i1 : ¬ (i : Int) < (bl.length : Int) := by omega
      have e1 : bl.take i = bl := List.take_of_length_le (by omega)
      rw [e1] at Lr
      have c0 := boxc (A := wr) Lb rfl
      have fin : ∀ (tmps : Array Value) (hres : ∀ w', (results Tryz.f10 tmps).run Tryz.prog w' = .ok lv w'), LeavesInM Fence.wide 9 Tryz.prog Tryz.f10 tmps (fun r w' => ∃ v, r = .returned v ∧ w'.ownsRow 0 38 5 v (alA CB bl).length ((alA CB bl).flatMap enC) ∧ (∀ k, v.ownBlock = some k → w.heap.size ≤ k) ∧ Below w.heap.size w w') (markL ds) .returning wr := fun tmps hres =>
        leaves_marks lv ds wr (fun D hD => (Lm D hD).2) Ln (fun w' st => ⟨hres w', lv, rfl, row_kept Lr st (fun k hk e => by
          obtain ⟨c, hc⟩ := row_block Lr hk
          rw [(Lm k e).2] at hc; cases hc), Ll, Lw.trans (st.toBelow (fun k hk e => by have := (Lm k e).1; omega) Lw.size)⟩)
      obtain ⟨qa, qc, rfl, -⟩ := slice_form Lr
      have HF := Hid.mk fin
      clear fin Lb Lr Lf Ll Lm Ln Lw Lo Li hcb e1
      gi_wp2
      exact HF.out _ (fun w' => results_tmp (t := 2) rfl _ _ w')
end Go.Proofs.YtjdpolhjbkpnlaaGreatDoor
