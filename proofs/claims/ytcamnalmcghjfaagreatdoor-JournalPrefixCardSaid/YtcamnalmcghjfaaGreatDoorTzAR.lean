/-
  DERIVED. BRange, JUpd, JName, JLook0, as one text.
-/
import Derived.RangeFuncNested
import Derived.RangeFuncBound
import Derived.RangeFuncCalls
import Derived.RangeFuncLeaves
import Derived.Shelf.Abstract
import Derived.Shelf.RegionOpen
import Derived.WalkKit
import Derived.OwnWalkIn
import Derived.TacticsInMore
import Derived.LoopNIn
import Derived.LoopIn
import Derived.Test.YtcamnalmcghjfaaGreatDoorTzAA
import Derived.Test.YtcamnalmcghjfaaGreatDoorTzAO
import Derived.Test.YtcamnalmcghjfaaGreatDoorTzAQ
import Derived.Test.YtcamnalmcghjfaaGreatDoorTzAJ
import Derived.Test.YtcamnalmcghjfaaGreatDoorTzAF
import Derived.Lib.ItoaLen
import Derived.Lib.AppendIntMem
import Derived.Test.YtcamnalmcghjfaaGreatDoorTzAD
set_option linter.unusedVariables false
namespace Go.Proofs.YtcamnalmcghjfaaGreatDoor
open Go.RowKit Go.Shelf
section
variable {F : Fence} {n : Nat} {P : Program} {α σ : Type}
/-- The iterator's word: whatever J the caller keeps, if J abides what the iterator does by itself. -/
def SeqSt (F : Fence) (n : Nat) (P : Program) (g : Nat) (lb : Array Value) (encs : α → Array Value) (Nx : List α → α → Prop) (Tr : σ → World → σ → World → Prop) (Kp : σ → World → World → Prop) (S Sp : List α → Prop) (s0 : σ) (w : World) : Prop :=
  ∀ (l : Nat) (J Jx : List α → σ → World → Prop) (W : World), Below w.heap.size w W →
    (∀ p s A s' B, J p s A → Tr s A s' B → J p s' B) → (∀ p s A s' B, Jx p s A → Tr s A s' B → Jx p s' B) →
    (∀ p x s A, J p s A → Nx p x → YieldAt F (n - 1) P l (encs x) A fun e B => (e = .returned (.bool true) ∧ J (p ++ [x]) s B ∧ Kp s A B) ∨ (e = .returned (.bool false) ∧ Jx (p ++ [x]) s B ∧ Kp s A B)) →
    J [] s0 W →
    CallsIn F n P g (#[.func (.yield l) #[] #[]] ++ lb) W fun e B => (∃ v, e = .returned v) ∧ ((∃ p s, S p ∧ J p s B) ∨ (∃ p s, Sp p ∧ Jx p s B))
/-- How a body may be left. -/
def stPost (lo : Nat) (Kp : σ → World → World → Prop) (I : List α → σ → World → Prop) (Ix : Code → List α → σ → World → Prop) (p : List α) (s : σ) (A : World) : Exit → Act → World → Prop
  | .normal, _, B => KeepsFrom lo A B ∧ Kp s A B ∧ I p s B
  | .ret, _, B => KeepsFrom lo A B ∧ Kp s A B ∧ Ix .ret p s B
  | .exit id, _, B => KeepsFrom lo A B ∧ Kp s A B ∧ Ix (.exit id) p s B
  | .goto t, _, B => KeepsFrom lo A B ∧ Kp s A B ∧ Ix (.goto t) p s B
  | .panic _, _, _ => False
  | .outgrown, _, _ => False
theorem wpIn_rangeFunc_st {g : Operand} {ps : Array Tmp} {assign body : Code} {Q : Exit → Act → World → Prop} {a : Act} {w : World}
    (hro : F.round = none) (h1 : 1 ≤ n) {gf : Nat} {lb : Array Value} (hg : a.eval g = .func (.func gf) #[] lb) (hFg : F.fn gf) (eg : ∀ args w, (callFunc gf args).run P w = .ok (.enter gf args) w)
    {encs : α → Array Value} {Nx : List α → α → Prop} {Tr : σ → World → σ → World → Prop} {Kp : σ → World → World → Prop} {S Sp : List α → Prop} {s0 : σ}
    (hseq : SeqSt F (n - 1) P gf lb encs Nx Tr Kp S Sp s0 w)
    (hTr : ∀ s A s' B, Tr s A s' B → KeepsOthers A B)
    (hKt : ∀ {s A B C}, Kp s A B → Kp s B C → Kp s A C) (hKb : ∀ (s : σ) (A : World) (l : Nat) (o o' : Obj), w.heap.size ≤ l → A.heap[l]? = some o → o.isCells = false → o.isWalk = false → Kp s A (A.putObj l o'))
    (hps : ∀ x, (encs x).size = ps.size)
    (I : List α → σ → World → Prop) (Ix : Code → List α → σ → World → Prop)
    (hIt : ∀ p s A s' B, I p s A → Tr s A s' B → I p s' B) (hIxt : ∀ c p s A s' B, Ix c p s A → Tr s A s' B → Ix c p s' B)
    (hI : OwnFrom w.heap.size (fun (z : List α × σ) A => I z.1 z.2 A)) (hIx : ∀ c, OwnFrom w.heap.size (fun (z : List α × σ) A => Ix c z.1 z.2 A))
    (h0 : I [] s0 w) (Ax : α → Act → World → Prop) (hAx : ∀ x a', OwnFrom w.heap.size (fun (_ : Unit) A => Ax x a' A))
    (hassign : ∀ (l : Nat) (p : List α) (x : α) (s : σ) (A : World) (K : Act → World → Prop), I p s A → Nx p x → (∀ a' B, KeepsFrom w.heap.size A B → Kp s A B → I p s B → Ax x a' B → K a' B) →
      assign.wpIn (F.inRound l) (n - 1 - 1) P (Exit.then K (fun _ _ _ => False)) { tmps := (ps.zip (encs x)).foldl (fun t (p, v) => t.setIfInBounds p v) a.tmps, defers := [] } A)
    (hbody : ∀ (l : Nat) (p : List α) (x : α) (s : σ) (a' : Act) (A : World), w.heap.size ≤ l → (∃ r, A.heap[l]? = some (.loop r)) → I p s A → Ax x a' A → Nx p x → body.wpIn (F.inRound l) (n - 1 - 1) P (stPost w.heap.size Kp I Ix (p ++ [x]) s A) a' A)
    (hdone : ∀ (D : Nat) (p : List α) (s : σ) (A : World), w.heap.size ≤ D → S p → I p s A → A.heap[D]? = some (.deferred (some [])) → Q .normal { a with defers := { target := .collected D, args := #[] } :: a.defers } A)
    (hstop : ∀ (D : Nat) (c : Code) (p : List α) (s : σ) (A : World), w.heap.size ≤ D → Sp p → Ix c p s A → A.heap[D]? = some (.deferred (some [])) → c.wpIn F n P Q { a with defers := { target := .collected D, args := #[] } :: a.defers } A) :
    (Code.rangeFunc g ps assign body).wpIn F n P Q a w := by
  refine wpIn_rangeFunc fun fn hfn => ?_
  rw [hro]
  obtain ⟨rec, hrec⟩ : ∃ rec : LoopState → Option Code → Loop, rec = fun st pe => { state := st, pending := pe, fn, tmps := a.tmps, params := ps, assign, body, defers := w.heap.size } := ⟨_, rfl⟩
  obtain ⟨V, hV⟩ : ∃ V, V = (w.alloc (.deferred (some []))).alloc (.loop (rec .ready none)) := ⟨_, rfl⟩
  obtain ⟨lp, hlp⟩ : ∃ lp, lp = w.heap.size + 1 := ⟨_, rfl⟩
  have vl : V.heap[lp]? = some (.loop (rec .ready none)) := by
    have h := World.alloc_heap_new (w.alloc (.deferred (some []))) (.loop (rec .ready none))
    rw [World.size_alloc] at h
    rw [hV, hlp]; exact h
  have vd : V.heap[w.heap.size]? = some (.deferred (some [])) := by
    rw [hV]; exact (Below.heap_alloc _ _ _ (by simp)).trans (World.alloc_heap_new w _)
  have vb : Below w.heap.size w V := by rw [hV]; exact ((Below.refl _ w).alloc (Nat.le_refl _) _).alloc (by simp) _
  have v0 : I [] s0 V := by rw [hV]; exact hI.alloc (s := ([], s0)) _ (hI.alloc (s := ([], s0)) _ h0)
  refine ⟨lp, [{ target := .collected w.heap.size, args := #[] }], V, { target := .fn (.func gf) lb, args := #[.func (.yield lp) #[] #[]] }, V, gf, #[.func (.yield lp) #[] #[]] ++ lb, V, ?_, ?_, ?_, ?_, fun _ => h1, ?_⟩
  · rw [hV, hlp, hrec]; exact run_enterLoop_outer _ _ _ _ _
  · simp only [resolve, hg]; simp [go_sem]
  · intro f' hf'; simp [Target.leads] at hf'; subst hf'; exact hFg
  · simp [invoke, go_sem, eg]
  · refine (hseq lp (fun p s A => I p s A ∧ A.heap[lp]? = some (.loop (rec .ready none)) ∧ A.heap[w.heap.size]? = some (.deferred (some [])))
      (fun p s A => ∃ c, Ix c p s A ∧ A.heap[lp]? = some (.loop (rec .done (some c))) ∧ A.heap[w.heap.size]? = some (.deferred (some []))) V vb
      (fun p s A s' B h ht => ⟨hIt p s A s' B h.1 ht, (hTr _ _ _ _ ht).same _ _ h.2.1 rfl, (hTr _ _ _ _ ht).same _ _ h.2.2 rfl⟩)
      (fun p s A s' B h ht => by obtain ⟨c, hc, hl, hd⟩ := h; exact ⟨c, hIxt c p s A s' B hc ht, (hTr _ _ _ _ ht).same _ _ hl rfl, (hTr _ _ _ _ ht).same _ _ hd rfl⟩)
      ?_ ⟨v0, vl, vd⟩).mono ?_
    · rintro p x s A ⟨hi, hl, hd⟩ hx
      have hy := run_yield (P := P) (args := encs x) hl (by rw [hrec]; exact hps x)
      rw [hrec] at hy
      refine ⟨fn, _, assign, body, hy, roundIn_of_wpIn hfn (hassign _ p x s A _ hi hx fun a' B kf kp hib hax => ?_)⟩
      clear hy
      have bl := kf.same _ _ (by omega) hl rfl
      have bd := kf.same _ _ (Nat.le_refl _) hd rfl
      have blt : lp < B.heap.size := (Array.getElem?_eq_some_iff.1 bl).1
      refine ⟨_, run_beginRound bl (by rw [hrec]), ?_⟩
      have cl : (B.putObj lp (.loop { rec .ready none with state := .busy })).heap[lp]? = some (.loop { rec .ready none with state := .busy }) := World.putObj_heap_same blt
      have cd : (B.putObj lp (.loop { rec .ready none with state := .busy })).heap[w.heap.size]? = some (.deferred (some [])) := (World.putObj_heap_other (by omega)).trans bd
      have ck : Kp s B (B.putObj lp (.loop { rec .ready none with state := .busy })) := hKb _ _ _ _ _ (by omega) bl rfl rfl
      refine wpIn_mono (hbody _ p x s a' _ (by omega) ⟨_, cl⟩ (hI.putObj (s := (p, s)) _ hib (by omega) bl rfl) ((hAx x a').putObj (s := ()) _ hax (by omega) bl rfl) hx) ?_
      have fin : ∀ (jump : Option Code) (C : World), KeepsFrom w.heap.size (B.putObj lp (.loop { rec .ready none with state := .busy })) C →
          (Instr.endRound lp jump).run P C = .ok (.bool jump.isNone) (C.putObj lp (.loop (rec (if jump.isNone then .ready else .done) jump))) ∧
          C.heap[lp]? = some (.loop { rec .ready none with state := .busy }) ∧
          (C.putObj lp (.loop (rec (if jump.isNone then .ready else .done) jump))).heap[lp]? = some (.loop (rec (if jump.isNone then .ready else .done) jump)) ∧
          (C.putObj lp (.loop (rec (if jump.isNone then .ready else .done) jump))).heap[w.heap.size]? = some (.deferred (some [])) := fun jump C kc => by
        have l3 := kc.same _ _ (by omega) cl rfl
        have r3 := run_endRound (P := P) jump l3
        rw [hrec] at r3 ⊢
        exact ⟨r3, by rw [hrec] at l3; exact l3, World.putObj_heap_same (Array.getElem?_eq_some_iff.1 l3).1, (World.putObj_heap_other (by omega)).trans (kc.same _ _ (Nat.le_refl _) cd rfl)⟩
      rintro e a3 C hp
      cases e with
      | normal =>
        obtain ⟨k3, kp3, i3⟩ := hp
        obtain ⟨hr, l3, l4, d4⟩ := fin none C k3
        exact ⟨_, _, hr, .inl ⟨rfl, ⟨hI.putObj (s := (p ++ [x], s)) _ i3 (by omega) l3 rfl, l4, d4⟩, hKt kp (hKt (hKt ck kp3) (hKb _ _ _ _ _ (by omega) l3 rfl rfl))⟩⟩
      | ret =>
        obtain ⟨k3, kp3, i3⟩ := hp
        obtain ⟨hr, l3, l4, d4⟩ := fin (some .ret) C k3
        exact ⟨_, _, hr, .inr ⟨rfl, ⟨.ret, (hIx _).putObj (s := (p ++ [x], s)) _ i3 (by omega) l3 rfl, l4, d4⟩, hKt kp (hKt (hKt ck kp3) (hKb _ _ _ _ _ (by omega) l3 rfl rfl))⟩⟩
      | exit id =>
        obtain ⟨k3, kp3, i3⟩ := hp
        obtain ⟨hr, l3, l4, d4⟩ := fin (some (.exit id)) C k3
        exact ⟨_, _, hr, .inr ⟨rfl, ⟨.exit id, (hIx _).putObj (s := (p ++ [x], s)) _ i3 (by omega) l3 rfl, l4, d4⟩, hKt kp (hKt (hKt ck kp3) (hKb _ _ _ _ _ (by omega) l3 rfl rfl))⟩⟩
      | goto t =>
        obtain ⟨k3, kp3, i3⟩ := hp
        obtain ⟨hr, l3, l4, d4⟩ := fin (some (.goto t)) C k3
        exact ⟨_, _, hr, .inr ⟨rfl, ⟨.goto t, (hIx _).putObj (s := (p ++ [x], s)) _ i3 (by omega) l3 rfl, l4, d4⟩, hKt kp (hKt (hKt ck kp3) (hKb _ _ _ _ _ (by omega) l3 rfl rfl))⟩⟩
      | panic ch => exact hp.elim
      | outgrown => exact hp.elim
    · rintro e C ⟨⟨v, rfl⟩, (⟨p, s, hS, hi, hl, hd⟩ | ⟨p, s, hSp, c, hi, hl, hd⟩)⟩
      · exact ⟨none, _, by have := run_endLoop (P := P) hl (by rw [hrec]; simp); rw [hrec] at this; exact this, hdone _ p s _ (Nat.le_refl _) hS (hI.putObj (s := (p, s)) _ hi (by omega) hl rfl) ((World.putObj_heap_other (by omega)).trans hd)⟩
      · exact ⟨some c, _, by have := run_endLoop (P := P) hl (by rw [hrec]; simp); rw [hrec] at this; exact this, hstop _ c p s _ (Nat.le_refl _) hSp ((hIx c).putObj (s := (p, s)) _ hi (by omega) hl rfl) ((World.putObj_heap_other (by omega)).trans hd)⟩
end
end Go.Proofs.YtcamnalmcghjfaaGreatDoor
set_option linter.unusedVariables false
set_option linter.unusedSimpArgs false
namespace Go.Proofs.YtcamnalmcghjfaaGreatDoor
open Go.RowKit Go.Shelf Go.Proofs.SealMath
attribute [local go_sem] Oper.semAt_some
theorem updates_any (b : ByteArray) (x : Int) (w : World) :
    Calls Tryz.prog 62 #[.string b, .int .i64 x] w fun r w' => r = .returned (.func (.func 78) #[] #[Pt w.heap.size, Pt (w.heap.size + 1)]) ∧ w' = (w.alloc (.cells #[.string b] 9)).alloc (.cells #[.int .i64 x] 3) := by
  have hmf : ∀ (fn : Fn) (first cap : Array Value) (w : World), (Instr.makeFunc fn first cap).run Tryz.prog w = .ok (.func fn first cap) w := fun _ _ _ _ => rfl
  go_enter Tryz.func62, Tryz.ntmps62
  go_wp2
  go_ret
  exact ⟨rfl, rfl⟩
/-- What the iterator does by itself: it makes. -/
def TrN (s : Unit) (A : World) (s' : Unit) (B : World) : Prop := Below A.heap.size A B
theorem TrN.others {s s' : Unit} {A B : World} (h : TrN s A s' B) : KeepsOthers A B :=
  ⟨Below.size h, fun k o hk ho => (Below.block h k (Array.getElem?_eq_some_iff.1 hk).1).trans hk⟩
/-- What a round keeps of the iterator's. -/
def KpN (K : Nat → Prop) (s : Unit) (A B : World) : Prop := A.heap.size ≤ B.heap.size ∧ ∀ k c t m, K k → A.heap[k]? = some (.cells c t m) → B.heap[k]? = some (.cells c t m)
theorem KpN.trans {K : Nat → Prop} {s : Unit} {A B C : World} (h : KpN K s A B) (k : KpN K s B C) : KpN K s A C := ⟨Nat.le_trans h.1 k.1, fun i c t m hi hc => k.2 i c t m hi (h.2 i c t m hi hc)⟩
theorem KpN.put {K : Nat → Prop} (s : Unit) (A : World) (l : Nat) (o o' : Obj) (h : A.heap[l]? = some o) (ho : o.isCells = false) : KpN K s A (A.putObj l o') := ⟨by simp, fun k c t m _ hc =>
  (World.putObj_heap_other (fun e => by subst e; rw [h] at hc; cases hc; cases ho)).trans hc⟩
theorem Tab.same {w W : World} (h : Tab w) (e : W.heap[0]? = w.heap[0]?) : Tab W := fun i hi => by
  have h1 := h i hi
  simp only [World.cell?, e] at h1 ⊢
  exact h1
abbrev encU (z : Up × Nat) : Array Value := #[.agg (upV z.1), .int .i64 z.2]
def mU (n : Nat) (u6 u7 : Value) : Nat := match u7 with
  | .int _ 0 => n + 1 - (intOf u6).toNat
  | _ => 0
theorem boxu {w A : World} {b t : Nat} {v : Value} (h : w.heap[b]? = some (.cells #[v] t (0, 0))) (hA : A.heap[b]? = w.heap[b]?) : A.cell? ⟨b, 0, none⟩ = some v := by simp [World.cell?, hA, h]
/-- What stands while the frames are gone through. -/
structure UI (b : ByteArray) (x : Int) (K : Nat → Prop) (w : World) (J : List (Up × Nat) → Unit → World → Prop) (pre : List (Up × Nat)) (a : Nat) (wr : World) : Prop where
  le : a ≤ b.size
  eq : pre ++ ups b x a = ups b x 0
  j : J pre () wr
  kept : ∀ k, K k → wr.heap[k]? = w.heap[k]?
  size : w.heap.size ≤ wr.heap.size
set_option maxRecDepth 100000 in
set_option maxHeartbeats 2000000 in
theorem upd_st (b : ByteArray) (x : Int) (Bb Bw n : Nat) (K : Nat → Prop) (w : World)
    (hb1 : w.heap[Bb]? = some (.cells #[.string b] 9 (0, 0))) (hx1 : w.heap[Bw]? = some (.cells #[.int .i64 x] 3 (0, 0))) (ht : Tab w)
    (hK' : K Bb ∧ K Bw ∧ K 0) (hKc : ∀ k, K k → ∃ c t m, w.heap[k]? = some (.cells c t m)) (hbs : b.size < 1152921504606846976) :
    SeqSt Fence.wide n Tryz.prog 78 #[Pt Bb, Pt Bw] encU (fun p z => p ++ [z] <+: ups b x 0) TrN (KpN K) (fun p => p = ups b x 0) (fun _ => True) () w := fun lp J Jx W hW hJ hJx hY h0 => by
  have hKl : ∀ k, K k → k < w.heap.size := fun k hk => by obtain ⟨c, t, m, h⟩ := hKc k hk; exact (Array.getElem?_eq_some_iff.1 h).1
  have hkW : ∀ k, K k → W.heap[k]? = w.heap[k]? := fun k hk => hW.block k (hKl k hk)
  have hX := boxu hb1 (hkW Bb hK'.1)
  have hbl : Bb < W.heap.size := World.block_lt_of_cell? W _ hX
  have hpar := fun a (V : World) (hV : V.heap[0]? = w.heap[0]?) (ha : a ≤ b.size) => parse_ok b a (psA b a) V (ht.same hV) (by have h1 := (ht.same hV).pos; omega) (by omega) ha rfl
  have hp0 := hpar 0 W (hkW _ hK'.2.2) (Nat.zero_le _)
  obtain ⟨R, hR⟩ : ∃ R, R = psA b 0 := ⟨_, rfl⟩
  rw [← hR] at hp0
  have HR0 := Hid.mk hR
  clear hR
  refine callsIn_of_wp Tryz.func78 rfl trivial ?_ rfl
  simp only [Tryz.ntmps78, List.size_toArray, List.length_cons, List.length_nil, Nat.reduceAdd, Nat.reduceSub, Array.replicate_succ, Array.replicate_zero, List.push_toArray, List.append_toArray, List.nil_append, List.cons_append]
  gi_wp2_with fail
  refine ⟨trivial, fun h => (by cases h), (callsIn_wide.2 hp0).mono ?_⟩
  clear hp0
  rintro r w1 ⟨rfl, b1⟩
  have P0 : UI b x K w J [] 0 w1 :=
    { le := Nat.zero_le _, eq := rfl
      j := hJ _ _ W _ _ h0 b1
      kept := fun k hk => (b1.block k (Nat.lt_of_lt_of_le (hKl k hk) hW.size)).trans (hkW k hk)
      size := Nat.le_trans hW.size b1.size }
  clear hX hbl b1
  gi_wp2
  gi_loopw [4, 5, 6, 7, 8, 9] (fun u4 u5 u6 u7 _ _ wr => ∃ (pre : List (Up × Nat)) (a : Nat) (R : Nat × List UInt8 × Nat × Int), R = psA b a ∧ u4 = .int .i64 R.1 ∧ u5 = .string ⟨R.2.1.toArray⟩ ∧ u6 = .int .i64 R.2.2.1 ∧ u7 = .int .i64 R.2.2.2 ∧ Hid (UI b x K w J pre a wr)) (fun _ _ u6 u7 _ _ _ => mU b.size u6 u7)
  case atStart => exact ⟨[], 0, R, HR0.out, rfl, rfl, rfl, rfl, P0⟩
  case round =>
    clear P0 HR0
    obtain ⟨pre, a, R, hR, rfl, rfl, rfl, rfl, HP⟩ := hrel
    by_cases hE : R.2.2.2 = 0
    · have hE' := hE
      rw [hR] at hE'
      have hn := psA_next hE'
      have heq := HP.out.eq
      rw [ups_some hE'] at heq
      rw [← hR] at hn heq
      obtain ⟨k, pl, q, e⟩ := R
      simp only [] at hE hn heq
      subst hE
      have HR := Hid.mk hR
      have hun := fun (V : World) => unpack_any k ⟨pl.toArray⟩ x V (by rw [ba_len]; simp; omega)
      obtain ⟨U, hU⟩ : ∃ U, U = unA k ⟨pl.toArray⟩ x := ⟨_, rfl⟩
      rw [← hU] at hun heq
      obtain ⟨⟨us, uk, ui, uc⟩, ue⟩ := U
      have kept1 := HP.out.kept
      have hX := boxu hx1 (kept1 Bw hK'.2.1)
      have HN := Hid.mk hn
      have HQ := Hid.mk heq
      clear hR hU hE' hn heq kept1
      gi_wp2_with fail
      refine ⟨trivial, fun h => (by cases h), (callsIn_wide.2 (hun wr)).mono ?_⟩
      clear hun
      rintro r2 W2 ⟨rfl, b2⟩
      have b3 : Below wr.heap.size wr (W2.alloc (.cells #[.int .i64 us, .int .i64 uk, .int .i64 ui, .string ⟨uc.toArray⟩] 32)) := b2.alloc (by have := b2.size; omega) _
      have hJ3 := hJ _ _ wr () _ HP.out.j b3
      obtain ⟨fn, tmps, assign, body, hy, hRd⟩ := hY pre (⟨us, uk, ui, uc⟩, q) () _ hJ3 ⟨ups b x q, by rw [← HQ.out]; simp⟩
      simp only [encU, upV, uC] at hy
      have kept3 : ∀ k, K k → (W2.alloc (.cells #[.int .i64 us, .int .i64 uk, .int .i64 ui, .string ⟨uc.toArray⟩] 32)).heap[k]? = w.heap[k]? := fun k hk => (b3.block k (Nat.lt_of_lt_of_le (hKl k hk) HP.out.size)).trans (HP.out.kept k hk)
      have HK3 := Hid.mk kept3
      have Hs3 := Hid.mk (Nat.le_trans HP.out.size b3.size)
      have hbx := boxu hb1 (kept3 Bb hK'.1)
      clear hX kept3 b2 b3 hJ3
      gi_wp2_with fail
      refine ⟨fun h => (by cases h), hRd.mono ?_⟩
      clear hy hRd hbx
      rintro rr W5 (⟨rfl, hJ5, hk5⟩ | ⟨rfl, hJ5, hk5⟩)
      · have kept5 : ∀ k, K k → W5.heap[k]? = w.heap[k]? := fun k hk => by
          obtain ⟨c, t, m, h⟩ := hKc k hk
          rw [h]
          exact hk5.2 k c t m hk ((HK3.out k hk).trans h)
        have hX := boxu hb1 (kept5 Bb hK'.1)
        have hp5 := hpar q W5 (kept5 _ hK'.2.2) HN.out.2.1
        obtain ⟨R5, hR5⟩ : ∃ R5, R5 = psA b q := ⟨_, rfl⟩
        rw [← hR5] at hp5
        have HR5 := Hid.mk hR5
        have HJ5 := Hid.mk hJ5
        have HK5 := Hid.mk kept5
        have Hs5 := Hid.mk (Nat.le_trans Hs3.out hk5.1)
        clear hR5 hJ5 kept5 hk5
        gi_wp2_with fail
        refine ⟨trivial, fun h => (by cases h), (callsIn_wide.2 hp5).mono ?_⟩
        clear hp5
        rintro r6 W6 ⟨rfl, b6⟩
        have P6 : UI b x K w J (pre ++ [(⟨us, uk, ui, uc⟩, q)]) q W6 :=
          { le := HN.out.2.1, eq := by rw [List.append_assoc]; exact HQ.out
            j := hJ _ _ W5 _ _ HJ5.out b6
            kept := fun k hk => (b6.block k (Nat.lt_of_lt_of_le (hKl k hk) Hs5.out)).trans (HK5.out k hk)
            size := Nat.le_trans Hs5.out b6.size }
        have HP6 := Hid.mk P6
        have hme : mU b.size (.int .i64 R5.2.2.1) (.int .i64 R5.2.2.2) < mU b.size (.int .i64 q) (.int .i64 0) := by
          have hq := HN.out
          by_cases h5 : R5.2.2.2 = 0
          · have h6 := h5
            rw [HR5.out] at h6
            have h7 := psA_next h6
            rw [← HR5.out] at h7
            rw [h5]
            simp only [mU, intOf]
            omega
          · have e0 : mU b.size (.int .i64 R5.2.2.1) (.int .i64 R5.2.2.2) = 0 := by
              unfold mU
              split
              · rename_i h8
                simp only [Value.int.injEq] at h8
                exact absurd h8.2 h5
              · rfl
            rw [e0]
            simp only [mU, intOf]
            omega
        clear hX b6 P6
        gi_wp2
        exact ⟨⟨pre ++ [(⟨us, uk, ui, uc⟩, q)], q, R5, HR5.out, rfl, rfl, rfl, rfl, HP6⟩, hme⟩
      · have HJ := Hid.mk hJ5
        clear hJ5 hk5
        gi_wp2_with fail
        refine bodyPost_ret (results_none Tryz.results78 _ _ _) rfl ?_
        exact ⟨⟨_, rfl⟩, .inr ⟨_, _, trivial, HJ.out⟩⟩
    · have hE' := hE
      rw [hR] at hE'
      have heq := HP.out.eq
      rw [ups_none hE', List.append_nil] at heq
      have hj := HP.out.j
      have HQ := Hid.mk (And.intro heq hj)
      clear hR hE' heq hj HP
      gi_wp2_with fail
      go_end0
      exact ⟨⟨_, rfl⟩, .inl ⟨pre, (), HQ.out.1, HQ.out.2⟩⟩
end Go.Proofs.YtcamnalmcghjfaaGreatDoor
set_option linter.unusedVariables false
set_option linter.unusedSimpArgs false
namespace Go.Proofs.YtcamnalmcghjfaaGreatDoor
open Go.RowKit
/-- Is the number one of a journal? -/
def nmB (n : Int) : Bool := decide (1 ≤ n ∧ n ≤ 1099511627776)
/-- A journal's name. -/
def nmT (n : Int) : ByteArray := if nmB n = true then ⟨#[106]⟩ ++ ⟨(Lib.itoa n).toArray⟩ else ⟨#[]⟩
abbrev Pow (w : World) : Prop := Lib.TabIs Tryz.prog w "internal/strconv.uint64pow10" .u64 Lib.pow10Tab
theorem itoa_sz (n : Int) (h : nmB n = true) : (Lib.itoa n).length ≤ 21 := by
  have hn : 1 ≤ n ∧ n ≤ 1099511627776 := of_decide_eq_true h
  have := Lib.itoa_length_le n (by omega) (by omega)
  omega
theorem itoa_any (n : Int) (w : World) (h : nmB n = true) (ht : Pow w) :
    Calls Tryz.prog 52 #[.int .i64 n] w fun e w' => e = .returned (.string ⟨(Lib.itoa n).toArray⟩) ∧ Below w.heap.size w w' := by
  have hn : 1 ≤ n ∧ n ≤ 1099511627776 := of_decide_eq_true h
  refine (Tryz.strconv_Itoa n (by omega) (by omega) w ht).mono ?_
  rintro e w' ⟨rfl, k, os, rfl⟩
  exact ⟨rfl, Lib.below_grow _ _ (Nat.le_refl _) _ _⟩
set_option maxHeartbeats 1000000 in
set_option maxRecDepth 100000 in
theorem name_any (n : Int) (w : World) (ht : Pow w) :
    Calls Tryz.prog 22 #[.int .i64 n] w fun e w' => e = .returned (.string (nmT n)) ∧ Below w.heap.size w w' := by
  unfold nmT
  cases h : nmB n
  · have H : Hid _ := h
    go_enter Tryz.func22, Tryz.ntmps22
    go_wp2_with (go_at_call 45; refine (isNumber_any _ _).mono ?_; rintro e w' ⟨rfl, rfl⟩; rw [show decide (1 ≤ n ∧ n ≤ 1099511627776) = false from H.out])
    go_ret
    exact ⟨rfl, Below.refl _ _⟩
  · have H : Hid _ := h
    have hs := itoa_sz n h
    go_enter Tryz.func22, Tryz.ntmps22
    go_wp2_with first
      | (go_at_call 45; refine (isNumber_any _ _).mono ?_; rintro e w' ⟨rfl, rfl⟩; rw [show decide (1 ≤ n ∧ n ≤ 1099511627776) = true from H.out])
      | (go_at_call 52; refine (itoa_any n _ H.out ht).mono ?_; rintro e w' ⟨rfl, b⟩)
    all_goals first | (exfalso; omega) | skip
    go_ret
    exact ⟨rfl, b⟩
end Go.Proofs.YtcamnalmcghjfaaGreatDoor
set_option linter.unusedVariables false
set_option linter.unusedSimpArgs false
namespace Go.Proofs.YtcamnalmcghjfaaGreatDoor
open Go.RowKit Go.Shelf Go.Proofs.SealMath Go.Proofs.DiskMath
/-- What check refuses. -/
def jcE (n s x : Int) : Int := if nmB n = true then (if isW x = true then (if s = 0 ∨ (1 ≤ s ∧ s ≤ 1152921504606846976) then 0 else 51) else 10) else 13
set_option maxHeartbeats 1000000 in
theorem jcheck_any (n s x : Int) (w : World) : Calls Tryz.prog 20 #[.int .i64 n, .int .i64 s, .int .i64 x] w fun r w' => r = .returned (.int .i64 (jcE n s x)) ∧ w' = w := by
  have h1 := isNumber_any n w
  have h2 := jWidth_any x w
  have h3 := isSeq_any s w
  unfold jcE nmB
  by_cases c1 : 1 ≤ n ∧ n ≤ 1099511627776
  · have d1 : decide (1 ≤ n ∧ n ≤ 1099511627776) = true := decide_eq_true c1
    rw [d1] at h1 ⊢
    rw [if_pos rfl]
    cases c2 : isW x with
    | false =>
      rw [c2] at h2
      clear d1 c1
      rw [if_neg (by simp)]
      go_enter Tryz.func20, Tryz.ntmps20
      go_wp2_with (first | (go_at_call 45; refine h1.mono ?_; rintro r w1 ⟨rfl, rfl⟩) | (go_at_call 46; refine h2.mono ?_; rintro r w2 ⟨rfl, rfl⟩))
      go_ret
      exact ⟨rfl, rfl⟩
    | true =>
      rw [c2] at h2
      rw [if_pos rfl]
      by_cases c3 : s = 0
      · rw [if_pos (.inl c3)]
        have d3 : (s != 0) = false := by simp [c3]
        clear d1 c1 c3 h3
        go_enter Tryz.func20, Tryz.ntmps20
        go_wp2_with (first | (go_at_call 45; refine h1.mono ?_; rintro r w1 ⟨rfl, rfl⟩) | (go_at_call 46; refine h2.mono ?_; rintro r w2 ⟨rfl, rfl⟩))
        go_ret
        exact ⟨rfl, rfl⟩
      · have d3 : (s != 0) = true := by simpa using c3
        by_cases c4 : 1 ≤ s ∧ s ≤ 1152921504606846976
        · rw [if_pos (.inr c4)]
          have d4 : decide (1 ≤ s ∧ s ≤ 1152921504606846976) = true := decide_eq_true c4
          rw [d4] at h3
          clear d1 c1 c3 c4 d4
          go_enter Tryz.func20, Tryz.ntmps20
          go_wp2_with (first | (go_at_call 45; refine h1.mono ?_; rintro r w1 ⟨rfl, rfl⟩) | (go_at_call 46; refine h2.mono ?_; rintro r w2 ⟨rfl, rfl⟩) | (go_at_call 47; refine h3.mono ?_; rintro r w3 ⟨rfl, rfl⟩))
          go_ret
          exact ⟨rfl, rfl⟩
        · rw [if_neg (by rintro (h | h); exact c3 h; exact c4 h)]
          have d4 : decide (1 ≤ s ∧ s ≤ 1152921504606846976) = false := decide_eq_false c4
          rw [d4] at h3
          clear d1 c1 c3 c4 d4
          go_enter Tryz.func20, Tryz.ntmps20
          go_wp2_with (first | (go_at_call 45; refine h1.mono ?_; rintro r w1 ⟨rfl, rfl⟩) | (go_at_call 46; refine h2.mono ?_; rintro r w2 ⟨rfl, rfl⟩) | (go_at_call 47; refine h3.mono ?_; rintro r w3 ⟨rfl, rfl⟩))
          go_ret
          exact ⟨rfl, rfl⟩
  · have d1 : decide (1 ≤ n ∧ n ≤ 1099511627776) = false := decide_eq_false c1
    rw [d1] at h1 ⊢
    rw [if_neg (by simp)]
    clear d1 c1
    go_enter Tryz.func20, Tryz.ntmps20
    go_wp2_with (first | (go_at_call 45; refine h1.mono ?_; rintro r w1 ⟨rfl, rfl⟩))
    go_ret
    exact ⟨rfl, rfl⟩
set_option maxHeartbeats 1000000 in
/-- All of a file that is there. -/
theorem whole_yes {p mb : Nat} {es : List Ent} {c : Dk.Ctl} {e : Ent} (s : ByteArray) (w : World) (h : Dk.DK w p mb es c) (hf : findE es s.data.toList = some e) (h0 : Dk.fdE es c s.data.toList = 0) (hl : e.da.length < 4611686018427387904) :
    Calls Tryz.prog 61 #[Pt p, .string s] w fun r w' => r = .returned (.tuple #[.string ⟨e.da.toArray⟩, .int .i64 0]) ∧ w' = w := by
  have h1 := Dk.size_any s w h (fun r w' => r = .returned (.tuple #[.int .i64 e.da.length, .int .i64 0]) ∧ w' = w) (fun h => absurd h0 h) (fun e' hf' _ => by rw [hf] at hf'; cases hf'; exact ⟨rfl, rfl⟩)
  have h2 := Dk.read_any s 0 e.da.length w h (by omega) (by omega) (fun r w' => r = .returned (.tuple #[.string ⟨e.da.toArray⟩, .int .i64 0]) ∧ w' = w) (fun h => absurd h0 h) (fun e' hf' _ hn => by rw [hf] at hf'; cases hf'; exact absurd ⟨by omega, by omega, by omega⟩ hn) (fun e' hf' _ _ _ _ => by
    rw [hf] at hf'; cases hf'
    refine ⟨?_, rfl⟩
    simp)
  obtain ⟨n, hn⟩ : ∃ n, n = e.da.length := ⟨_, rfl⟩
  rw [← hn] at h1 h2
  obtain ⟨X, hX⟩ : ∃ X : ByteArray, X = ⟨e.da.toArray⟩ := ⟨_, rfl⟩
  rw [← hX] at h2 ⊢
  clear hf h0 hl hn hX h
  go_enter Tryz.func61, Tryz.ntmps61
  go_wp2_with (first | (go_at_call 63; refine h1.mono ?_; rintro r w1 ⟨rfl, rfl⟩) | (go_at_call 77; refine h2.mono ?_; rintro r w2 ⟨rfl, rfl⟩))
  refine bodyPost_ret (results_tmp2 Tryz.results61 _ _ _) rfl ?_
  exact ⟨rfl, rfl⟩
end Go.Proofs.YtcamnalmcghjfaaGreatDoor
