/-
  DERIVED. SParseC, JRead, BRange, as one text.
-/
import Derived.Test.YtjkhhjboejkafaaDoorLzAM
import Derived.Test.YtjkhhjboejkafaaDoorLzAL
import Derived.RangeFuncNested
import Derived.RangeFuncBound
import Derived.RangeFuncCalls
import Derived.RangeFuncLeaves
import Derived.Shelf.Abstract
import Derived.Shelf.RegionOpen
import Derived.WalkKit
import Derived.OwnWalkIn
import Derived.TacticsInMore
import Derived.LoopNIn
import Derived.LoopIn
import Derived.Test.YtjkhhjboejkafaaDoorLzAA
namespace Go.Proofs.YtjkhhjboejkafaaDoor
open Go.RowKit Go.Proofs.SealMath
set_option maxRecDepth 100000 in
set_option maxHeartbeats 8000000 in
theorem rparse_ok (b : ByteArray) (a : Nat) (R : Nat × List UInt8 × Nat × Int) (w : World) (hb : b.size < 4611686018427387904) (ha : a ≤ b.size) (hR : R = psA b a) :
    Calls Tryd.prog 51 #[.string b, .int .i64 a] w fun e w' => e = .returned (.tuple #[.int .i64 R.1, .string ⟨R.2.1.toArray⟩, .int .i64 R.2.2.1, .int .i64 R.2.2.2]) ∧ ∃ m, w' = w.drewN m := by
  have HR : Hid (R = psA b a) := hR
  clear hR
  have hp1 : ¬ (a : Int) < 0 := by omega
  have hp2 : ¬ b.size < a := by omega
  have hrs := rest_size b a ha
  have HE : Hid (∀ i n, a + i + n ≤ b.size → sub (b.extract a b.size) i n = sub b (a + i) n) := fun i n h => rest_sub b a i n h
  have HD : Hid (hdA (b.extract a b.size) 0 = hdA b a) := hdA_rest b a ha
  obtain ⟨r, hr⟩ : ∃ r, r = b.extract a b.size := ⟨_, rfl⟩
  have HX : Hid (r = b.extract a b.size) := hr
  rw [← hr] at hrs HE HD
  clear hr
  have HRS : Hid (r.size = b.size - a) := hrs
  have hrl : r.size ≤ b.size := by omega
  clear hrs
  go_enter Tryd.func51, Tryd.ntmps51
  go_wp2_with fail
  rw [← HX.out]
  refine (begun_any r _ (by omega)).mono ?_
  rintro e w1 ⟨rfl, m1, rfl⟩
  rw [HD.out]
  have hok := hdA_ok b a
  have hsm := hdA_sum b a
  have hR := HR.out
  unfold psA at hR
  clear HR
  obtain ⟨⟨k, n, s, x⟩, hH⟩ : ∃ H, H = hdA b a := ⟨_, rfl⟩
  rw [← hH] at hR hok hsm ⊢
  clear hH
  dsimp only at hR hok hsm ⊢
  by_cases hx : x = 0
  · subst hx
    rw [if_pos rfl] at hR
    obtain ⟨ha10, hn, hk, hs⟩ := hok rfl
    obtain ⟨rfl, rfl⟩ := hsm rfl
    clear hok hsm
    by_cases h14 : b.size < a + 14 + n
    · rw [if_pos h14] at hR
      subst hR
      have h14' : r.size < 10 + n + 4 := by have := HRS.out; omega
      go_wp2
      refine bodyPost_ret (results_tmp4 rfl _ _ _) rfl ?_
      exact ⟨rfl, ⟨_, rfl⟩⟩
    · rw [if_neg h14] at hR
      have h14' : 10 + n + 4 ≤ r.size := by have := HRS.out; omega
      have hsz : r.size < 4611686018427387904 := by omega
      go_wp2
      obtain ⟨P, hP⟩ : ∃ P, P = r.extract 10 (10 + n) := ⟨_, rfl⟩
      rw [← hP]
      have hPl : P.data.toList = sub b (a + 10) n := by
        rw [hP, ext_sub, show 10 + n - 10 = n by omega, HE.out 10 n (by omega)]
      have hPs : P.size = n := by rw [ba_size, hPl, sub_len b (a + 10) n (by omega)]
      have h6l : (r.extract 0 6).data.toList = sub b a 6 := by rw [ext_sub, HE.out 0 (6 - 0) (by omega)]; rfl
      have h6s : (r.extract 0 6).size = 6 := by rw [ba_size, h6l, sub_len b a 6 (by omega)]
      clear hP
      have hc := crc_lt (s := crc 0 (sub b a 6)) (sub b (a + 10) n) hs
      have hl := lwS_lt b (a + 10 + n) (by omega)
      have hI := lwS_iff b (a + 10 + n) (crc (crc 0 (sub b a 6)) (sub b (a + 10) n)) (by omega) hc
      obtain ⟨S, hS⟩ : ∃ S, S = crc (crc 0 (sub b a 6)) (sub b (a + 10) n) := ⟨_, rfl⟩
      obtain ⟨L, hL⟩ : ∃ L, L = lwS (sub b (a + 10 + n) 4) := ⟨_, rfl⟩
      have hA : ∀ W, Calls Tryd.prog 65 #[.string r, .int .i64 (10 + (n : Int))] W (fun e w' => e = .returned (.int .u32 L) ∧ ∃ m, w' = W.drewN m) := fun W => by
        have := sumAt_sub r (10 + n) W hsz (by omega)
        rw [HE.out (10 + n) 4 (by omega), show a + (10 + n) = a + 10 + n by omega, ← hL] at this
        exact this
      have hBs : ∀ W, Calls Tryd.prog 66 #[.string (r.extract 0 6 ++ P)] W (fun e w' => e = .returned (.int .u32 S) ∧ w' = W) := fun W => by
        have := rsum_any (r.extract 0 6 ++ P) W (by rw [ByteArray.size_append, h6s, hPs]; omega)
        rw [ByteArray.data_append, Array.toList_append, h6l, hPl, crc_append, ← hS] at this
        exact this
      rw [← hS] at hc hI hR
      rw [← hL] at hl hI
      have HI : Hid (L = S ↔ sub b (a + 10 + n) 4 = lowL S) := hI
      have HR : Hid (R = if sub b (a + 10 + n) 4 = lowL S then (numL (sub b (a + 1) 1), sub b (a + 10) n, a + 14 + n, 0) else (0, [], 0, 34)) := hR
      have HPl : Hid (P.data.toList = sub b (a + 10) n) := hPl
      have hk1 : r[1].toNat = numL (sub b (a + 1) 1) := by
        have e := HE.out 1 1 (by omega)
        rw [sub_one' r 1 (by omega)] at e
        rw [← e]; simp [numL]
      have z6 : (6 : Int) ≤ (r.size : Int) := by omega
      clear hI hR hS hL hs h6l hPl
      have hwr : IntKind.i64.wrap (10 + (n : Int)) = 10 + (n : Int) := i64_in _ (by omega) (by omega)
      have z1 : (1 : Int) < (r.size : Int) := by omega
      have zs : ¬ (9223372036854775807 : Int) < 6 + (n : Int) := by omega
      obtain ⟨W1, hW1⟩ : ∃ W, W = w.drewN m1 := ⟨_, rfl⟩
      rw [← hW1]
      have HW : Hid (W1 = w.drewN m1) := hW1
      clear hW1
      go_quiet (first | (go_at_call 65; exact Calls.quiet_of (hA _)) | (go_at_call 66; exact Calls.quiet_of_same (hBs _)))
      clear hA hBs
      have hR := HR.out
      have hI := HI.out
      have HK : Hid (r[1].toNat = numL (sub b (a + 1) 1)) := hk1
      have hkb : r[1].toNat ≤ 255 := by rw [hk1]; exact hk
      clear hk1 HR HI
      by_cases hq : sub b (a + 10 + n) 4 = lowL S
      · rw [if_pos hq] at hR
        have hLS : L = S := hI.2 hq
        have hne : ((L : Int) != (S : Int)) = false := by rw [hLS]; simp
        rw [← HPl.out, ← HK.out] at hR
        subst hR
        clear hLS hI hq
        go_wp2
        refine bodyPost_ret (results_tmp4 rfl _ _ _) rfl ?_
        refine ⟨ret4 rfl rfl (ival ?_) rfl, ⟨_, by rw [HW.out, World.drewN_drewN]⟩⟩
        show (a : Int) + 10 + n + 4 = ((a + 14 + n : Nat) : Int)
        omega
      · rw [if_neg hq] at hR
        subst hR
        have hLS : L ≠ S := fun h => hq (hI.1 h)
        have hne : ((L : Int) != (S : Int)) = true := by simp; omega
        clear hLS hI hq
        go_wp2
        refine bodyPost_ret (results_tmp4 rfl _ _ _) rfl ?_
        exact ⟨rfl, ⟨_, by rw [HW.out, World.drewN_drewN]⟩⟩
  · rw [if_neg hx] at hR
    subst hR
    go_wp2
    refine bodyPost_ret (results_tmp4 rfl _ _ _) rfl ?_
    exact ⟨rfl, ⟨_, rfl⟩⟩
set_option maxRecDepth 100000 in
set_option maxHeartbeats 1000000 in
theorem rparse_any (b : ByteArray) (p : Int) (w : World) (hb : b.size < 4611686018427387904) :
    Calls Tryd.prog 51 #[.string b, .int .i64 p] w fun e w' => e = .returned (.tuple #[.int .i64 (prA b p).1, .string ⟨(prA b p).2.1.toArray⟩, .int .i64 (prA b p).2.2.1, .int .i64 (prA b p).2.2.2]) ∧ ∃ m, w' = w.drewN m := by
  unfold prA
  by_cases h : 0 ≤ p
  · by_cases k : p ≤ b.size
    · rw [if_pos ⟨h, k⟩]
      obtain ⟨a, rfl⟩ : ∃ a : Nat, p = a := ⟨p.toNat, by omega⟩
      exact rparse_ok b a _ w hb (by omega) rfl
    · rw [if_neg (by omega)]
      go_enter Tryd.func51, Tryd.ntmps51
      go_wp2
      refine bodyPost_ret (results_tmp4 rfl _ _ _) rfl ?_
      exact ⟨rfl, ⟨0, rfl⟩⟩
  · rw [if_neg (by omega)]
    go_enter Tryd.func51, Tryd.ntmps51
    go_wp2
    refine bodyPost_ret (results_tmp4 rfl _ _ _) rfl ?_
    exact ⟨rfl, ⟨0, rfl⟩⟩
end Go.Proofs.YtjkhhjboejkafaaDoor
set_option linter.unusedVariables false
set_option linter.unusedSimpArgs false
namespace Go.Proofs.YtjkhhjboejkafaaDoor
open Go.RowKit Go.Proofs.SealMath
theorem trip {α β γ : Type} (p : α × β × γ) : p = (p.1, p.2.1, p.2.2) := rfl
theorem unpack_any (k : Nat) (b : ByteArray) (x : Int) (w : World) (hb : b.size < 4611686018427387904) :
    Calls Tryd.prog 49 #[.int .i64 k, .string b, .int .i64 x] w fun e w' => e = .returned (.tuple #[.agg (upV (unA k b x).1), .int .i64 (unA k b x).2]) ∧ Below w.heap.size w w' := by
  by_cases hk : k = 1 ∨ k = 2
  · exact unpack_all k b x w hb hk _ _ _ (trip _) (fun h => (vA_lt b 0 h).1) _ _ _ (trip _) (fun h => vA_lt b _ h) _ (by unfold unA; rw [if_pos hk])
  · have e : unA k b x = (up0, 35) := by unfold unA; rw [if_neg hk]
    rw [e]
    exact unpack_kind k b x w hk
/-- What Read answers. -/
def rdA (b : ByteArray) (x : Int) : Up × Int :=
  if isW x = true then
    if (psA b 0).2.2.2 = 0 then
      if (psA b 0).2.2.1 = b.size then unA (psA b 0).1 ⟨(psA b 0).2.1.toArray⟩ x else (up0, 37)
    else (up0, (psA b 0).2.2.2)
  else (up0, 10)
theorem pay_le (b : ByteArray) (a : Nat) : (⟨(psA b a).2.1.toArray⟩ : ByteArray).size ≤ 65536 := by
  show (psA b a).2.1.toArray.size ≤ 65536
  rw [List.size_toArray]
  by_cases h : (psA b a).2.2.2 = 0
  · obtain ⟨k, p, h1, h2, h3, h4, h5, h6⟩ := psA_yes b a h
    rw [h5]; exact h3
  · unfold psA at h ⊢
    split at h
    · split at h
      · rename_i h1 h2; rw [if_pos h1, if_pos h2]; simp
      · split at h
        · simp at h
        · rename_i h1 h2 h3; rw [if_pos h1, if_neg h2, if_neg h3]; simp
    · rename_i h1; rw [if_neg h1]; simp
theorem prA0 (b : ByteArray) : prA b 0 = psA b 0 := by unfold prA; rw [if_pos (by omega)]; rfl
theorem quad {α β γ δ : Type} (p : α × β × γ × δ) : p = (p.1, p.2.1, p.2.2.1, p.2.2.2) := rfl
end Go.Proofs.YtjkhhjboejkafaaDoor
set_option linter.unusedVariables false
namespace Go.Proofs.YtjkhhjboejkafaaDoor
open Go.RowKit Go.Shelf
section
variable {F : Fence} {n : Nat} {P : Program} {α σ : Type}
/-- The iterator's word: whatever J the caller keeps, if J abides what the iterator does by itself. -/
def SeqSt (F : Fence) (n : Nat) (P : Program) (g : Nat) (lb : Array Value) (encs : α → Array Value) (Nx : List α → α → Prop) (Tr : σ → World → σ → World → Prop) (Kp : σ → World → World → Prop) (S Sp : List α → Prop) (s0 : σ) (w : World) : Prop :=
  ∀ (l : Nat) (J Jx : List α → σ → World → Prop) (W : World), Below w.heap.size w W →
    (∀ p s A s' B, J p s A → Tr s A s' B → J p s' B) → (∀ p s A s' B, Jx p s A → Tr s A s' B → Jx p s' B) →
    (∀ p x s A, J p s A → Nx p x → YieldAt F (n - 1) P l (encs x) A fun e B => (e = .returned (.bool true) ∧ J (p ++ [x]) s B ∧ Kp s A B) ∨ (e = .returned (.bool false) ∧ Jx (p ++ [x]) s B ∧ Kp s A B)) →
    J [] s0 W →
    CallsIn F n P g (#[.func (.yield l) #[] #[]] ++ lb) W fun e B => (∃ v, e = .returned v) ∧ ((∃ p s, S p ∧ J p s B) ∨ (∃ p s, Sp p ∧ Jx p s B))
/-- How a body may be left. -/
def stPost (lo : Nat) (Kp : σ → World → World → Prop) (I : List α → σ → World → Prop) (Ix : Code → List α → σ → World → Prop) (p : List α) (s : σ) (A : World) : Exit → Act → World → Prop
  | .normal, _, B => KeepsFrom lo A B ∧ Kp s A B ∧ I p s B
  | .ret, _, B => KeepsFrom lo A B ∧ Kp s A B ∧ Ix .ret p s B
  | .exit id, _, B => KeepsFrom lo A B ∧ Kp s A B ∧ Ix (.exit id) p s B
  | .goto t, _, B => KeepsFrom lo A B ∧ Kp s A B ∧ Ix (.goto t) p s B
  | .panic _, _, _ => False
  | .outgrown, _, _ => False
theorem wpIn_rangeFunc_st {g : Operand} {ps : Array Tmp} {assign body : Code} {Q : Exit → Act → World → Prop} {a : Act} {w : World}
    (hro : F.round = none) (h1 : 1 ≤ n) {gf : Nat} {lb : Array Value} (hg : a.eval g = .func (.func gf) #[] lb) (hFg : F.fn gf) (eg : ∀ args w, (callFunc gf args).run P w = .ok (.enter gf args) w)
    {encs : α → Array Value} {Nx : List α → α → Prop} {Tr : σ → World → σ → World → Prop} {Kp : σ → World → World → Prop} {S Sp : List α → Prop} {s0 : σ}
    (hseq : SeqSt F (n - 1) P gf lb encs Nx Tr Kp S Sp s0 w)
    (hTr : ∀ s A s' B, Tr s A s' B → KeepsOthers A B)
    (hKt : ∀ {s A B C}, Kp s A B → Kp s B C → Kp s A C) (hKb : ∀ (s : σ) (A : World) (l : Nat) (o o' : Obj), w.heap.size ≤ l → A.heap[l]? = some o → o.isCells = false → o.isWalk = false → Kp s A (A.putObj l o'))
    (hps : ∀ x, (encs x).size = ps.size)
    (I : List α → σ → World → Prop) (Ix : Code → List α → σ → World → Prop)
    (hIt : ∀ p s A s' B, I p s A → Tr s A s' B → I p s' B) (hIxt : ∀ c p s A s' B, Ix c p s A → Tr s A s' B → Ix c p s' B)
    (hI : OwnFrom w.heap.size (fun (z : List α × σ) A => I z.1 z.2 A)) (hIx : ∀ c, OwnFrom w.heap.size (fun (z : List α × σ) A => Ix c z.1 z.2 A))
    (h0 : I [] s0 w) (Ax : α → Act → World → Prop) (hAx : ∀ x a', OwnFrom w.heap.size (fun (_ : Unit) A => Ax x a' A))
    (hassign : ∀ (l : Nat) (p : List α) (x : α) (s : σ) (A : World) (K : Act → World → Prop), I p s A → Nx p x → (∀ a' B, KeepsFrom w.heap.size A B → Kp s A B → I p s B → Ax x a' B → K a' B) →
      assign.wpIn (F.inRound l) (n - 1 - 1) P (Exit.then K (fun _ _ _ => False)) { tmps := (ps.zip (encs x)).foldl (fun t (p, v) => t.setIfInBounds p v) a.tmps, defers := [] } A)
    (hbody : ∀ (l : Nat) (p : List α) (x : α) (s : σ) (a' : Act) (A : World), w.heap.size ≤ l → (∃ r, A.heap[l]? = some (.loop r)) → I p s A → Ax x a' A → Nx p x → body.wpIn (F.inRound l) (n - 1 - 1) P (stPost w.heap.size Kp I Ix (p ++ [x]) s A) a' A)
    (hdone : ∀ (D : Nat) (p : List α) (s : σ) (A : World), w.heap.size ≤ D → S p → I p s A → A.heap[D]? = some (.deferred (some [])) → Q .normal { a with defers := { target := .collected D, args := #[] } :: a.defers } A)
    (hstop : ∀ (D : Nat) (c : Code) (p : List α) (s : σ) (A : World), w.heap.size ≤ D → Sp p → Ix c p s A → A.heap[D]? = some (.deferred (some [])) → c.wpIn F n P Q { a with defers := { target := .collected D, args := #[] } :: a.defers } A) :
    (Code.rangeFunc g ps assign body).wpIn F n P Q a w := by
  refine wpIn_rangeFunc fun fn hfn => ?_
  rw [hro]
  obtain ⟨rec, hrec⟩ : ∃ rec : LoopState → Option Code → Loop, rec = fun st pe => { state := st, pending := pe, fn, tmps := a.tmps, params := ps, assign, body, defers := w.heap.size } := ⟨_, rfl⟩
  obtain ⟨V, hV⟩ : ∃ V, V = (w.alloc (.deferred (some []))).alloc (.loop (rec .ready none)) := ⟨_, rfl⟩
  obtain ⟨lp, hlp⟩ : ∃ lp, lp = w.heap.size + 1 := ⟨_, rfl⟩
  have vl : V.heap[lp]? = some (.loop (rec .ready none)) := by
    have h := World.alloc_heap_new (w.alloc (.deferred (some []))) (.loop (rec .ready none))
    rw [World.size_alloc] at h
    rw [hV, hlp]; exact h
  have vd : V.heap[w.heap.size]? = some (.deferred (some [])) := by
    rw [hV]; exact (Below.heap_alloc _ _ _ (by simp)).trans (World.alloc_heap_new w _)
  have vb : Below w.heap.size w V := by rw [hV]; exact ((Below.refl _ w).alloc (Nat.le_refl _) _).alloc (by simp) _
  have v0 : I [] s0 V := by rw [hV]; exact hI.alloc (s := ([], s0)) _ (hI.alloc (s := ([], s0)) _ h0)
  refine ⟨lp, [{ target := .collected w.heap.size, args := #[] }], V, { target := .fn (.func gf) lb, args := #[.func (.yield lp) #[] #[]] }, V, gf, #[.func (.yield lp) #[] #[]] ++ lb, V, ?_, ?_, ?_, ?_, fun _ => h1, ?_⟩
  · rw [hV, hlp, hrec]; exact run_enterLoop_outer _ _ _ _ _
  · simp only [resolve, hg]; simp [go_sem]
  · intro f' hf'; simp [Target.leads] at hf'; subst hf'; exact hFg
  · simp [invoke, go_sem, eg]
  · refine (hseq lp (fun p s A => I p s A ∧ A.heap[lp]? = some (.loop (rec .ready none)) ∧ A.heap[w.heap.size]? = some (.deferred (some [])))
      (fun p s A => ∃ c, Ix c p s A ∧ A.heap[lp]? = some (.loop (rec .done (some c))) ∧ A.heap[w.heap.size]? = some (.deferred (some []))) V vb
      (fun p s A s' B h ht => ⟨hIt p s A s' B h.1 ht, (hTr _ _ _ _ ht).same _ _ h.2.1 rfl, (hTr _ _ _ _ ht).same _ _ h.2.2 rfl⟩)
      (fun p s A s' B h ht => by obtain ⟨c, hc, hl, hd⟩ := h; exact ⟨c, hIxt c p s A s' B hc ht, (hTr _ _ _ _ ht).same _ _ hl rfl, (hTr _ _ _ _ ht).same _ _ hd rfl⟩)
      ?_ ⟨v0, vl, vd⟩).mono ?_
    · rintro p x s A ⟨hi, hl, hd⟩ hx
      have hy := run_yield (P := P) (args := encs x) hl (by rw [hrec]; exact hps x)
      rw [hrec] at hy
      refine ⟨fn, _, assign, body, hy, roundIn_of_wpIn hfn (hassign _ p x s A _ hi hx fun a' B kf kp hib hax => ?_)⟩
      clear hy
      have bl := kf.same _ _ (by omega) hl rfl
      have bd := kf.same _ _ (Nat.le_refl _) hd rfl
      have blt : lp < B.heap.size := (Array.getElem?_eq_some_iff.1 bl).1
      refine ⟨_, run_beginRound bl (by rw [hrec]), ?_⟩
      have cl : (B.putObj lp (.loop { rec .ready none with state := .busy })).heap[lp]? = some (.loop { rec .ready none with state := .busy }) := World.putObj_heap_same blt
      have cd : (B.putObj lp (.loop { rec .ready none with state := .busy })).heap[w.heap.size]? = some (.deferred (some [])) := (World.putObj_heap_other (by omega)).trans bd
      have ck : Kp s B (B.putObj lp (.loop { rec .ready none with state := .busy })) := hKb _ _ _ _ _ (by omega) bl rfl rfl
      refine wpIn_mono (hbody _ p x s a' _ (by omega) ⟨_, cl⟩ (hI.putObj (s := (p, s)) _ hib (by omega) bl rfl) ((hAx x a').putObj (s := ()) _ hax (by omega) bl rfl) hx) ?_
      have fin : ∀ (jump : Option Code) (C : World), KeepsFrom w.heap.size (B.putObj lp (.loop { rec .ready none with state := .busy })) C →
          (Instr.endRound lp jump).run P C = .ok (.bool jump.isNone) (C.putObj lp (.loop (rec (if jump.isNone then .ready else .done) jump))) ∧
          C.heap[lp]? = some (.loop { rec .ready none with state := .busy }) ∧
          (C.putObj lp (.loop (rec (if jump.isNone then .ready else .done) jump))).heap[lp]? = some (.loop (rec (if jump.isNone then .ready else .done) jump)) ∧
          (C.putObj lp (.loop (rec (if jump.isNone then .ready else .done) jump))).heap[w.heap.size]? = some (.deferred (some [])) := fun jump C kc => by
        have l3 := kc.same _ _ (by omega) cl rfl
        have r3 := run_endRound (P := P) jump l3
        rw [hrec] at r3 ⊢
        exact ⟨r3, by rw [hrec] at l3; exact l3, World.putObj_heap_same (Array.getElem?_eq_some_iff.1 l3).1, (World.putObj_heap_other (by omega)).trans (kc.same _ _ (Nat.le_refl _) cd rfl)⟩
      rintro e a3 C hp
      cases e with
      | normal =>
        obtain ⟨k3, kp3, i3⟩ := hp
        obtain ⟨hr, l3, l4, d4⟩ := fin none C k3
        exact ⟨_, _, hr, .inl ⟨rfl, ⟨hI.putObj (s := (p ++ [x], s)) _ i3 (by omega) l3 rfl, l4, d4⟩, hKt kp (hKt (hKt ck kp3) (hKb _ _ _ _ _ (by omega) l3 rfl rfl))⟩⟩
      | ret =>
        obtain ⟨k3, kp3, i3⟩ := hp
        obtain ⟨hr, l3, l4, d4⟩ := fin (some .ret) C k3
        exact ⟨_, _, hr, .inr ⟨rfl, ⟨.ret, (hIx _).putObj (s := (p ++ [x], s)) _ i3 (by omega) l3 rfl, l4, d4⟩, hKt kp (hKt (hKt ck kp3) (hKb _ _ _ _ _ (by omega) l3 rfl rfl))⟩⟩
      | exit id =>
        obtain ⟨k3, kp3, i3⟩ := hp
        obtain ⟨hr, l3, l4, d4⟩ := fin (some (.exit id)) C k3
        exact ⟨_, _, hr, .inr ⟨rfl, ⟨.exit id, (hIx _).putObj (s := (p ++ [x], s)) _ i3 (by omega) l3 rfl, l4, d4⟩, hKt kp (hKt (hKt ck kp3) (hKb _ _ _ _ _ (by omega) l3 rfl rfl))⟩⟩
      | goto t =>
        obtain ⟨k3, kp3, i3⟩ := hp
        obtain ⟨hr, l3, l4, d4⟩ := fin (some (.goto t)) C k3
        exact ⟨_, _, hr, .inr ⟨rfl, ⟨.goto t, (hIx _).putObj (s := (p ++ [x], s)) _ i3 (by omega) l3 rfl, l4, d4⟩, hKt kp (hKt (hKt ck kp3) (hKb _ _ _ _ _ (by omega) l3 rfl rfl))⟩⟩
      | panic ch => exact hp.elim
      | outgrown => exact hp.elim
    · rintro e C ⟨⟨v, rfl⟩, (⟨p, s, hS, hi, hl, hd⟩ | ⟨p, s, hSp, c, hi, hl, hd⟩)⟩
      · exact ⟨none, _, by have := run_endLoop (P := P) hl (by rw [hrec]; simp); rw [hrec] at this; exact this, hdone _ p s _ (Nat.le_refl _) hS (hI.putObj (s := (p, s)) _ hi (by omega) hl rfl) ((World.putObj_heap_other (by omega)).trans hd)⟩
      · exact ⟨some c, _, by have := run_endLoop (P := P) hl (by rw [hrec]; simp); rw [hrec] at this; exact this, hstop _ c p s _ (Nat.le_refl _) hSp ((hIx c).putObj (s := (p, s)) _ hi (by omega) hl rfl) ((World.putObj_heap_other (by omega)).trans hd)⟩
end
end Go.Proofs.YtjkhhjboejkafaaDoor
