/-
  DERIVED. Tell: for every operation and reply.
-/
import Derived.Test.YtjdknijjkjmafaaWRepW
import Derived.Test.YtjdknijjkjmafaaWString
set_option linter.unusedVariables false
set_option linter.unusedSimpArgs false
namespace Go.Proofs.Ytjdknijjkjmafaa
open Go.RowKit Go.Proofs.SealMath
/-- What is looked at of a reply. -/
def ckR (i : Nat) (r : Rp) (L : List Ht) : Bool × Bool × Int := if r.e = 0 then ckP i r L else (false, false, 0)
def wrR (i : Nat) (r : Rp) (L : List Ht) : List UInt8 := if r.e = 0 then wrP i r L else []
/-- What Tell answers. -/
def tellA (op : Int) (r : Rp) (L : List Ht) : List UInt8 × Int :=
  if 1 ≤ op ∧ op ≤ 9 then
    if r.e < 0 ∨ 999 < r.e then ([], 13)
    else if stP (op.toNat - 1) r L.length then ([], 32)
    else if ckE (ckR (op.toNat - 1) r L).1 (ckR (op.toNat - 1) r L).2.1 (ckR (op.toNat - 1) r L).2.2 ≠ 0 then ([], ckE (ckR (op.toNat - 1) r L).1 (ckR (op.toNat - 1) r L).2.1 (ckR (op.toNat - 1) r L).2.2)
    else ([82, UInt8.ofNat op.toNat] ++ (wrN r.e ++ wrR (op.toNat - 1) r L), 0)
  else ([], 35)
theorem named_check (i : Nat) (r : Rp) (L : List Ht) (a : Option Addr) (cap : Nat) (w : World) (c g : Nat) (hg : HC w g (rpC r (.slice a L.length cap)) 29) (h : CkAt w c false false 0) (hL : HsAt w a L) (hn : L.length < 4611686018427387904) :
    Calls Try.prog 25 #[opV i, Pt g, (ckH c).v] w fun e w' => e = Un ∧ CkAt w' c (ckR i r L).1 (ckR i r L).2.1 (ckR i r L).2.2 ∧ Stay (· = c) w w' := by
  have bA : Below w.heap.size w ((w.alloc (.cells #[.int .i64 (i + 1 : Nat), Fv (rqF i) #[], Fv (rpF i) #[]] 64)).alloc (ckH c).box) := ((Below.refl _ w).alloc (Nat.le_refl _) _).alloc (by simp) _
  refine named_g (i + 1) (rqF i) (rpF i) (ckH c) g w r.e _ (rpF_ent i) (hg.cell rfl) (fun h0 => ?_) (fun h0 => ?_)
  · refine (rp_check i r L a cap _ c g (HC.alloc (hg.alloc _) _) (HC.alloc (h.alloc _) _) (hL.below bA) hn).mono ?_
    rintro e w1 ⟨rfl, g1, s1⟩
    refine ⟨rfl, rfl, ?_, (((Stay.refl _ w).alloc _).alloc _).trans s1⟩
    unfold ckR; rw [if_pos h0]; exact g1
  · refine ⟨rfl, ?_, ((Stay.refl _ w).alloc _).alloc _⟩
    unfold ckR; rw [if_neg h0]; exact HC.alloc (h.alloc _) _
theorem named_write (i : Nat) (r : Rp) (L : List Ht) (a : Option Addr) (cap : Nat) (w : World) (g b B : Nat) (v : Value) (l : List UInt8) (hg : HC w g (rpC r (.slice a L.length cap)) 29) (h : Bd w b (Pt b) v l) (hl : l.length ≤ 1000)
    (hck : ckR i r L = (false, false, 0)) (hn : r.n ≤ 9223372036854775807) (hW : HtsW L) (hgB : g < B) (hL : HsB w a L B) (low : B ≤ b) (lv : ∀ k, v.ownBlock = some k → B ≤ k) (lw : B ≤ w.heap.size) :
    Calls Try.prog 25 #[opV i, Pt g, (wrH b).v] w fun e w' => e = Un ∧ ∃ v', Wt w w' b v v' (l ++ wrR i r L) := by
  have bA : Below w.heap.size w ((w.alloc (.cells #[.int .i64 (i + 1 : Nat), Fv (rqF i) #[], Fv (rpF i) #[]] 64)).alloc (wrH b).box) := ((Below.refl _ w).alloc (Nat.le_refl _) _).alloc (by simp) _
  refine named_g (i + 1) (rqF i) (rpF i) (wrH b) g w r.e _ (rpF_ent i) (hg.cell rfl) (fun h0 => ?_) (fun h0 => ?_)
  · have hck' : ckP i r L = (false, false, 0) := by unfold ckR at hck; rw [if_pos h0] at hck; exact hck
    refine (rp_write i r L a cap _ g b B v l (HC.alloc (hg.alloc _) _) ((h.alloc _).alloc _) hl hck' hn hW hgB (hL.below bA) low lv (Nat.le_trans lw bA.size)).mono ?_
    rintro e w1 ⟨rfl, v1, t1⟩
    refine ⟨rfl, rfl, v1, ?_⟩
    unfold wrR; rw [if_pos h0]; exact Wt.pre bA t1
  · refine ⟨rfl, v, ?_⟩
    unfold wrR; rw [if_neg h0, List.append_nil]
    exact ⟨(h.alloc _).alloc _, ((Stay.refl _ w).alloc _).alloc _, fun k hk => .inl hk⟩
set_option maxHeartbeats 4000000 in
set_option maxRecDepth 100000 in
theorem tell_kind (op : Int) (r : Rp) (v : Option Addr × Nat × Nat) (w : World) (h : ¬ (1 ≤ op ∧ op ≤ 9)) :
    Calls Try.prog 15 #[.int .i64 op, .agg (rpC r (.slice v.1 v.2.1 v.2.2))] w fun e w' => e = .returned (.tuple #[.string eB, .int .i64 35]) ∧ Below w.heap.size w w' := by
  obtain ⟨a, l, c⟩ := v
  have hf := fun W => find_no op h W
  have HB := Hid.mk ((Below.refl _ w).alloc (Nat.le_refl _) (.cells (rpC r (.slice a l c)) 29))
  clear h
  have hsf : ∀ (W : World) (p : Addr) (f : Fn) (x c : Array Value), (store p (.func f x c)).run Try.prog W = stored Try.prog W p (.func f x c) .plain := fun W p f x c => run_store Try.prog W p _ .plain rfl
  have hsn : ∀ (W : World) (p : Addr), (store p .nilFunc).run Try.prog W = stored Try.prog W p .nilFunc .plain := fun W p => run_store Try.prog W p _ .plain rfl
  go_enter Try.func15, Try.ntmps15
  go_wp2_with (go_at_call 34; refine (hf _).mono ?_; clear hf; rintro e w1 ⟨rfl, b1⟩; have H1 := Hid.mk b1; clear b1)
  go_ret2
  exact ⟨rfl, (chain HB.out H1.out (Nat.le_refl _)).alloc (Nat.le_trans HB.out.size H1.out.size) _⟩
/-- The boxes of Tell: the reply, the operation; the hits lie below. -/
structure TB (w : World) (W : World) (g o : Nat) (r : Rp) (L : List Ht) (a : Option Addr) (cap m f1 f2 : Nat) : Prop where
  req : HC W g (rpC r (.slice a L.length cap)) 29
  op : HC W o #[.int .i64 m, Fv f1 #[], Fv f2 #[]] 64
  hs : HsB W a L (w.heap.size + 1)
  lg : g = w.heap.size
  lo : g < o
  old : Stay (fun k => w.heap.size ≤ k) w W
theorem TB.drew {w W : World} {g o : Nat} {r : Rp} {L : List Ht} {a : Option Addr} {cap m f1 f2 : Nat} (h : TB w W g o r L a cap m f1 f2) : TB w W.drew g o r L a cap m f1 f2 := ⟨h.req, h.op, h.hs, h.lg, h.lo, h.old.drew⟩
theorem TB.below {w W W' : World} {g o : Nat} {r : Rp} {L : List Ht} {a : Option Addr} {cap m f1 f2 : Nat} (h : TB w W g o r L a cap m f1 f2) (h' : Below W.heap.size W W') : TB w W' g o r L a cap m f1 f2 := ⟨HC.below h.req h', h.op.below h', h.hs.below h', h.lg, h.lo, h.old.trans (.below h')⟩
theorem TB.alloc {w W : World} {g o : Nat} {r : Rp} {L : List Ht} {a : Option Addr} {cap m f1 f2 : Nat} (h : TB w W g o r L a cap m f1 f2) (x : Obj) : TB w (W.alloc x) g o r L a cap m f1 f2 := h.below ((Below.refl _ W).alloc (Nat.le_refl _) _)
theorem TB.stay {w W W' : World} {g o : Nat} {r : Rp} {L : List Ht} {a : Option Addr} {cap m f1 f2 : Nat} {F : Nat → Prop} (h : TB w W g o r L a cap m f1 f2) (s : Stay F W W') (hF : ∀ k, F k → o < k) : TB w W' g o r L a cap m f1 f2 := by
  have l1 := h.lg; have l2 := h.lo
  exact ⟨HC.stay h.req s (fun e => by have := hF _ e; omega), h.op.stay s (fun e => by have := hF _ e; omega), h.hs.stay s (fun k e => by have := hF _ e; omega), h.lg, h.lo, h.old.andThen s (fun i hi e => by have := hF _ e; omega)⟩
theorem tb_new {w w1 : World} (r : Rp) (L : List Ht) (a : Option Addr) (cap m f1 f2 : Nat) (h : HC w1 w.heap.size (rpC r (.slice a L.length cap)) 29) (b : Below w.heap.size w w1) (hL : HsAt w a L) : TB w (w1.alloc (.cells #[.int .i64 m, Fv f1 #[], Fv f2 #[]] 64)) w.heap.size w1.heap.size r L a cap m f1 f2 := by
  have bb : Below w.heap.size w (w1.alloc (.cells #[.int .i64 m, Fv f1 #[], Fv f2 #[]] 64)) := b.alloc b.size _
  refine ⟨HC.alloc h _, HC.new w1 _ _, ?_, rfl, HC.lt h, (Stay.below b).alloc _⟩
  rcases hL with hL | ⟨g, off, e, hg, hc⟩
  · exact .inl hL
  · exact .inr ⟨g, off, e, by omega, fun i hi => by
      obtain ⟨c0, c1, c2⟩ := hc i hi
      exact ⟨cell_below bb c0, cell_below bb c1, cell_below bb c2⟩⟩
set_option maxHeartbeats 4000000 in
set_option maxRecDepth 100000 in
theorem tell_code (i : Nat) (hi : i < 9) (r : Rp) (L : List Ht) (a : Option Addr) (cap : Nat) (hcode : r.e < 0 ∨ 999 < r.e) (w : World) (hL : HsAt w a L) :
    Calls Try.prog 15 #[.int .i64 (i + 1 : Nat), .agg (rpC r (.slice a L.length cap))] w fun e w' => e = .returned (.tuple #[.string eB, .int .i64 13]) ∧ Below w.heap.size w w' := by
  have hf := find_yes i hi (w.alloc (.cells #[.int .i64 r.e, .int .i64 r.n, .string r.t, .slice a L.length cap] 29))
  have hS := fun W => straysOf_any i r a L.length cap W
  obtain ⟨f1, hf1⟩ : ∃ f, f = rqF i := ⟨_, rfl⟩
  obtain ⟨f2, hf2⟩ : ∃ f, f = rpF i := ⟨_, rfl⟩
  obtain ⟨m, hm⟩ : ∃ m, m = i + 1 := ⟨_, rfl⟩
  simp only [opV, ← hf1, ← hf2, ← hm] at hf hS
  have h0 : HC (w.alloc (.cells #[.int .i64 r.e, .int .i64 r.n, .string r.t, .slice a L.length cap] 29)) w.heap.size (rpC r (.slice a L.length cap)) 29 := HC.new w _ _
  have bA : Below w.heap.size w (w.alloc (.cells #[.int .i64 r.e, .int .i64 r.n, .string r.t, .slice a L.length cap] 29)) := (Below.refl _ w).alloc (Nat.le_refl _) _
  have HN := Hid.mk (fun w1 h b => @tb_new w w1 r L a cap m f1 f2 h b hL)
  obtain ⟨n, hne⟩ : ∃ n, n = L.length := ⟨_, rfl⟩
  rw [← hne] at hf h0 bA
  simp only [← hne] at hS
  obtain ⟨V, hV⟩ : ∃ V, V = w.alloc (.cells #[.int .i64 r.e, .int .i64 r.n, .string r.t, .slice a n cap] 29) := ⟨_, rfl⟩
  have hV5 := hV.symm
  rw [← hV] at hf h0 bA
  have H0 := Hid.mk (And.intro h0 (And.intro bA hne))
  rw [← hne]
  obtain ⟨mi, hmi⟩ : ∃ mi : Int, mi = (m : Int) := ⟨_, rfl⟩
  rw [← hm]
  rcases hcode with hcode | hcode
  · skip
    clear hf1 hf2 hm hV h0 bA hne hL hmi
    have hsf : ∀ (W : World) (p : Addr) (f : Fn) (x c : Array Value), (store p (.func f x c)).run Try.prog W = stored Try.prog W p (.func f x c) .plain := fun W p f x c => run_store Try.prog W p _ .plain rfl
    have hsn : ∀ (W : World) (p : Addr), (store p .nilFunc).run Try.prog W = stored Try.prog W p .nilFunc .plain := fun W p => run_store Try.prog W p _ .plain rfl
    go_enter Try.func15, Try.ntmps15
    go_wp2_with (first | (go_at_call 34; (try rw [hV5]); refine hf.mono ?_; clear hf; rintro e w1 ⟨rfl, b1⟩; have k1 := H0.out.1.below b1; have y0 : w1.cell? ⟨w.heap.size, 0, none⟩ = some (.int .i64 r.e) := k1.cell rfl; have y1 : w1.cell? ⟨w.heap.size, 1, none⟩ = some (.int .i64 r.n) := k1.cell rfl; have y2 : w1.cell? ⟨w.heap.size, 2, none⟩ = some (.string r.t) := k1.cell rfl; have y3 : w1.cell? ⟨w.heap.size, 3, none⟩ = some (.slice a n cap) := k1.cell rfl; have l1 := k1.lt; have H1 := Hid.mk (HN.out w1 (by rw [H0.out.2.2] at k1; exact k1) (chain H0.out.2.1 b1 (Nat.le_refl _))); clear k1 b1))
    go_ret2
    exact ⟨rfl, Stay.toBelow H1.out.old (fun k hk h => by omega) (Nat.le_refl _)⟩
  · skip
    have hcode2 : ¬ r.e < 0 := by omega
    clear hf1 hf2 hm hV h0 bA hne hL hmi
    have hsf : ∀ (W : World) (p : Addr) (f : Fn) (x c : Array Value), (store p (.func f x c)).run Try.prog W = stored Try.prog W p (.func f x c) .plain := fun W p f x c => run_store Try.prog W p _ .plain rfl
    have hsn : ∀ (W : World) (p : Addr), (store p .nilFunc).run Try.prog W = stored Try.prog W p .nilFunc .plain := fun W p => run_store Try.prog W p _ .plain rfl
    go_enter Try.func15, Try.ntmps15
    go_wp2_with (first | (go_at_call 34; (try rw [hV5]); refine hf.mono ?_; clear hf; rintro e w1 ⟨rfl, b1⟩; have k1 := H0.out.1.below b1; have y0 : w1.cell? ⟨w.heap.size, 0, none⟩ = some (.int .i64 r.e) := k1.cell rfl; have y1 : w1.cell? ⟨w.heap.size, 1, none⟩ = some (.int .i64 r.n) := k1.cell rfl; have y2 : w1.cell? ⟨w.heap.size, 2, none⟩ = some (.string r.t) := k1.cell rfl; have y3 : w1.cell? ⟨w.heap.size, 3, none⟩ = some (.slice a n cap) := k1.cell rfl; have l1 := k1.lt; have H1 := Hid.mk (HN.out w1 (by rw [H0.out.2.2] at k1; exact k1) (chain H0.out.2.1 b1 (Nat.le_refl _))); clear k1 b1))
    go_ret2
    exact ⟨rfl, Stay.toBelow H1.out.old (fun k hk h => by omega) (Nat.le_refl _)⟩
set_option maxHeartbeats 4000000 in
set_option maxRecDepth 100000 in
theorem tell_form (i : Nat) (hi : i < 9) (r : Rp) (L : List Ht) (a : Option Addr) (cap : Nat) (hcode : ¬ (r.e < 0 ∨ 999 < r.e)) (hst : stP i r L.length = true) (w : World) (hL : HsAt w a L) :
    Calls Try.prog 15 #[.int .i64 (i + 1 : Nat), .agg (rpC r (.slice a L.length cap))] w fun e w' => e = .returned (.tuple #[.string eB, .int .i64 32]) ∧ Below w.heap.size w w' := by
  have hf := find_yes i hi (w.alloc (.cells #[.int .i64 r.e, .int .i64 r.n, .string r.t, .slice a L.length cap] 29))
  have hS := fun W => straysOf_any i r a L.length cap W
  obtain ⟨f1, hf1⟩ : ∃ f, f = rqF i := ⟨_, rfl⟩
  obtain ⟨f2, hf2⟩ : ∃ f, f = rpF i := ⟨_, rfl⟩
  obtain ⟨m, hm⟩ : ∃ m, m = i + 1 := ⟨_, rfl⟩
  simp only [opV, ← hf1, ← hf2, ← hm] at hf hS
  have h0 : HC (w.alloc (.cells #[.int .i64 r.e, .int .i64 r.n, .string r.t, .slice a L.length cap] 29)) w.heap.size (rpC r (.slice a L.length cap)) 29 := HC.new w _ _
  have bA : Below w.heap.size w (w.alloc (.cells #[.int .i64 r.e, .int .i64 r.n, .string r.t, .slice a L.length cap] 29)) := (Below.refl _ w).alloc (Nat.le_refl _) _
  have HN := Hid.mk (fun w1 h b => @tb_new w w1 r L a cap m f1 f2 h b hL)
  obtain ⟨n, hne⟩ : ∃ n, n = L.length := ⟨_, rfl⟩
  rw [← hne] at hf h0 bA
  simp only [← hne] at hS
  obtain ⟨V, hV⟩ : ∃ V, V = w.alloc (.cells #[.int .i64 r.e, .int .i64 r.n, .string r.t, .slice a n cap] 29) := ⟨_, rfl⟩
  have hV5 := hV.symm
  rw [← hV] at hf h0 bA
  have H0 := Hid.mk (And.intro h0 (And.intro bA hne))
  rw [← hne]
  simp only [hne, hst] at hS
  simp only [← hne] at hS
  obtain ⟨mi, hmi⟩ : ∃ mi : Int, mi = (m : Int) := ⟨_, rfl⟩
  rw [← hm]
  have e1 : ¬ r.e < 0 := by omega
  have e2 : ¬ 999 < r.e := by omega
  clear hf1 hf2 hm hV h0 bA hne hL hmi hst hcode
  have hsf : ∀ (W : World) (p : Addr) (f : Fn) (x c : Array Value), (store p (.func f x c)).run Try.prog W = stored Try.prog W p (.func f x c) .plain := fun W p f x c => run_store Try.prog W p _ .plain rfl
  have hsn : ∀ (W : World) (p : Addr), (store p .nilFunc).run Try.prog W = stored Try.prog W p .nilFunc .plain := fun W p => run_store Try.prog W p _ .plain rfl
  go_enter Try.func15, Try.ntmps15
  go_wp2_with (first | (go_at_call 34; (try rw [hV5]); refine hf.mono ?_; clear hf; rintro e w1 ⟨rfl, b1⟩; have k1 := H0.out.1.below b1; have y0 : w1.cell? ⟨w.heap.size, 0, none⟩ = some (.int .i64 r.e) := k1.cell rfl; have y1 : w1.cell? ⟨w.heap.size, 1, none⟩ = some (.int .i64 r.n) := k1.cell rfl; have y2 : w1.cell? ⟨w.heap.size, 2, none⟩ = some (.string r.t) := k1.cell rfl; have y3 : w1.cell? ⟨w.heap.size, 3, none⟩ = some (.slice a n cap) := k1.cell rfl; have l1 := k1.lt; have H1 := Hid.mk (HN.out w1 (by rw [H0.out.2.2] at k1; exact k1) (chain H0.out.2.1 b1 (Nat.le_refl _))); clear k1 b1) | (go_at_call 41; refine (hS _).mono ?_; clear hS; rintro e w2 ⟨rfl, b2⟩; have H2 := Hid.mk (H1.out.below b2); clear b2))
  go_ret2
  exact ⟨rfl, Stay.toBelow H2.out.old (fun k hk h => by omega) (Nat.le_refl _)⟩
set_option maxHeartbeats 4000000 in
set_option maxRecDepth 100000 in
theorem tell_rest (i : Nat) (hi : i < 9) (r : Rp) (L : List Ht) (a : Option Addr) (cap : Nat) (hcode : ¬ (r.e < 0 ∨ 999 < r.e)) (hst : stP i r L.length = false) (hrn : r.n ≤ 9223372036854775807) (hHW : HtsW L) (hn : L.length < 4611686018427387904) (w : World) (hL : HsAt w a L) :
    Calls Try.prog 15 #[.int .i64 (i + 1 : Nat), .agg (rpC r (.slice a L.length cap))] w fun e w' => e = .returned (.tuple #[.string ⟨(tellA (i + 1 : Nat) r L).1.toArray⟩, .int .i64 (tellA (i + 1 : Nat) r L).2]) ∧ Below w.heap.size w w' := by
  have hA : tellA (i + 1 : Nat) r L = if ckE (ckR i r L).1 (ckR i r L).2.1 (ckR i r L).2.2 ≠ 0 then ([], ckE (ckR i r L).1 (ckR i r L).2.1 (ckR i r L).2.2) else ([82, UInt8.ofNat (i + 1)] ++ (wrN r.e ++ wrR i r L), 0) := by
    unfold tellA
    have e : ((i + 1 : Nat) : Int).toNat = i + 1 := by omega
    rw [if_pos (by omega), if_neg hcode, e, Nat.add_sub_cancel, hst]
    rfl
  rw [hA]
  clear hA
  have hf := find_yes i hi (w.alloc (.cells #[.int .i64 r.e, .int .i64 r.n, .string r.t, .slice a L.length cap] 29))
  have hS := fun W => straysOf_any i r a L.length cap W
  obtain ⟨f1, hf1⟩ : ∃ f, f = rqF i := ⟨_, rfl⟩
  obtain ⟨f2, hf2⟩ : ∃ f, f = rpF i := ⟨_, rfl⟩
  obtain ⟨m, hm⟩ : ∃ m, m = i + 1 := ⟨_, rfl⟩
  have hK := fun W c g h1 h2 h3 => named_check i r L a cap W c g h1 h2 h3 hn
  have hR := fun W c (h : CkAt W c (ckR i r L).1 (ckR i r L).2.1 (ckR i r L).2.2) => refusal_any _ _ _ W c h
  have hWr := fun (hc : ckR i r L = (false, false, 0)) W g b B v l h1 h2 hl h3 h4 h5 h6 h7 => named_write i r L a cap W g b B v l h1 h2 hl hc hrn hHW h3 h4 h5 h6 h7
  have hBg := fun W => begin_any 82 (UInt8.ofNat (i + 1)) (i + 1) (rqF i) (rpF i) (by rw [UInt8.toNat_ofNat']; omega) W
  obtain ⟨d, hd⟩ : ∃ d, d = UInt8.ofNat (i + 1) := ⟨_, rfl⟩
  rw [← hd] at hBg ⊢
  obtain ⟨x, hx⟩ : ∃ x, x = ckE (ckR i r L).1 (ckR i r L).2.1 (ckR i r L).2.2 := ⟨_, rfl⟩
  rw [← hx] at hR ⊢
  have hxc : x = 0 → ckR i r L = (false, false, 0) := fun h => by
    rw [hx] at h
    rcases hq : ckR i r L with ⟨a, b, z⟩
    rw [hq] at h
    cases a <;> cases b <;> simp [ckE] at h ⊢
    exact h
  simp only [opV, ← hf1, ← hf2, ← hm] at hf hS hK hWr hBg
  have h0 : HC (w.alloc (.cells #[.int .i64 r.e, .int .i64 r.n, .string r.t, .slice a L.length cap] 29)) w.heap.size (rpC r (.slice a L.length cap)) 29 := HC.new w _ _
  have bA : Below w.heap.size w (w.alloc (.cells #[.int .i64 r.e, .int .i64 r.n, .string r.t, .slice a L.length cap] 29)) := (Below.refl _ w).alloc (Nat.le_refl _) _
  have HN := Hid.mk (fun w1 h b => @tb_new w w1 r L a cap m f1 f2 h b hL)
  obtain ⟨n, hne⟩ : ∃ n, n = L.length := ⟨_, rfl⟩
  rw [← hne] at hf h0 bA
  simp only [← hne] at hS
  obtain ⟨V, hV⟩ : ∃ V, V = w.alloc (.cells #[.int .i64 r.e, .int .i64 r.n, .string r.t, .slice a n cap] 29) := ⟨_, rfl⟩
  have hV5 := hV.symm
  rw [← hV] at hf h0 bA
  have H0 := Hid.mk (And.intro h0 (And.intro bA hne))
  rw [← hne]
  simp only [hne, hst] at hS
  simp only [← hne] at hS
  obtain ⟨mi, hmi⟩ : ∃ mi : Int, mi = (m : Int) := ⟨_, rfl⟩
  rw [← hm]
  have e1 : ¬ r.e < 0 := by omega
  have e2 : ¬ 999 < r.e := by omega
  have HK := Hid.mk hK
  have HR := Hid.mk hR
  have HW := Hid.mk (And.intro hxc hWr)
  have HBg := Hid.mk hBg
  obtain ⟨A2, hA2⟩ : ∃ A2 : List UInt8 × Int, A2 = (if x ≠ 0 then ([], x) else ([82, d] ++ (wrN r.e ++ wrR i r L), 0)) := ⟨_, rfl⟩
  rw [← hA2]
  have HA := Hid.mk hA2
  have HLN := Hid.mk hne
  clear hf1 hf2 hm hV hst h0 bA hK hR hWr hBg hd hx hxc hA2 hne hL hmi hcode hHW hn hrn
  have hsf : ∀ (W : World) (p : Addr) (f : Fn) (x c : Array Value), (store p (.func f x c)).run Try.prog W = stored Try.prog W p (.func f x c) .plain := fun W p f x c => run_store Try.prog W p _ .plain rfl
  have hsn : ∀ (W : World) (p : Addr), (store p .nilFunc).run Try.prog W = stored Try.prog W p .nilFunc .plain := fun W p => run_store Try.prog W p _ .plain rfl
  go_enter Try.func15, Try.ntmps15
  go_wp2_with (first | (go_at_call 34; (try rw [hV5]); refine hf.mono ?_; clear hf; rintro e w1 ⟨rfl, b1⟩; have k1 := H0.out.1.below b1; have y0 : w1.cell? ⟨w.heap.size, 0, none⟩ = some (.int .i64 r.e) := k1.cell rfl; have y1 : w1.cell? ⟨w.heap.size, 1, none⟩ = some (.int .i64 r.n) := k1.cell rfl; have y2 : w1.cell? ⟨w.heap.size, 2, none⟩ = some (.string r.t) := k1.cell rfl; have y3 : w1.cell? ⟨w.heap.size, 3, none⟩ = some (.slice a n cap) := k1.cell rfl; have l1 := k1.lt; have H1 := Hid.mk (HN.out w1 (by rw [H0.out.2.2] at k1; exact k1) (chain H0.out.2.1 b1 (Nat.le_refl _))); clear k1 b1) | (go_at_call 41; refine (hS _).mono ?_; clear hS; rintro e w2 ⟨rfl, b2⟩; have H2 := Hid.mk (H1.out.below b2); clear b2))
  have l2 := H2.out.op.lt
  have k3 : TB w (w2.alloc (.cells #[.bool false, .bool false, .int .i64 0] 86)) w.heap.size w1.heap.size r L a cap m f1 f2 := H2.out.alloc _
  have c3 : CkAt (w2.alloc (.cells #[.bool false, .bool false, .int .i64 0] 86)) w2.heap.size false false 0 := HC.new w2 _ _
  obtain ⟨V3, hV3⟩ : ∃ V3, V3 = w2.alloc (.cells #[.bool false, .bool false, .int .i64 0] 86) := ⟨_, rfl⟩
  rw [← hV3] at k3 c3 ⊢
  obtain ⟨g, hg⟩ : ∃ g, g = w.heap.size := ⟨_, rfl⟩
  obtain ⟨o, ho⟩ : ∃ o, o = w1.heap.size := ⟨_, rfl⟩
  obtain ⟨c, hc⟩ : ∃ c, c = w2.heap.size := ⟨_, rfl⟩
  simp only [← hg, ← ho, ← hc]
  have k3' : TB w V3 g o r L a cap m f1 f2 := by rw [hg, ho]; exact k3
  rw [← hc] at c3
  rw [← ho, ← hc] at l2
  clear hV3 hg ho hc k3 H1 H2 HN H0 y0 y1 y2 y3 l1 hV5
  have c0 : V3.cell? ⟨o, 0, none⟩ = some (.int .i64 m) := k3'.op.cell rfl
  have c1 : V3.cell? ⟨o, 1, none⟩ = some (Fv f1 #[]) := k3'.op.cell rfl
  have c2 : V3.cell? ⟨o, 2, none⟩ = some (Fv f2 #[]) := k3'.op.cell rfl
  have H3 := Hid.mk (And.intro k3' c3)
  clear k3' c3
  refine wp_region_held_drew (S := fun w' => w'.cell? ⟨o, 0, none⟩ = some (.int .i64 m) ∧ w'.cell? ⟨o, 1, none⟩ = some (Fv f1 #[]) ∧ w'.cell? ⟨o, 2, none⟩ = some (Fv f2 #[])) (by kernel_rfl) ?_ (fun hHeld => ?_)
  · exact ⟨c0, c1, c2⟩
  refine wpAnyH_take (i := 0) (oi := { dst := some 30, op := Op.load 64 (Operand.tmp 6), type := 64, pos := "wire.go:62", after := #[], guard := none }) (v := ?vb0) rfl (by kernel_rfl) (by kernel_rfl) (by kernel_rfl) (fun _ _ _ h => h) (Or.inl ⟨by rfl, ?hb0⟩) (by assumption) ?rb0
  case hb0 => (intro w0 hSw; (try dsimp only at hSw); go_simp; try (with_reducible rfl))
  simp only [Act.put, List.setIfInBounds_toArray, List.set_cons_zero, List.set_cons_succ]
  refine wpAnyH_ready (rs := [1]) (by kernel_rfl) (by simp) ?_
  refine AllReadyH.cons rfl (fun K hK => ?_) AllReadyH.nil
  go_simp
  go_wp2_with (first | (go_at_call 36; refine (ckH_any c _).mono ?_; rintro e w4 ⟨rfl, b4⟩; have k4 := H3.out.1.drew.below b4; have c4 := HC.below (HC.drew H3.out.2) b4; clear c0 c1 c2; have c0 : w4.cell? ⟨o, 0, none⟩ = some (.int .i64 m) := k4.op.cell rfl; have c1 : w4.cell? ⟨o, 1, none⟩ = some (Fv f1 #[]) := k4.op.cell rfl; have c2 : w4.cell? ⟨o, 2, none⟩ = some (Fv f2 #[]) := k4.op.cell rfl; have H4 := Hid.mk (And.intro k4 c4); clear k4 c4 b4) | (go_at_call 25; refine (HK.out _ c g H4.out.1.req H4.out.2 (H4.out.1.hs.at (by have := H4.out.1.lg; have := H4.out.1.lo; have := H4.out.1.op.lt; omega))).mono ?_; rintro e w5 ⟨rfl, c5, s5⟩; have k5 := H4.out.1.stay s5 (fun k e => by omega); clear c0 c1 c2; have c0 : w5.cell? ⟨o, 0, none⟩ = some (.int .i64 m) := k5.op.cell rfl; have c1 : w5.cell? ⟨o, 1, none⟩ = some (Fv f1 #[]) := k5.op.cell rfl; have c2 : w5.cell? ⟨o, 2, none⟩ = some (Fv f2 #[]) := k5.op.cell rfl; have H5 := Hid.mk (And.intro k5 c5); clear k5 c5 s5))
  refine hK.out _ _ ?_ (fun hHeld => ?_)
  · exact ⟨c0, c1, c2⟩
  clear hK K
  refine wpAnyH_ready (rs := [2]) (by kernel_rfl) (by simp) ?_
  refine AllReadyH.cons rfl (fun K hK => ?_) AllReadyH.nil
  go_simp
  go_wp2_with (first | (go_at_call 36; refine (ckH_any c _).mono ?_; rintro e w4 ⟨rfl, b4⟩; have k4 := H3.out.1.drew.below b4; have c4 := HC.below (HC.drew H3.out.2) b4; clear c0 c1 c2; have c0 : w4.cell? ⟨o, 0, none⟩ = some (.int .i64 m) := k4.op.cell rfl; have c1 : w4.cell? ⟨o, 1, none⟩ = some (Fv f1 #[]) := k4.op.cell rfl; have c2 : w4.cell? ⟨o, 2, none⟩ = some (Fv f2 #[]) := k4.op.cell rfl; have H4 := Hid.mk (And.intro k4 c4); clear k4 c4 b4) | (go_at_call 25; refine (HK.out _ c g H4.out.1.req H4.out.2 (H4.out.1.hs.at (by have := H4.out.1.lg; have := H4.out.1.lo; have := H4.out.1.op.lt; omega))).mono ?_; rintro e w5 ⟨rfl, c5, s5⟩; have k5 := H4.out.1.stay s5 (fun k e => by omega); clear c0 c1 c2; have c0 : w5.cell? ⟨o, 0, none⟩ = some (.int .i64 m) := k5.op.cell rfl; have c1 : w5.cell? ⟨o, 1, none⟩ = some (Fv f1 #[]) := k5.op.cell rfl; have c2 : w5.cell? ⟨o, 2, none⟩ = some (Fv f2 #[]) := k5.op.cell rfl; have H5 := Hid.mk (And.intro k5 c5); clear k5 c5 s5))
  refine hK.out _ _ ?_ (fun hHeld => ?_)
  · exact ⟨c0, c1, c2⟩
  clear hK K
  refine wpAnyH_done (by kernel_rfl) ?_ _
  by_cases hx0 : x = 0
  · subst hx0
    have HW2 := Hid.mk (HW.out.2 (HW.out.1 rfl))
    clear HW
    obtain ⟨en, hen⟩ : ∃ en : Nat, r.e = (en : Int) := ⟨r.e.toNat, by omega⟩
    have hen9 : en ≤ 999 := by omega
    have g0 : w5.cell? ⟨g, 0, none⟩ = some (.int .i64 en) := by rw [← hen]; exact H5.out.1.req.cell rfl
    go_wp2_with (first
      | (go_at_call 37; refine (HR.out _ c H5.out.2).mono ?_; rintro e w6 ⟨rfl, rfl⟩)
      | (go_at_call 38; refine (HBg.out _).mono ?_; rintro e w7 ⟨rfl, v7, b7, s7, l7⟩; have k7 := H5.out.1.below s7; have c07 : w7.cell? ⟨o, 0, none⟩ = some (.int .i64 m) := k7.op.cell rfl; have c17 : w7.cell? ⟨o, 1, none⟩ = some (Fv f1 #[]) := k7.op.cell rfl; have c27 : w7.cell? ⟨o, 2, none⟩ = some (Fv f2 #[]) := k7.op.cell rfl; have g07 := cell_below s7 g0; have H7 := Hid.mk (And.intro k7 (And.intro b7 (And.intro l7 H5.out.1.op.lt))); clear k7 b7 l7 s7))
    obtain ⟨b, hb⟩ : ∃ b, b = w6.heap.size + 1 := ⟨_, rfl⟩
    simp only [← hb]
    rw [← hb] at H7
    have hob : o < b := by have := H7.out.2.2.2; omega
    have bC : Below w7.heap.size w7 (w7.alloc (.cells #[.int .i64 en] 3)) := (Below.refl _ w7).alloc (Nat.le_refl _) _
    have k8 := H7.out.1.below bC
    have lb7 := H7.out.2.1.lt
    have cn : (w7.alloc (.cells #[.int .i64 en] 3)).cell? ⟨w7.heap.size, 0, none⟩ = some (.int .i64 en) := HC.cell (HC.new w7 _ _) rfl
    have hN := wnumber_any en _ w7.heap.size 0 (H7.out.2.1.below bC) (by omega) (by simp) cn (by omega) (fun k hk e => by have := H7.out.2.1.row_lt k hk; omega)
    have HL : Hid (∀ k, (k = b ∨ v7.ownBlock = some k) → o < k) := fun k e => by
      rcases e with e | e
      · omega
      · have := H7.out.2.2.1 k e; omega
    have H8 := Hid.mk (And.intro k8 bC)
    have HEN := Hid.mk hen
    clear hb H3 H4 H5 HR HK HBg c0 c1 c2 bC k8 cn hen g0 g07
    go_wp2_with (go_at_call 42; refine hN.mono ?_; clear hN; rintro e w9 ⟨rfl, v9, t9⟩; have k9 := H8.out.1.stay t9.st HL.out; have c09 : w9.cell? ⟨o, 0, none⟩ = some (.int .i64 m) := k9.op.cell rfl; have c19 : w9.cell? ⟨o, 1, none⟩ = some (Fv f1 #[]) := k9.op.cell rfl; have c29 : w9.cell? ⟨o, 2, none⟩ = some (Fv f2 #[]) := k9.op.cell rfl; have H9 := Hid.mk (And.intro k9 t9); clear k9 t9)
    have HV9 : Hid (∀ k, v9.ownBlock = some k → o < k) := fun k e => by
      rcases H9.out.2.loc k e with e | e
      · exact HL.out k (.inr e)
      · have := H7.out.1.op.lt; have e3 := H8.out.2.size; omega
    clear c07 c17 c27
    refine wp_region_held_drew (S := fun w' => w'.cell? ⟨o, 0, none⟩ = some (.int .i64 m) ∧ w'.cell? ⟨o, 1, none⟩ = some (Fv f1 #[]) ∧ w'.cell? ⟨o, 2, none⟩ = some (Fv f2 #[])) (by kernel_rfl) ?_ (fun hHeld => ?_)
    · exact ⟨c09, c19, c29⟩
    refine wpAnyH_take (i := 0) (oi := { dst := some 43, op := Op.load 64 (Operand.tmp 6), type := 64, pos := "wire.go:69", after := #[], guard := none }) (v := ?vc0) rfl (by kernel_rfl) (by kernel_rfl) (by kernel_rfl) (fun _ _ _ h => h) (Or.inl ⟨by rfl, ?hc0⟩) (by assumption) ?rc0
    case hc0 => (intro w0 hSw; (try dsimp only at hSw); go_simp; try (with_reducible rfl))
    simp only [Act.put, List.setIfInBounds_toArray, List.set_cons_zero, List.set_cons_succ]
    refine wpAnyH_take (i := 1) (oi := { dst := some 44, op := Op.move (Operand.tmp 10), type := 88, pos := "wire.go:69", after := #[], guard := none }) (v := ?vc1) rfl (by kernel_rfl) (by kernel_rfl) (by kernel_rfl) (fun _ _ _ h => h) (Or.inl ⟨by rfl, ?hc1⟩) (by assumption) ?rc1
    case hc1 => (intro w0 hSw; (try dsimp only at hSw); go_simp; try (with_reducible rfl))
    simp only [Act.put, List.setIfInBounds_toArray, List.set_cons_zero, List.set_cons_succ]
    refine wpAnyH_ready (rs := [2]) (by kernel_rfl) (by simp) ?_
    refine AllReadyH.cons rfl (fun K hK => ?_) AllReadyH.nil
    go_simp
    go_wp2_with (first | (go_at_call 39; refine (wrH_any b _).mono ?_; rintro e w10 ⟨rfl, b10⟩; have k10 := H9.out.1.drew.below b10; have d10 := (Bd.drew H9.out.2.bd).below b10; clear c09 c19 c29; have c09 : w10.cell? ⟨o, 0, none⟩ = some (.int .i64 m) := k10.op.cell rfl; have c19 : w10.cell? ⟨o, 1, none⟩ = some (Fv f1 #[]) := k10.op.cell rfl; have c29 : w10.cell? ⟨o, 2, none⟩ = some (Fv f2 #[]) := k10.op.cell rfl; have H10 := Hid.mk (And.intro k10 d10); clear k10 d10 b10) | (go_at_call 25; refine (HW2.out _ g b (w.heap.size + 1) v9 _ H10.out.1.req H10.out.2 ?hl1 ?hl2 H10.out.1.hs ?hl3 ?hl4 ?hl5).mono ?_; (case hl1 => (have := (pvL_len 9 en).2; rw [List.length_append]; simp only [List.length_cons, List.length_nil]; omega)); (case hl2 => (have := H10.out.1.lg; omega)); (case hl3 => (have := H10.out.1.lg; have := H10.out.1.lo; omega)); (case hl4 => (intro k hk; have := HV9.out k hk; have := H10.out.1.lg; have := H10.out.1.lo; omega)); (case hl5 => (have := H10.out.1.op.lt; have := H10.out.1.lg; have := H10.out.1.lo; omega)); rintro e w11 ⟨rfl, v11, t11⟩; have k11 := H10.out.1.stay t11.st (fun k e => (by rcases e with e | e; omega; exact HV9.out k e)); clear c09 c19 c29; have c09 : w11.cell? ⟨o, 0, none⟩ = some (.int .i64 m) := k11.op.cell rfl; have c19 : w11.cell? ⟨o, 1, none⟩ = some (Fv f1 #[]) := k11.op.cell rfl; have c29 : w11.cell? ⟨o, 2, none⟩ = some (Fv f2 #[]) := k11.op.cell rfl; have H11 := Hid.mk (And.intro k11 t11); clear k11 t11))
    refine hK.out _ _ ?_ (fun hHeld => ?_)
    · exact ⟨c09, c19, c29⟩
    clear hK K
    refine wpAnyH_ready (rs := [3]) (by kernel_rfl) (by simp) ?_
    refine AllReadyH.cons rfl (fun K hK => ?_) AllReadyH.nil
    go_simp
    go_wp2_with (first | (go_at_call 39; refine (wrH_any b _).mono ?_; rintro e w10 ⟨rfl, b10⟩; have k10 := H9.out.1.drew.below b10; have d10 := (Bd.drew H9.out.2.bd).below b10; clear c09 c19 c29; have c09 : w10.cell? ⟨o, 0, none⟩ = some (.int .i64 m) := k10.op.cell rfl; have c19 : w10.cell? ⟨o, 1, none⟩ = some (Fv f1 #[]) := k10.op.cell rfl; have c29 : w10.cell? ⟨o, 2, none⟩ = some (Fv f2 #[]) := k10.op.cell rfl; have H10 := Hid.mk (And.intro k10 d10); clear k10 d10 b10) | (go_at_call 25; refine (HW2.out _ g b (w.heap.size + 1) v9 _ H10.out.1.req H10.out.2 ?hl1 ?hl2 H10.out.1.hs ?hl3 ?hl4 ?hl5).mono ?_; (case hl1 => (have := (pvL_len 9 en).2; rw [List.length_append]; simp only [List.length_cons, List.length_nil]; omega)); (case hl2 => (have := H10.out.1.lg; omega)); (case hl3 => (have := H10.out.1.lg; have := H10.out.1.lo; omega)); (case hl4 => (intro k hk; have := HV9.out k hk; have := H10.out.1.lg; have := H10.out.1.lo; omega)); (case hl5 => (have := H10.out.1.op.lt; have := H10.out.1.lg; have := H10.out.1.lo; omega)); rintro e w11 ⟨rfl, v11, t11⟩; have k11 := H10.out.1.stay t11.st (fun k e => (by rcases e with e | e; omega; exact HV9.out k e)); clear c09 c19 c29; have c09 : w11.cell? ⟨o, 0, none⟩ = some (.int .i64 m) := k11.op.cell rfl; have c19 : w11.cell? ⟨o, 1, none⟩ = some (Fv f1 #[]) := k11.op.cell rfl; have c29 : w11.cell? ⟨o, 2, none⟩ = some (Fv f2 #[]) := k11.op.cell rfl; have H11 := Hid.mk (And.intro k11 t11); clear k11 t11))
    refine hK.out _ _ ?_ (fun hHeld => ?_)
    · exact ⟨c09, c19, c29⟩
    clear hK K
    refine wpAnyH_done (by kernel_rfl) ?_ _
    have hne : [82, d] ++ pvL 9 en ++ wrR i r L ≠ [] := by simp
    have hSt := string_any w11 H11.out.2.bd hne
    go_wp2_with (go_at_call 40; refine hSt.mono ?_; clear hSt; rintro e w12 ⟨rfl, s12⟩; have H12 := Hid.mk s12; clear s12)
    go_ret2
    refine ⟨?_, Stay.toBelow (F := fun k => w.heap.size ≤ k) (H11.out.1.old.andThen H12.out (fun i hi e => ?_)) (fun k hk h => by omega) (Nat.le_refl _)⟩
    · rw [HA.out, if_neg (fun h => h rfl)]
      have : wrN r.e = pvL 9 en := by unfold wrN; rw [HEN.out]; rfl
      rw [this, ← List.append_assoc]
      rfl
    · rcases H11.out.2.loc i e with e | e
      · have := HV9.out i e; have := H11.out.1.lg; have := H11.out.1.lo; omega
      · have := H10.out.1.old.size; omega
  · go_wp2_with ((go_at_call 37; refine (HR.out _ c H5.out.2).mono ?_; rintro e w6 ⟨rfl, rfl⟩))
    go_ret2
    refine ⟨?_, Stay.toBelow H5.out.1.old (fun k hk h => by omega) (Nat.le_refl _)⟩
    rw [HA.out, if_pos hx0]; try rfl
theorem tell_any (op : Int) (r : Rp) (L : List Ht) (a : Option Addr) (cap : Nat) (hrn : r.n ≤ 9223372036854775807) (hHW : HtsW L) (hn : L.length < 4611686018427387904) (w : World) (hL : HsAt w a L) :
    Calls Try.prog 15 #[.int .i64 op, .agg (rpC r (.slice a L.length cap))] w fun e w' => e = .returned (.tuple #[.string ⟨(tellA op r L).1.toArray⟩, .int .i64 (tellA op r L).2]) ∧ Below w.heap.size w w' := by
  by_cases h : 1 ≤ op ∧ op ≤ 9
  · obtain ⟨i, hi, hop⟩ : ∃ i : Nat, i < 9 ∧ op = (i + 1 : Nat) := ⟨op.toNat - 1, by omega, by omega⟩
    subst hop
    by_cases hcode : r.e < 0 ∨ 999 < r.e
    · have e : tellA (i + 1 : Nat) r L = ([], 13) := by unfold tellA; rw [if_pos h, if_pos hcode]
      rw [e]
      exact tell_code i hi r L a cap hcode w hL
    · cases hst : stP i r L.length with
      | false => exact tell_rest i hi r L a cap hcode hst hrn hHW hn w hL
      | true =>
        have e : tellA (i + 1 : Nat) r L = ([], 32) := by
          unfold tellA
          have e : ((i + 1 : Nat) : Int).toNat = i + 1 := by omega
          rw [if_pos h, if_neg hcode, e, Nat.add_sub_cancel, hst]; rfl
        rw [e]
        exact tell_form i hi r L a cap hcode hst w hL
  · have e : tellA op r L = ([], 35) := by unfold tellA; rw [if_neg h]
    rw [e]
    exact tell_kind op r (a, L.length, cap) w h
end Go.Proofs.Ytjdknijjkjmafaa
