/-
  DERIVED. Hits: in order, looked at.
-/
import Derived.Test.YtjdknijjkjmafaaWReqW
import Derived.Test.YtjdknijjkjmafaaWEq
set_option linter.unusedVariables false
set_option linter.unusedSimpArgs false
namespace Go.Proofs.Ytjdknijjkjmafaa
open Go.RowKit Go.Proofs.SealMath
/-- Does a hit stand in order behind another one? -/
def flB (a b : Ht) : Bool := decide (a.d < b.d) || (decide (b.d = a.d) && decide (a.i < b.i))
set_option maxHeartbeats 2000000 in
theorem follows_any (a b : Ht) (w : World) :
    Calls Try.prog 66 #[.agg (htV a), .agg (htV b)] w fun e w' => e = .returned (.bool (flB a b)) ∧ Below w.heap.size w w' := by
  obtain ⟨d, i, c⟩ := a
  obtain ⟨d', i', c'⟩ := b
  have bA : Below w.heap.size w ((w.alloc (.cells #[.int .i64 d, .int .i64 i, .string c] 25)).alloc (.cells #[.int .i64 d', .int .i64 i', .string c'] 25)) := ((Below.refl _ w).alloc (Nat.le_refl _) _).alloc (by simp) _
  have HB := Hid.mk bA
  unfold flB
  simp only
  clear bA
  by_cases h1 : d < d'
  · have e1 : (decide (d < d') || (decide (d' = d) && decide (i < i'))) = true := by simp [h1]
    rw [e1]
    clear e1
    go_enter Try.func66, Try.ntmps66
    go_wp2
    go_ret
    exact ⟨rfl, HB.out⟩
  · by_cases h2 : d' = d
    · subst h2
      by_cases h3 : i < i'
      · have e1 : (decide (d' < d') || (decide (d' = d') && decide (i < i'))) = true := by simp [h3]
        rw [e1]
        clear e1
        go_enter Try.func66, Try.ntmps66
        go_wp2
        go_ret
        exact ⟨rfl, HB.out⟩
      · have e1 : (decide (d' < d') || (decide (d' = d') && decide (i < i'))) = false := by simp [h3]
        rw [e1]
        clear e1
        go_enter Try.func66, Try.ntmps66
        go_wp2
        go_ret
        exact ⟨rfl, HB.out⟩
    · have e1 : (decide (d < d') || (decide (d' = d) && decide (i < i'))) = false := by simp [h1, h2]
      rw [e1]
      clear e1
      go_enter Try.func66, Try.ntmps66
      go_wp2
      go_ret
      exact ⟨rfl, HB.out⟩
/-- Hits that lie somewhere. -/
def HsAt (w : World) (a : Option Addr) (L : List Ht) : Prop := L = [] ∨ ∃ g off, a = some ⟨g, off, none⟩ ∧ g < w.heap.size ∧
  ∀ i (hi : i < L.length), w.cell? ⟨g, off + i * 3, none⟩ = some (.int .i64 L[i].d) ∧ w.cell? ⟨g, off + i * 3 + 1, none⟩ = some (.int .i64 L[i].i) ∧ w.cell? ⟨g, off + i * 3 + 2, none⟩ = some (.string L[i].c)
theorem cell_below {w w' : World} {g o : Nat} {v : Value} (s : Below w.heap.size w w') (h : w.cell? ⟨g, o, none⟩ = some v) : w'.cell? ⟨g, o, none⟩ = some v := by
  have hl := World.block_lt_of_cell? w _ h
  have := s.block g hl
  unfold World.cell? at h ⊢
  simp only at h ⊢
  rw [this]; exact h
theorem cstay {F : Nat → Prop} {w w' : World} {g o : Nat} {v : Value} (s : Stay F w w') (hg : ¬ F g) (h : w.cell? ⟨g, o, none⟩ = some v) : w'.cell? ⟨g, o, none⟩ = some v := by
  have hl := World.block_lt_of_cell? w _ h
  have := s.block g hl hg
  unfold World.cell? at h ⊢
  simp only at h ⊢
  rw [this]; exact h
theorem hit_check (h : Ht) (w : World) (c q o : Nat) (hc : CkAt w c false false 0) (hq : q ≠ c) (c0 : w.cell? ⟨q, o, none⟩ = some (.int .i64 h.d)) (c1 : w.cell? ⟨q, o + 1, none⟩ = some (.int .i64 h.i)) (c2 : w.cell? ⟨q, o + 2, none⟩ = some (.string h.c)) :
    Calls Try.prog 65 #[Pc q o, (ckH c).v] w fun e w' => e = Un ∧ CkAt w' c (decide (h.d < 0) || decide (h.i < 0)) (decide (65536 < h.c.size)) 0 ∧ Stay (· = c) w w' := by
  have E := ckH_ent c
  have lc := HC.lt hc
  have nF : ¬ w.heap.size = c := by omega
  have cA : CkAt (w.alloc (ckH c).box).drew c false false 0 := HC.drew (hc.alloc _)
  have bA' : Below w.heap.size w (w.alloc (ckH c).box) := (Below.refl _ w).alloc (Nat.le_refl _) _
  have bA : Below w.heap.size w (w.alloc (ckH c).box).drew := ⟨bA'.os, bA'.tape, bA'.output, bA'.size, bA'.block⟩
  have d0 : (w.alloc (ckH c).box).drew.cell? ⟨q, o, none⟩ = some (.int .i64 h.d) := cell_below bA c0
  have d1 : (w.alloc (ckH c).box).drew.cell? ⟨q, o + 1, none⟩ = some (.int .i64 h.i) := cell_below bA c1
  have d2 : (w.alloc (ckH c).box).drew.cell? ⟨q, o + 2, none⟩ = some (.string h.c) := cell_below bA c2
  refine hit_g (ckH c) q o w _ E.1 E.2.1 ?_
  refine (cnumber_any h.d _ _ _ _ c q o cA d0).mono ?_
  rintro e w1 ⟨rfl, k1, s1⟩
  refine ⟨rfl, bx_kept s1 nF, ?_⟩
  have f1 : w1.cell? ⟨q, o + 1, none⟩ = some (.int .i64 h.i) := cstay (F := fun k => k = c) s1 hq d1
  have f2 : w1.cell? ⟨q, o + 2, none⟩ = some (.string h.c) := cstay (F := fun k => k = c) s1 hq d2
  refine (cnumber_any h.i _ _ _ _ c q (o + 1) (HC.drew k1) (show w1.drew.cell? _ = _ from f1)).mono ?_
  rintro e w2 ⟨rfl, k2, s2⟩
  refine ⟨rfl, bx_kept2 (bx_kept s1 nF) s2 nF, ?_⟩
  have f3 : w2.cell? ⟨q, o + 2, none⟩ = some (.string h.c) := cstay (F := fun k => k = c) s2 hq (show w1.drew.cell? _ = _ from f2)
  refine (ctext_any h.c _ _ _ _ c q (o + 2) (HC.drew k2) (show w2.drew.cell? _ = _ from f3)).mono ?_
  rintro e w3 ⟨rfl, k3, s3⟩
  refine ⟨rfl, bx_kept2 (bx_kept2 (bx_kept s1 nF) s2 nF) s3 nF, rfl, ?_, ((bx_stay s1).drew.trans s2).drew.trans s3⟩
  simpa using k3
/-- What is wrong with a hit, and with a list behind another hit. -/
def hkE (h : Ht) : Int := ckE (decide (h.d < 0) || decide (h.i < 0)) (decide (65536 < h.c.size)) 0
def okP (p : Option Ht) (h : Ht) : Bool := match p with | some x => flB x h | none => true
def gsF : List Ht → Option Ht → Int
  | [], _ => 0
  | h :: t, p => if hkE h ≠ 0 then hkE h else if okP p h then gsF t (some h) else 50
abbrev gsE (p : Option Ht) (L : List Ht) : Int := gsF L p
theorem gsE_cons (p : Option Ht) (h : Ht) (t : List Ht) : gsF (h :: t) p = if hkE h ≠ 0 then hkE h else if okP p h then gsF t (some h) else 50 := rfl
def glE (L : List Ht) : Int := if 65536 < L.length then 43 else gsE none L
def prv (L : List Ht) (i : Nat) : Option Ht := if i = 0 then none else L[i - 1]?
theorem gsE_end (L : List Ht) : gsE (prv L L.length) (L.drop L.length) = 0 := by rw [List.drop_length]; rfl
theorem gsE_bad (L : List Ht) (i : Nat) (hi : i < L.length) (h : hkE L[i] ≠ 0) : gsE (prv L i) (L.drop i) = hkE L[i] := by
  unfold gsE; rw [List.drop_eq_getElem_cons hi, gsE_cons, if_pos h]
theorem gsE_first (L : List Ht) (hi : 0 < L.length) (h : hkE L[0] = 0) : gsE (prv L 0) (L.drop 0) = gsE (prv L 1) (L.drop 1) := by
  unfold gsE
  rw [List.drop_eq_getElem_cons hi, gsE_cons, if_neg (fun g => g h)]
  simp [prv, okP, List.getElem?_eq_getElem hi]
theorem gsE_next (L : List Ht) (i : Nat) (hi : i + 1 < L.length) (h : hkE L[i + 1] = 0) (hf : flB (L[i]'(by omega)) L[i + 1] = true) : gsE (prv L (i + 1)) (L.drop (i + 1)) = gsE (prv L (i + 2)) (L.drop (i + 2)) := by
  have e1 : prv L (i + 1) = some (L[i]'(by omega)) := by simp [prv, List.getElem?_eq_getElem (show i < L.length by omega)]
  have e2 : prv L (i + 2) = some L[i + 1] := by simp [prv, List.getElem?_eq_getElem hi]
  unfold gsE
  rw [e1, e2, List.drop_eq_getElem_cons hi, gsE_cons, if_neg (fun g => g h)]
  simp only [okP, hf, if_true]
theorem gsE_order (L : List Ht) (i : Nat) (hi : i + 1 < L.length) (h : hkE L[i + 1] = 0) (hf : flB (L[i]'(by omega)) L[i + 1] = false) : gsE (prv L (i + 1)) (L.drop (i + 1)) = 50 := by
  have e1 : prv L (i + 1) = some (L[i]'(by omega)) := by simp [prv, List.getElem?_eq_getElem (show i < L.length by omega)]
  unfold gsE
  rw [e1, List.drop_eq_getElem_cons hi, gsE_cons, if_neg (fun g => g h)]
  simp only [okP, hf]
  rfl
/-- What stands while hits are looked at: the checker, the handler's box. -/
structure CI (w wr : World) (c hb : Nat) : Prop where
  ck : CkAt wr c false false 0
  bx : wr.heap[hb]? = some (ckH c).box
  old : Below w.heap.size w wr
  lc : w.heap.size ≤ c
  lh : c < hb
theorem CI.drew {w wr : World} {c hb : Nat} (h : CI w wr c hb) : CI w wr.drew c hb := ⟨h.ck, h.bx, ⟨h.old.os, h.old.tape, h.old.output, h.old.size, h.old.block⟩, h.lc, h.lh⟩
theorem CI.below {w wr w' : World} {c hb : Nat} (h : CI w wr c hb) (b : Below wr.heap.size wr w') : CI w w' c hb := ⟨HC.below h.ck b, HC.below h.bx b, chain h.old b (Nat.le_refl _), h.lc, h.lh⟩
theorem ci_new {w w2 : World} {c : Nat} (hc : CkAt w2 c false false 0) (old : Below w.heap.size w w2) (lc : w.heap.size ≤ c) : CI w (w2.alloc (ckH c).box) c w2.heap.size :=
  ⟨HC.alloc hc _, heap_alloc_last w2 _, old.alloc old.size _, lc, HC.lt hc⟩
set_option maxHeartbeats 4000000 in
set_option maxRecDepth 100000 in
theorem checkHits_any (L : List Ht) (a : Option Addr) (cap : Nat) (w : World) (hL : HsAt w a L) (hn : L.length < 4611686018427387904) :
    Calls Try.prog 79 #[.slice a L.length cap] w fun e w' => e = .returned (.int .i64 (glE L)) ∧ Below w.heap.size w w' := by
  obtain ⟨n, hne⟩ : ∃ n, n = L.length := ⟨_, rfl⟩
  rw [← hne]
  by_cases hb : 65536 < n
  · have hb' : (65536 : Int) < (n : Int) := by omega
    have hG : glE L = 43 := by unfold glE; rw [if_pos (by omega)]
    rw [hG]
    clear hL hne hb hG hn
    go_enter Try.func79, Try.ntmps79
    go_wp2
    go_ret
    exact ⟨rfl, Below.refl _ _⟩
  · have hb' : ¬ (65536 : Int) < (n : Int) := by omega
    have hG : glE L = gsE (prv L 0) (L.drop 0) := by unfold glE; rw [if_neg (by omega), List.drop_zero]; rfl
    rw [hG]
    obtain ⟨E, hE⟩ : ∃ E, E = gsE (prv L 0) (L.drop 0) := ⟨_, rfl⟩
    rw [← hE]
    have HE := Hid.mk hE
    have HN := Hid.mk (And.intro hne (And.intro hb hL))
    have c3 : CkAt (w.alloc (.cells #[.bool false, .bool false, .int .i64 0] 86)) w.heap.size false false 0 := HC.new w _ _
    have b3 : Below w.heap.size w (w.alloc (.cells #[.bool false, .bool false, .int .i64 0] 86)) := (Below.refl _ w).alloc (Nat.le_refl _) _
    obtain ⟨c, hce⟩ : ∃ c, c = w.heap.size := ⟨_, rfl⟩
    rw [← hce] at c3
    have hck := fun W => ckH_any c W
    have H3 := Hid.mk (And.intro c3 (And.intro b3 hce))
    have hcw : w.heap.size = c := hce.symm
    clear hL hne hb hG hE c3 b3 hn hce
    have hsf : ∀ (W : World) (p : Addr) (f : Fn) (x c : Array Value), (store p (.func f x c)).run Try.prog W = stored Try.prog W p (.func f x c) .plain := fun W p f x c => run_store Try.prog W p _ .plain rfl
    go_enter Try.func79, Try.ntmps79
    go_wp2_with (go_at_call 36; refine (hck _).mono ?_; clear hck; rintro e w2 ⟨rfl, b2⟩; have H4 := Hid.mk (ci_new (HC.below H3.out.1 b2) (chain H3.out.2.1 b2 (Nat.le_refl _)) (Nat.le_of_eq H3.out.2.2.symm)); clear b2)
    obtain ⟨hb, hhb⟩ : ∃ hb, hb = w2.heap.size := ⟨_, rfl⟩
    simp only [← hhb]
    obtain ⟨V4, hV4⟩ : ∃ V4, V4 = w2.alloc (ckH c).box := ⟨_, rfl⟩
    rw [← hV4, ← hhb] at H4
    have hV5 : w2.alloc (.cells #[Fv (ckH c).n (ckH c).A, Fv (ckH c).t (ckH c).A, Fv (ckH c).h (ckH c).A] 73) = V4 := hV4.symm
    try rw [hV5]
    clear hV4 hV5 hhb H3 hcw
    go_loopw [13] (fun u wr => ∃ i : Nat, u = .int .i64 i ∧ i ≤ n ∧ CI w wr c hb ∧ Hid (E = gsE (prv L i) (L.drop i))) (fun u _ => n - (intOf u).toNat)
    case atStart => exact ⟨0, rfl, Nat.zero_le _, H4.out, HE⟩
    case round =>
      obtain ⟨i, rfl, hin, hI, HEi⟩ := hrel
      by_cases hlt : i < n
      · have hlt' : (i : Int) < (n : Int) := by omega
        have i0 : 0 ≤ (i : Int) := by omega
        have hil : i < L.length := by have := HN.out.1; omega
        have hat := HN.out.2.2
        rcases hat with hat | ⟨g, off, rfl, hgl, hcell⟩
        · rw [hat] at hil; simp at hil
        obtain ⟨p0, p1, p2⟩ := hcell i hil
        have q0 := cell_below hI.old p0
        have q1 := cell_below hI.old p1
        have q2 := cell_below hI.old p2
        obtain ⟨k0, k1, k2⟩ := box_cell hI.bx
        have hgc : g ≠ c := by have := hI.lc; omega
        obtain ⟨ht, hht⟩ : ∃ ht, ht = L[i] := ⟨_, rfl⟩
        rw [← hht] at q0 q1 q2
        have HT : Hid (∃ h : i < L.length, L[i] = ht) := ⟨hil, hht.symm⟩
        have hhc := hit_check ht wr.drew c g (off + i * 3) (HC.drew hI.ck) hgc q0 q1 q2
        have hlo : hkE ht = ckE (decide (ht.d < 0) || decide (ht.i < 0)) (decide (65536 < ht.c.size)) 0 := rfl
        obtain ⟨lo, hlo1⟩ : ∃ lo, lo = (decide (ht.d < 0) || decide (ht.i < 0)) := ⟨_, rfl⟩
        obtain ⟨bi, hbi1⟩ : ∃ bi, bi = decide (65536 < ht.c.size) := ⟨_, rfl⟩
        rw [← hlo1, ← hbi1] at hhc hlo
        have hR := fun W (h : CkAt W c lo bi 0) => refusal_any lo bi 0 W c h
        obtain ⟨x, hx⟩ : ∃ x, x = ckE lo bi 0 := ⟨_, rfl⟩
        rw [← hx] at hR hlo
        have HHC := Hid.mk (And.intro hhc (And.intro hlo (And.intro hx (And.intro hgl hcell))))
        have HI := Hid.mk hI
        have HRR := Hid.mk hR
        clear hhc hlo hx hI hR hlo1 hbi1 p0 p1 p2 q0 q1 q2 hcell hgl hht hil
        go_wp2
        refine wp_region_held_drew (S := fun w' => w'.cell? ⟨hb, 0, none⟩ = some (Fv (ckH c).n (ckH c).A) ∧ w'.cell? ⟨hb, 1, none⟩ = some (Fv (ckH c).t (ckH c).A) ∧ w'.cell? ⟨hb, 2, none⟩ = some (Fv (ckH c).h (ckH c).A)) (by kernel_rfl) ?_ (fun hHeld => ?_)
        · exact ⟨k0, k1, k2⟩
        refine wpAnyH_take (i := 0) (oi := { dst := some 16, op := Op.move (Operand.tmp 0), type := 26, pos := "checker.go:38", after := #[], guard := none }) (v := ?va0) rfl (by kernel_rfl) (by kernel_rfl) (by kernel_rfl) (fun _ _ _ h => h) (Or.inl ⟨by rfl, ?ha0⟩) (by assumption) ?ra0
        case ha0 => (intro w0 hSw; (try dsimp only at hSw); go_simp; try (with_reducible rfl))
        simp only [Act.put, List.setIfInBounds_toArray, List.set_cons_zero, List.set_cons_succ]
        refine wpAnyH_take (i := 1) (oi := { dst := some 17, op := Op.move (Operand.tmp 5), type := 3, pos := "checker.go:38", after := #[], guard := none }) (v := ?va1) rfl (by kernel_rfl) (by kernel_rfl) (by kernel_rfl) (fun _ _ _ h => h) (Or.inl ⟨by rfl, ?ha1⟩) (by assumption) ?ra1
        case ha1 => (intro w0 hSw; (try dsimp only at hSw); go_simp; try (with_reducible rfl))
        simp only [Act.put, List.setIfInBounds_toArray, List.set_cons_zero, List.set_cons_succ]
        refine wpAnyH_take (i := 2) (oi := { dst := some 18, op := Op.indexAddr 26 (Operand.tmp 16) (Operand.tmp 17), type := 0, pos := "checker.go:38", after := #[{ on := 0, ground := Ground.data }, { on := 1, ground := Ground.data }], guard := none }) (v := ?va2) rfl (by kernel_rfl) (by kernel_rfl) (by kernel_rfl) (fun _ _ _ h => h) (Or.inl ⟨by rfl, ?ha2⟩) (by assumption) ?ra2
        case ha2 => (intro w0 hSw; (try dsimp only at hSw); go_simp; try (with_reducible rfl))
        simp only [Act.put, List.setIfInBounds_toArray, List.set_cons_zero, List.set_cons_succ]
        refine wpAnyH_take (i := 3) (oi := { dst := some 19, op := Op.load 73 (Operand.tmp 4), type := 73, pos := "checker.go:38", after := #[], guard := none }) (v := ?va3) rfl (by kernel_rfl) (by kernel_rfl) (by kernel_rfl) (fun _ _ _ h => h) (Or.inl ⟨by rfl, ?ha3⟩) (by assumption) ?ra3
        case ha3 => (intro w0 hSw; (try dsimp only at hSw); go_simp; try (with_reducible rfl))
        simp only [Act.put, List.setIfInBounds_toArray, List.set_cons_zero, List.set_cons_succ]
        refine wpAnyH_ready (rs := [4]) (by kernel_rfl) (by simp) ?_
        refine AllReadyH.cons rfl (fun K hK => ?_) AllReadyH.nil
        go_simp
        go_wp2_with (go_at_call 65; refine HHC.out.1.mono ?_; rintro e w5 ⟨rfl, ck5, s5⟩; have bx5 := HC.stay (w := wr.drew) HI.out.bx s5 (fun e => by have := HI.out.lh; omega); obtain ⟨m0, m1, m2⟩ := box_cell bx5; have H5 := Hid.mk (And.intro ck5 (And.intro bx5 (And.intro s5 HI.out.lc))); clear ck5 bx5 s5)
        refine hK.out _ _ ?_ (fun hHeld => ?_)
        · exact ⟨m0, m1, m2⟩
        clear hK K
        refine wpAnyH_done (by kernel_rfl) ?_ _
        have b5 : Below w.heap.size w w5 := Stay.toBelow (F := fun k => w.heap.size ≤ k) ((Stay.below HI.out.old).drew.andThen H5.out.2.2.1 (fun i hi e => by have := HI.out.lc; omega)) (fun k hk h => by omega) (Nat.le_refl _)
        have HB5 := Hid.mk b5
        clear b5 k0 k1 k2 m0 m1 m2
        by_cases hx0 : x = 0
        · have hlb : lo = false ∧ bi = false := by
            have := HHC.out.2.2.1
            rw [hx0] at this
            cases lo <;> cases bi <;> simp [ckE] at this ⊢
          subst hx0
          have H6 : Hid (CI w w5 c hb) := ⟨by have := H5.out.1; rw [hlb.1, hlb.2] at this; exact this, H5.out.2.1, HB5.out, HI.out.lc, HI.out.lh⟩
          go_wp2_with (go_at_call 37; refine (HRR.out _ H5.out.1).mono ?_; rintro e w6 ⟨rfl, rfl⟩)
          obtain ⟨hil, hht⟩ := HT.out
          obtain ⟨q0, q1, q2⟩ := HHC.out.2.2.2.2 i hil
          rw [hht] at q0 q1 q2
          have q0 := cell_below HB5.out q0
          have q1 := cell_below HB5.out q1
          have q2 := cell_below HB5.out q2
          by_cases hi0 : i = 0
          · have HF : Hid (E = gsE (prv L 1) (L.drop 1)) := by
              subst hi0
              show _ = _
              rw [HEi.out, gsE_first L hil (by rw [hht, HHC.out.2.1])]
            subst hi0
            clear HT HHC hil hht
            refine wp_region_held_drew (S := fun _ => True) (by kernel_rfl) ?_ (fun hHeld => ?_)
            · trivial
            refine wpAnyH_take (i := 0) (oi := { dst := some 25, op := Op.move (Operand.tmp 5), type := 3, pos := "checker.go:42", after := #[], guard := none }) (v := ?vb0) rfl (by kernel_rfl) (by kernel_rfl) (by kernel_rfl) (fun _ _ _ h => h) (Or.inl ⟨by rfl, ?hb0⟩) (by assumption) ?rb0
            case hb0 => (intro w0 hSw; (try dsimp only at hSw); go_simp; try (with_reducible rfl))
            simp only [Act.put, List.setIfInBounds_toArray, List.set_cons_zero, List.set_cons_succ]
            refine wpAnyH_take (i := 1) (oi := { dst := some 26, op := Op.binOp BinOp.gtr 3 (Operand.tmp 25) (Operand.const (Value.int IntKind.i64 0)) 3, type := 4, pos := "checker.go:42", after := #[{ on := 0, ground := Ground.data }], guard := none }) (v := ?vb1) rfl (by kernel_rfl) (by kernel_rfl) (by kernel_rfl) (fun _ _ _ h => h) (Or.inl ⟨by rfl, ?hb1⟩) (by assumption) ?rb1
            case hb1 => (intro w0 hSw; (try dsimp only at hSw); go_simp; try (with_reducible rfl))
            simp only [Act.put, List.setIfInBounds_toArray, List.set_cons_zero, List.set_cons_succ]
            refine wpAnyH_take (i := 2) (oi := { dst := some 27, op := Op.move (Operand.tmp 26), type := 4, pos := "checker.go:42", after := #[{ on := 1, ground := Ground.data }], guard := none }) (v := ?vb2) rfl (by kernel_rfl) (by kernel_rfl) (by kernel_rfl) (fun _ _ _ h => h) (Or.inl ⟨by rfl, ?hb2⟩) (by assumption) ?rb2
            case hb2 => (intro w0 hSw; (try dsimp only at hSw); go_simp; try (with_reducible rfl))
            simp only [Act.put, List.setIfInBounds_toArray, List.set_cons_zero, List.set_cons_succ]
            refine wpAnyH_take (i := 3) (oi := { dst := some 28, op := Op.move (Operand.tmp 0), type := 26, pos := "checker.go:42", after := #[{ on := 2, ground := Ground.guard }], guard := some (2, true) }) rfl (by kernel_rfl) (by kernel_rfl) (by kernel_rfl) (fun _ _ _ h => h) (Or.inr ⟨by rfl, rfl⟩) (by assumption) ?_
            simp only [Act.put, List.setIfInBounds_toArray, List.set_cons_zero, List.set_cons_succ]
            refine wpAnyH_take (i := 4) (oi := { dst := some 29, op := Op.move (Operand.tmp 5), type := 3, pos := "checker.go:42", after := #[{ on := 2, ground := Ground.guard }], guard := some (2, true) }) rfl (by kernel_rfl) (by kernel_rfl) (by kernel_rfl) (fun _ _ _ h => h) (Or.inr ⟨by rfl, rfl⟩) (by assumption) ?_
            simp only [Act.put, List.setIfInBounds_toArray, List.set_cons_zero, List.set_cons_succ]
            refine wpAnyH_take (i := 5) (oi := { dst := some 30, op := Op.binOp BinOp.sub 3 (Operand.tmp 29) (Operand.const (Value.int IntKind.i64 1)) 3, type := 3, pos := "checker.go:42", after := #[{ on := 4, ground := Ground.data }, { on := 2, ground := Ground.guard }], guard := some (2, true) }) rfl (by kernel_rfl) (by kernel_rfl) (by kernel_rfl) (fun _ _ _ h => h) (Or.inr ⟨by rfl, rfl⟩) (by assumption) ?_
            simp only [Act.put, List.setIfInBounds_toArray, List.set_cons_zero, List.set_cons_succ]
            refine wpAnyH_take (i := 6) (oi := { dst := some 31, op := Op.indexAddr 26 (Operand.tmp 28) (Operand.tmp 30), type := 0, pos := "checker.go:42", after := #[{ on := 3, ground := Ground.data }, { on := 5, ground := Ground.data }, { on := 2, ground := Ground.guard }], guard := some (2, true) }) rfl (by kernel_rfl) (by kernel_rfl) (by kernel_rfl) (fun _ _ _ h => h) (Or.inr ⟨by rfl, rfl⟩) (by assumption) ?_
            simp only [Act.put, List.setIfInBounds_toArray, List.set_cons_zero, List.set_cons_succ]
            refine wpAnyH_take (i := 7) (oi := { dst := some 32, op := Op.load 25 (Operand.tmp 31), type := 25, pos := "checker.go:42", after := #[{ on := 6, ground := Ground.data }, { on := 2, ground := Ground.guard }], guard := some (2, true) }) rfl (by kernel_rfl) (by kernel_rfl) (by kernel_rfl) (fun _ _ _ h => h) (Or.inr ⟨by rfl, rfl⟩) (by assumption) ?_
            simp only [Act.put, List.setIfInBounds_toArray, List.set_cons_zero, List.set_cons_succ]
            refine wpAnyH_take (i := 8) (oi := { dst := some 33, op := Op.move (Operand.tmp 0), type := 26, pos := "checker.go:42", after := #[{ on := 2, ground := Ground.guard }], guard := some (2, true) }) rfl (by kernel_rfl) (by kernel_rfl) (by kernel_rfl) (fun _ _ _ h => h) (Or.inr ⟨by rfl, rfl⟩) (by assumption) ?_
            simp only [Act.put, List.setIfInBounds_toArray, List.set_cons_zero, List.set_cons_succ]
            refine wpAnyH_take (i := 9) (oi := { dst := some 34, op := Op.move (Operand.tmp 5), type := 3, pos := "checker.go:42", after := #[{ on := 2, ground := Ground.guard }], guard := some (2, true) }) rfl (by kernel_rfl) (by kernel_rfl) (by kernel_rfl) (fun _ _ _ h => h) (Or.inr ⟨by rfl, rfl⟩) (by assumption) ?_
            simp only [Act.put, List.setIfInBounds_toArray, List.set_cons_zero, List.set_cons_succ]
            refine wpAnyH_take (i := 10) (oi := { dst := some 35, op := Op.indexAddr 26 (Operand.tmp 33) (Operand.tmp 34), type := 0, pos := "checker.go:42", after := #[{ on := 8, ground := Ground.data }, { on := 9, ground := Ground.data }, { on := 2, ground := Ground.guard }], guard := some (2, true) }) rfl (by kernel_rfl) (by kernel_rfl) (by kernel_rfl) (fun _ _ _ h => h) (Or.inr ⟨by rfl, rfl⟩) (by assumption) ?_
            simp only [Act.put, List.setIfInBounds_toArray, List.set_cons_zero, List.set_cons_succ]
            refine wpAnyH_take (i := 11) (oi := { dst := some 36, op := Op.load 25 (Operand.tmp 35), type := 25, pos := "checker.go:42", after := #[{ on := 10, ground := Ground.data }, { on := 2, ground := Ground.guard }], guard := some (2, true) }) rfl (by kernel_rfl) (by kernel_rfl) (by kernel_rfl) (fun _ _ _ h => h) (Or.inr ⟨by rfl, rfl⟩) (by assumption) ?_
            simp only [Act.put, List.setIfInBounds_toArray, List.set_cons_zero, List.set_cons_succ]
            refine wpAnyH_take (i := 12) (oi := { dst := some 37, op := Op.call { callee := Callee.value (Operand.func 66), args := #[Operand.tmp 32, Operand.tmp 36], argTypes := #[25, 25] }, type := 4, pos := "checker.go:42", after := #[{ on := 7, ground := Ground.data }, { on := 11, ground := Ground.data }, { on := 2, ground := Ground.chain }, { on := 2, ground := Ground.guard }], guard := some (2, true) }) rfl (by kernel_rfl) (by kernel_rfl) (by kernel_rfl) (fun _ _ _ h => h) (Or.inr ⟨by rfl, rfl⟩) (by assumption) ?_
            simp only [Act.put, List.setIfInBounds_toArray, List.set_cons_zero, List.set_cons_succ]
            refine wpAnyH_take (i := 13) (oi := { dst := some 38, op := Op.unOp UnOp.not 4 (Operand.tmp 37), type := 4, pos := "checker.go:42", after := #[{ on := 12, ground := Ground.data }, { on := 2, ground := Ground.guard }], guard := some (2, true) }) rfl (by kernel_rfl) (by kernel_rfl) (by kernel_rfl) (fun _ _ _ h => h) (Or.inr ⟨by rfl, rfl⟩) (by assumption) ?_
            simp only [Act.put, List.setIfInBounds_toArray, List.set_cons_zero, List.set_cons_succ]
            refine wpAnyH_take (i := 14) (oi := { dst := some 39, op := Op.pick (Operand.tmp 27) (Operand.tmp 38) (Operand.const (Value.bool false)), type := 4, pos := "checker.go:42", after := #[{ on := 2, ground := Ground.data }, { on := 13, ground := Ground.data }], guard := none }) (v := ?vb14) rfl (by kernel_rfl) (by kernel_rfl) (by kernel_rfl) (fun _ _ _ h => h) (Or.inl ⟨by rfl, ?hb14⟩) (by assumption) ?rb14
            case hb14 => (intro w0 hSw; (try dsimp only at hSw); go_simp; try (with_reducible rfl))
            simp only [Act.put, List.setIfInBounds_toArray, List.set_cons_zero, List.set_cons_succ]
            refine wpAnyH_done (by kernel_rfl) ?_ _
            go_wp2
            exact ⟨⟨1, rfl, by omega, H6.out.drew, HF⟩, by simp only [intOf]; omega⟩
          · obtain ⟨j, hj⟩ : ∃ j, i = j + 1 := ⟨i - 1, by omega⟩
            have hjl : j < L.length := by omega
            obtain ⟨r0, r1, r2⟩ := HHC.out.2.2.2.2 j hjl
            obtain ⟨pt, hpt⟩ : ∃ pt, pt = L[j] := ⟨_, rfl⟩
            rw [← hpt] at r0 r1 r2
            have r0 := cell_below HB5.out r0
            have r1 := cell_below HB5.out r1
            have r2 := cell_below HB5.out r2
            have hfl := fun W => follows_any pt ht W
            obtain ⟨fb, hfb⟩ : ∃ fb, fb = flB pt ht := ⟨_, rfl⟩
            rw [← hfb] at hfl
            have HN1 : Hid (fb = true → E = gsE (prv L (i + 1)) (L.drop (i + 1))) := fun h => by
              subst hj
              rw [HEi.out]
              exact gsE_next L j hil (by rw [hht, HHC.out.2.1]) (by rw [hht, ← hpt, ← hfb]; exact h)
            have HN2 : Hid (fb = false → E = 50) := fun h => by
              subst hj
              rw [HEi.out]
              exact gsE_order L j hil (by rw [hht, HHC.out.2.1]) (by rw [hht, ← hpt, ← hfb]; exact h)
            have i1 : (0 : Int) < (i : Int) := by omega
            have i1n : 0 < i := by omega
            have j0 : 0 ≤ (j : Int) := by omega
            have jn : (j : Int) < (n : Int) := by omega
            have qq : Hid (IntKind.i64.wrap ((i : Int) - 1) = (j : Int) ∧ wrap64 ((i : Int) - 1) = (j : Int)) := ⟨i64_eq (by omega) (by omega), w64_eq (by omega) (by omega)⟩
            have wi : Hid (IntKind.i64.wrap ((i : Int) + 1) = ((i + 1 : Nat) : Int)) := i64_in _ (by omega) (by omega)
            obtain ⟨a1, a2⟩ := qq.out
            clear HT HHC hil hht hpt hfb hjl hj hi0 qq
            obtain ⟨d0, d1, d2⟩ := pt
            obtain ⟨d3, d4, d5⟩ := ht
            simp only [htV] at hfl q0 q1 q2 r0 r1 r2
            refine wp_region_held_drew (S := fun w' => w'.cell? ⟨g, off + j * 3, none⟩ = some (.int .i64 d0) ∧ w'.cell? ⟨g, off + j * 3 + 1, none⟩ = some (.int .i64 d1) ∧ w'.cell? ⟨g, off + j * 3 + 2, none⟩ = some (.string d2) ∧ w'.cell? ⟨g, off + i * 3, none⟩ = some (.int .i64 d3) ∧ w'.cell? ⟨g, off + i * 3 + 1, none⟩ = some (.int .i64 d4) ∧ w'.cell? ⟨g, off + i * 3 + 2, none⟩ = some (.string d5)) (by kernel_rfl) ?_ (fun hHeld => ?_)
            · exact ⟨r0, r1, r2, q0, q1, q2⟩
            refine wpAnyH_take (i := 0) (oi := { dst := some 25, op := Op.move (Operand.tmp 5), type := 3, pos := "checker.go:42", after := #[], guard := none }) (v := ?vc0) rfl (by kernel_rfl) (by kernel_rfl) (by kernel_rfl) (fun _ _ _ h => h) (Or.inl ⟨by rfl, ?hc0⟩) (by assumption) ?rc0
            case hc0 => (intro w0 hSw; (try dsimp only at hSw); go_simp; try (with_reducible rfl))
            simp only [Act.put, List.setIfInBounds_toArray, List.set_cons_zero, List.set_cons_succ]
            refine wpAnyH_take (i := 1) (oi := { dst := some 26, op := Op.binOp BinOp.gtr 3 (Operand.tmp 25) (Operand.const (Value.int IntKind.i64 0)) 3, type := 4, pos := "checker.go:42", after := #[{ on := 0, ground := Ground.data }], guard := none }) (v := ?vc1) rfl (by kernel_rfl) (by kernel_rfl) (by kernel_rfl) (fun _ _ _ h => h) (Or.inl ⟨by rfl, ?hc1⟩) (by assumption) ?rc1
            case hc1 => (intro w0 hSw; (try dsimp only at hSw); go_simp; try (with_reducible rfl))
            simp only [Act.put, List.setIfInBounds_toArray, List.set_cons_zero, List.set_cons_succ]
            refine wpAnyH_take (i := 2) (oi := { dst := some 27, op := Op.move (Operand.tmp 26), type := 4, pos := "checker.go:42", after := #[{ on := 1, ground := Ground.data }], guard := none }) (v := ?vc2) rfl (by kernel_rfl) (by kernel_rfl) (by kernel_rfl) (fun _ _ _ h => h) (Or.inl ⟨by rfl, ?hc2⟩) (by assumption) ?rc2
            case hc2 => (intro w0 hSw; (try dsimp only at hSw); go_simp; try (with_reducible rfl))
            simp only [Act.put, List.setIfInBounds_toArray, List.set_cons_zero, List.set_cons_succ]
            refine wpAnyH_take (i := 3) (oi := { dst := some 28, op := Op.move (Operand.tmp 0), type := 26, pos := "checker.go:42", after := #[{ on := 2, ground := Ground.guard }], guard := some (2, true) }) (v := ?vc3) rfl (by kernel_rfl) (by kernel_rfl) (by kernel_rfl) (fun _ _ _ h => h) (Or.inl ⟨by rfl, ?hc3⟩) (by assumption) ?rc3
            case hc3 => (intro w0 hSw; (try dsimp only at hSw); go_simp; try (with_reducible rfl))
            simp only [Act.put, List.setIfInBounds_toArray, List.set_cons_zero, List.set_cons_succ]
            refine wpAnyH_take (i := 4) (oi := { dst := some 29, op := Op.move (Operand.tmp 5), type := 3, pos := "checker.go:42", after := #[{ on := 2, ground := Ground.guard }], guard := some (2, true) }) (v := ?vc4) rfl (by kernel_rfl) (by kernel_rfl) (by kernel_rfl) (fun _ _ _ h => h) (Or.inl ⟨by rfl, ?hc4⟩) (by assumption) ?rc4
            case hc4 => (intro w0 hSw; (try dsimp only at hSw); go_simp; try (with_reducible rfl))
            simp only [Act.put, List.setIfInBounds_toArray, List.set_cons_zero, List.set_cons_succ]
            refine wpAnyH_take (i := 5) (oi := { dst := some 30, op := Op.binOp BinOp.sub 3 (Operand.tmp 29) (Operand.const (Value.int IntKind.i64 1)) 3, type := 3, pos := "checker.go:42", after := #[{ on := 4, ground := Ground.data }, { on := 2, ground := Ground.guard }], guard := some (2, true) }) (v := ?vc5) rfl (by kernel_rfl) (by kernel_rfl) (by kernel_rfl) (fun _ _ _ h => h) (Or.inl ⟨by rfl, ?hc5⟩) (by assumption) ?rc5
            case hc5 => (intro w0 hSw; (try dsimp only at hSw); go_simp; try (with_reducible rfl))
            simp only [Act.put, List.setIfInBounds_toArray, List.set_cons_zero, List.set_cons_succ]
            refine wpAnyH_take (i := 6) (oi := { dst := some 31, op := Op.indexAddr 26 (Operand.tmp 28) (Operand.tmp 30), type := 0, pos := "checker.go:42", after := #[{ on := 3, ground := Ground.data }, { on := 5, ground := Ground.data }, { on := 2, ground := Ground.guard }], guard := some (2, true) }) (v := ?vc6) rfl (by kernel_rfl) (by kernel_rfl) (by kernel_rfl) (fun _ _ _ h => h) (Or.inl ⟨by rfl, ?hc6⟩) (by assumption) ?rc6
            case hc6 => (intro w0 hSw; (try dsimp only at hSw); go_simp; try (with_reducible rfl))
            simp only [Act.put, List.setIfInBounds_toArray, List.set_cons_zero, List.set_cons_succ]
            refine wpAnyH_take (i := 7) (oi := { dst := some 32, op := Op.load 25 (Operand.tmp 31), type := 25, pos := "checker.go:42", after := #[{ on := 6, ground := Ground.data }, { on := 2, ground := Ground.guard }], guard := some (2, true) }) (v := ?vc7) rfl (by kernel_rfl) (by kernel_rfl) (by kernel_rfl) (fun _ _ _ h => h) (Or.inl ⟨by rfl, ?hc7⟩) (by assumption) ?rc7
            case hc7 => (intro w0 hSw; (try dsimp only at hSw); go_simp; try (with_reducible rfl))
            simp only [Act.put, List.setIfInBounds_toArray, List.set_cons_zero, List.set_cons_succ]
            refine wpAnyH_take (i := 8) (oi := { dst := some 33, op := Op.move (Operand.tmp 0), type := 26, pos := "checker.go:42", after := #[{ on := 2, ground := Ground.guard }], guard := some (2, true) }) (v := ?vc8) rfl (by kernel_rfl) (by kernel_rfl) (by kernel_rfl) (fun _ _ _ h => h) (Or.inl ⟨by rfl, ?hc8⟩) (by assumption) ?rc8
            case hc8 => (intro w0 hSw; (try dsimp only at hSw); go_simp; try (with_reducible rfl))
            simp only [Act.put, List.setIfInBounds_toArray, List.set_cons_zero, List.set_cons_succ]
            refine wpAnyH_take (i := 9) (oi := { dst := some 34, op := Op.move (Operand.tmp 5), type := 3, pos := "checker.go:42", after := #[{ on := 2, ground := Ground.guard }], guard := some (2, true) }) (v := ?vc9) rfl (by kernel_rfl) (by kernel_rfl) (by kernel_rfl) (fun _ _ _ h => h) (Or.inl ⟨by rfl, ?hc9⟩) (by assumption) ?rc9
            case hc9 => (intro w0 hSw; (try dsimp only at hSw); go_simp; try (with_reducible rfl))
            simp only [Act.put, List.setIfInBounds_toArray, List.set_cons_zero, List.set_cons_succ]
            refine wpAnyH_take (i := 10) (oi := { dst := some 35, op := Op.indexAddr 26 (Operand.tmp 33) (Operand.tmp 34), type := 0, pos := "checker.go:42", after := #[{ on := 8, ground := Ground.data }, { on := 9, ground := Ground.data }, { on := 2, ground := Ground.guard }], guard := some (2, true) }) (v := ?vc10) rfl (by kernel_rfl) (by kernel_rfl) (by kernel_rfl) (fun _ _ _ h => h) (Or.inl ⟨by rfl, ?hc10⟩) (by assumption) ?rc10
            case hc10 => (intro w0 hSw; (try dsimp only at hSw); go_simp; try (with_reducible rfl))
            simp only [Act.put, List.setIfInBounds_toArray, List.set_cons_zero, List.set_cons_succ]
            refine wpAnyH_take (i := 11) (oi := { dst := some 36, op := Op.load 25 (Operand.tmp 35), type := 25, pos := "checker.go:42", after := #[{ on := 10, ground := Ground.data }, { on := 2, ground := Ground.guard }], guard := some (2, true) }) (v := ?vc11) rfl (by kernel_rfl) (by kernel_rfl) (by kernel_rfl) (fun _ _ _ h => h) (Or.inl ⟨by rfl, ?hc11⟩) (by assumption) ?rc11
            case hc11 => (intro w0 hSw; (try dsimp only at hSw); go_simp; try (with_reducible rfl))
            simp only [Act.put, List.setIfInBounds_toArray, List.set_cons_zero, List.set_cons_succ]
            refine wpAnyH_ready (rs := [12]) (by kernel_rfl) (by simp) ?_
            refine AllReadyH.cons rfl (fun K hK => ?_) AllReadyH.nil
            go_simp
            go_wp2_with (go_at_call 66; refine (hfl _).mono ?_; clear hfl; rintro e w8 ⟨rfl, b8⟩; have H8 := Hid.mk (H6.out.drew.below b8); have r0 := cell_below b8 r0; have r1 := cell_below b8 r1; have r2 := cell_below b8 r2; have q0 := cell_below b8 q0; have q1 := cell_below b8 q1; have q2 := cell_below b8 q2; clear b8)
            refine hK.out _ _ ?_ (fun hHeld => ?_)
            · exact ⟨r0, r1, r2, q0, q1, q2⟩
            clear hK K
            refine wpAnyH_take (i := 13) (oi := { dst := some 38, op := Op.unOp UnOp.not 4 (Operand.tmp 37), type := 4, pos := "checker.go:42", after := #[{ on := 12, ground := Ground.data }, { on := 2, ground := Ground.guard }], guard := some (2, true) }) (v := ?vc13) rfl (by kernel_rfl) (by kernel_rfl) (by kernel_rfl) (fun _ _ _ h => h) (Or.inl ⟨by rfl, ?hc13⟩) (by assumption) ?rc13
            case hc13 => (intro w0 hSw; (try dsimp only at hSw); go_simp; try (with_reducible rfl))
            simp only [Act.put, List.setIfInBounds_toArray, List.set_cons_zero, List.set_cons_succ]
            refine wpAnyH_take (i := 14) (oi := { dst := some 39, op := Op.pick (Operand.tmp 27) (Operand.tmp 38) (Operand.const (Value.bool false)), type := 4, pos := "checker.go:42", after := #[{ on := 2, ground := Ground.data }, { on := 13, ground := Ground.data }], guard := none }) (v := ?vc14) rfl (by kernel_rfl) (by kernel_rfl) (by kernel_rfl) (fun _ _ _ h => h) (Or.inl ⟨by rfl, ?hc14⟩) (by assumption) ?rc14
            case hc14 => (intro w0 hSw; (try dsimp only at hSw); go_simp; try (with_reducible rfl))
            simp only [Act.put, List.setIfInBounds_toArray, List.set_cons_zero, List.set_cons_succ]
            refine wpAnyH_done (by kernel_rfl) ?_ _
            cases fb with
            | true =>
              have hw1 := wi.out
              have HQ := Hid.mk (HN1.out rfl)
              clear HN1 HN2
              clear a1 a2 wi
              go_wp2
              exact ⟨⟨i + 1, rfl, by omega, H8.out, HQ⟩, by simp only [intOf]; omega⟩
            | false =>
              have HQ := Hid.mk (HN2.out rfl)
              clear a1 a2 wi HN1 HN2
              go_wp2
              go_ret
              refine ⟨?_, H8.out.old⟩
              rw [HQ.out]
              rfl
        · go_wp2_with (go_at_call 37; refine (HRR.out _ H5.out.1).mono ?_; rintro e w6 ⟨rfl, rfl⟩)
          go_ret
          refine ⟨?_, HB5.out⟩
          obtain ⟨hil, hht⟩ := HT.out
          rw [HEi.out, gsE_bad L i hil (by rw [hht, HHC.out.2.1]; exact hx0), hht, HHC.out.2.1]
          rfl
      · have hlt' : ¬ (i : Int) < (n : Int) := by omega
        have he : i = n := by omega
        have HD : Hid (E = 0) := by
          show _ = _
          rw [HEi.out, he, HN.out.1]; exact gsE_end L
        have HI := Hid.mk hI
        clear hlt hin hI he
        go_wp2
        go_ret
        refine ⟨?_, HI.out.old⟩
        rw [HD.out]
        rfl
end Go.Proofs.Ytjdknijjkjmafaa
