/-
  DERIVED. The document's own Tell.
-/
import Derived.Test.YtjdknijjkjmafaaWRefF
import Derived.Test.YtjdknijjkjmafaaWBuild
set_option linter.unusedVariables false
set_option linter.unusedSimpArgs false
namespace Go.Proofs.Ytjdknijjkjmafaa
open Go.RowKit Go.Proofs.SealMath
theorem glE_nil : glE [] = 0 := by unfold glE; simp [gsE, gsF]
theorem ft_zero {i : Nat} {r : Rp} {l : Nat} (h : ftE i r l = 0) : (0 ≤ r.e ∧ r.e ≤ 999) ∧ stP i r l = false ∧ 0 ≤ r.n ∧ r.t.size ≤ 65536 := by
  unfold ftE at h
  by_cases h1 : r.e < 0 ∨ 999 < r.e
  · rw [if_pos h1] at h; simp at h
  · rw [if_neg h1] at h
    cases h2 : stP i r l with
    | true => rw [h2] at h; simp at h
    | false =>
      rw [h2] at h
      simp only [Bool.false_eq_true, if_false] at h
      by_cases h3 : r.n < 0
      · rw [if_pos h3] at h; simp at h
      · rw [if_neg h3] at h
        by_cases h4 : 65536 < r.t.size
        · rw [if_pos h4] at h; simp at h
        · exact ⟨by omega, rfl, by omega, by omega⟩
/-- What a reply's fields are, where fits lets it go. -/
theorem ft_named {i : Nat} (hi : i < 9) {r : Rp} {l : Nat} (h : stP i r l = false) : ((r.e = 0 ∧ (tlP i).1 = true) ∨ r.t = eB) ∧ ((r.e = 0 ∧ (tlP i).2.1 = true) ∨ r.n = 0) ∧ ((r.e = 0 ∧ (tlP i).2.2 = true) ∨ l = 0) := by
  rw [stP_F i hi] at h
  unfold stF at h
  obtain ⟨b, hb⟩ : ∃ b, b = tlP i := ⟨_, rfl⟩
  rw [← hb] at h ⊢
  obtain ⟨b1, b2, b3⟩ := b
  simp at h
  obtain ⟨h1, h2, h3⟩ := h
  refine ⟨?_, ?_, ?_⟩
  · by_cases q : r.e = 0 ∧ b1 = true
    · exact .inl q
    · exact .inr (h1 ((Decidable.em (r.e = 0)).elim (fun he => .inr (Bool.eq_false_iff.2 (fun x => q ⟨he, x⟩))) (fun he => .inl he)))
  · by_cases q : r.e = 0 ∧ b2 = true
    · exact .inl q
    · exact .inr (h2 ((Decidable.em (r.e = 0)).elim (fun he => .inr (Bool.eq_false_iff.2 (fun x => q ⟨he, x⟩))) (fun he => .inl he)))
  · by_cases q : r.e = 0 ∧ b3 = true
    · exact .inl q
    · exact .inr (h3 ((Decidable.em (r.e = 0)).elim (fun he => .inr (Bool.eq_false_iff.2 (fun x => q ⟨he, x⟩))) (fun he => .inl he)))
theorem ckR_gl {i : Nat} (hi : i < 9) {r : Rp} {L : List Ht} (h : ftE i r L.length = 0) : ckR i r L = (false, false, glE L) := by
  obtain ⟨h1, h2, h3, h4⟩ := ft_zero h
  obtain ⟨-, -, n3⟩ := ft_named hi h2
  have hgl : ¬ (r.e = 0 ∧ (tlP i).2.2 = true) → glE L = 0 := fun q => by
    have : L = [] := List.eq_nil_of_length_eq_zero (n3.resolve_left q)
    rw [this]; exact glE_nil
  unfold ckR
  by_cases e : r.e = 0
  · rw [if_pos e]
    have h : i = 0 ∨ i = 1 ∨ i = 2 ∨ i = 3 ∨ i = 4 ∨ i = 5 ∨ i = 6 ∨ i = 7 ∨ i = 8 := by omega
    have d1 : decide (r.n < 0) = false := decide_eq_false (by omega)
    have d2 : decide (65536 < r.t.size) = false := decide_eq_false (by omega)
    rcases h with rfl | rfl | rfl | rfl | rfl | rfl | rfl | rfl | rfl
    all_goals simp only [ckP, d1, d2]
    all_goals first | rfl | (rw [hgl (by simp [tlP])])
  · rw [if_neg e, hgl (fun q => e q.1)]
theorem tell_ft {i : Nat} (hi : i < 9) {r : Rp} {L : List Ht} (h : ftE i r L.length ≠ 0) : tellA (i + 1 : Nat) r L = ([], ftE i r L.length) := by
  unfold tellA
  have e : ((i + 1 : Nat) : Int).toNat = i + 1 := by omega
  rw [if_pos (by omega), e, Nat.add_sub_cancel]
  unfold ftE at h ⊢
  by_cases h1 : r.e < 0 ∨ 999 < r.e
  · rw [if_pos h1, if_pos h1]
  · rw [if_neg h1, if_neg h1]
    rw [if_neg h1] at h
    cases h2 : stP i r L.length with
    | true => rfl
    | false =>
      rw [h2] at h
      simp only [Bool.false_eq_true, if_false] at h ⊢
      obtain ⟨n1, n2, n3⟩ := ft_named hi h2
      by_cases h3 : r.n < 0
      · rw [if_pos h3]
        have q := n2.resolve_right (by omega)
        have hc : ckR i r L = (true, false, 0) := by
          unfold ckR; rw [if_pos q.1]
          have h : i = 5 ∨ i = 7 := by
            have h : i = 0 ∨ i = 1 ∨ i = 2 ∨ i = 3 ∨ i = 4 ∨ i = 5 ∨ i = 6 ∨ i = 7 ∨ i = 8 := by omega
            rcases h with rfl | rfl | rfl | rfl | rfl | rfl | rfl | rfl | rfl <;> simp [tlP] at q ⊢
          rcases h with rfl | rfl <;> simp only [ckP] <;> rw [decide_eq_true h3]
        rw [hc]; rfl
      · rw [if_neg h3] at h ⊢
        by_cases h4 : 65536 < r.t.size
        · rw [if_pos h4]
          have q := n1.resolve_right (fun e => by rw [e] at h4; exact absurd h4 (by decide))
          have hc : ckR i r L = (false, true, 0) := by
            unfold ckR; rw [if_pos q.1]
            have h : i = 2 := by
              have h : i = 0 ∨ i = 1 ∨ i = 2 ∨ i = 3 ∨ i = 4 ∨ i = 5 ∨ i = 6 ∨ i = 7 ∨ i = 8 := by omega
              rcases h with rfl | rfl | rfl | rfl | rfl | rfl | rfl | rfl | rfl <;> simp [tlP] at q ⊢
            subst h
            simp only [ckP]; rw [decide_eq_true h4]
          rw [hc]; rfl
        · rw [if_neg h4] at h; exact absurd rfl h
theorem tell_gl {i : Nat} (hi : i < 9) {r : Rp} {L : List Ht} (h : ftE i r L.length = 0) : tellA (i + 1 : Nat) r L = if glE L ≠ 0 then ([], glE L) else ([82, UInt8.ofNat (i + 1)] ++ (wrN r.e ++ wrR i r L), 0) := by
  obtain ⟨h1, h2, -⟩ := ft_zero h
  unfold tellA
  have e : ((i + 1 : Nat) : Int).toNat = i + 1 := by omega
  rw [if_pos (by omega), e, Nat.add_sub_cancel, if_neg (by omega), h2, ckR_gl hi h]
  rfl
theorem rnum_z (z : Int) (w : World) (h0 : 0 ≤ z) (hn : z ≤ 9223372036854775807) :
    Calls Try.prog 20 #[.int .i64 z] w fun e w' => e = .returned (.string ⟨(wrN z).toArray⟩) ∧ Below w.heap.size w w' := by
  have := rnum_any z.toNat w (by omega)
  rw [show ((z.toNat : Nat) : Int) = z by omega] at this
  exact this
/-- What stands while Tell writes: the reply's box, the bytes. -/
structure RB (w W : World) (r : Rp) (s : Value) (v : Value) (l : List UInt8) : Prop where
  box : HC W w.heap.size (rpC r s) 29
  row : W.ownsRow 0 5 1 v l.length (l.map BV)
  own : ∀ k, v.ownBlock = some k → w.heap.size ≤ k
  old : Below w.heap.size w W
theorem RB.below {w W W' : World} {r : Rp} {s v : Value} {l : List UInt8} (h : RB w W r s v l) (b : Below W.heap.size W W') : RB w W' r s v l :=
  ⟨HC.below h.box b, row_kept (F := fun _ => False) h.row (.below b) (fun _ _ h => h), h.own, chain h.old b (Nat.le_refl _)⟩
theorem RB.app {w W : World} {r : Rp} {s v : Value} {l : List UInt8} (h : RB w W r s v l) (S : List UInt8) (hb : l.length + S.length ≤ 140737488355328) :
    ∃ v' W', (Builtin.append_ #[54, 9] 54 #[v, .string ⟨S.toArray⟩]).run Try.prog W = .ok v' W' ∧ RB w W' r s v' (l ++ S) ∧ Stay (fun k => v.ownBlock = some k) W W' := by
  obtain ⟨v', w', hr, ho, st, loc⟩ := append_str2 W 54 v l h.row ⟨S.toArray⟩ (by have : (⟨S.toArray⟩ : ByteArray).size = S.length := List.size_toArray; omega)
  have nv : ¬ v.ownBlock = some w.heap.size := fun e => by
    obtain ⟨cur, hc⟩ := row_block h.row e
    have := h.box
    unfold HC at this
    rw [hc] at this
    injection this with this; injection this with _ this; revert this; decide
  refine ⟨v', w', hr, ⟨HC.stay h.box st nv, ho, fun k hk => (loc k hk).elim (h.own k) (fun g => Nat.le_trans h.old.size g), ?_⟩, st⟩
  exact h.old.trans (Stay.toBelow st (fun k hk e => by have := h.own k e; omega) h.old.size)
theorem box_app {W W' : World} {v : Value} {l : List UInt8} {g : Nat} {C : Array Value} {T : TypeId} (row : W.ownsRow 0 5 1 v l.length (l.map BV)) (st : Stay (fun k => v.ownBlock = some k) W W') (hc : HC W g C T) (hT : T ≠ 5) : HC W' g C T := HC.stay hc st (fun e => by
  obtain ⟨cur, h⟩ := row_block row e
  unfold HC at hc
  rw [h] at hc
  injection hc with hc; injection hc with _ hc; exact hT hc.symm)
theorem RB.start {w W : World} (r : Rp) (s : Value) (d : UInt8) (hb : HC W w.heap.size (rpC r s) 29) (old : Below w.heap.size w W) : RB w (W.alloc (.cells #[.int .u8 82, .int .u8 d.toNat] 5)) r s (.slice (some ⟨W.heap.size, 0, none⟩) 2 2) [82, d] :=
  ⟨HC.alloc hb _, ⟨rfl, .inr ⟨W.heap.size, 2, #[.int .u8 82, .int .u8 d.toNat], rfl, Nat.zero_le _, heap_alloc_last W _, Nat.le_refl _, by unfold maxLen; omega, rfl, rfl⟩⟩, fun k hk => by cases hk; exact old.size, old.alloc old.size _⟩
theorem RB.cells {w W : World} {r : Rp} {s v : Value} {l : List UInt8} (h : RB w W r s v l) : W.cell? ⟨w.heap.size, 0, none⟩ = some (.int .i64 r.e) ∧ W.cell? ⟨w.heap.size, 1, none⟩ = some (.int .i64 r.n) ∧ W.cell? ⟨w.heap.size, 2, none⟩ = some (.string r.t) ∧ W.cell? ⟨w.heap.size, 3, none⟩ = some s :=
  ⟨h.box.cell rfl, h.box.cell rfl, h.box.cell rfl, h.box.cell rfl⟩
theorem fm_len (L : List Ht) (j : Nat) (hj : j ≤ L.length) (hl : L.length ≤ 65536) (hv : ∀ h ∈ L, VHt h) : ((L.take j).flatMap wrHt).length ≤ 65566 * 65536 := by
  have : ∀ (K : List Ht), (∀ h ∈ K, VHt h) → (K.flatMap wrHt).length ≤ 65566 * K.length := by
    intro K
    induction K with
    | nil => intro _; simp
    | cons x K ih =>
      intro hK
      have := wrHt_len x (hK x (by simp))
      have := ih (fun h hh => hK h (by simp [hh]))
      rw [List.flatMap_cons, List.length_append, List.length_cons]
      omega
  have h1 := this (L.take j) (fun h hh => hv h (List.mem_of_mem_take hh))
  have h2 : (L.take j).length ≤ 65536 := by rw [List.length_take]; omega
  calc _ ≤ 65566 * (L.take j).length := h1
    _ ≤ 65566 * 65536 := Nat.mul_le_mul_left _ h2
theorem fm_next (L : List Ht) (j : Nat) (hj : j < L.length) : (L.take (j + 1)).flatMap wrHt = (L.take j).flatMap wrHt ++ (wrN L[j].d ++ (wrN L[j].i ++ wrT L[j].c)) := by
  rw [List.take_succ_eq_append_getElem hj, List.flatMap_append]
  simp [wrHt]
set_option maxHeartbeats 4000000 in
set_option maxRecDepth 100000 in
theorem rtell_no (op : Int) (r : Rp) (a : Option Addr) (l cap : Nat) (w : World) (E : Int) (hE : E ≠ 0)
    (hf : ∀ W, Calls Try.prog 18 #[.int .i64 op, .agg (rpC r (.slice a l cap))] W fun e w' => e = .returned (.int .i64 E) ∧ Below W.heap.size W w') :
    Calls Try.prog 7 #[.int .i64 op, .agg (rpC r (.slice a l cap))] w fun e w' => e = .returned (.tuple #[.string eB, .int .i64 E]) ∧ Below w.heap.size w w' := by
  have HB := Hid.mk ((Below.refl _ w).alloc (Nat.le_refl _) (.cells (rpC r (.slice a l cap)) 29))
  go_enter Try.func7, Try.ntmps7
  go_wp2_with (go_at_call 18; refine (hf _).mono ?_; clear hf; rintro e w1 ⟨rfl, b1⟩; have H1 := Hid.mk (chain HB.out b1 (Nat.le_refl _)); clear b1)
  go_ret2
  exact ⟨rfl, H1.out⟩
set_option maxHeartbeats 4000000 in
set_option maxRecDepth 100000 in
theorem rtell_gl (op : Int) (r : Rp) (L : List Ht) (a : Option Addr) (cap : Nat) (w : World) (hL : HsAt w a L) (hl : L.length < 4611686018427387904) (hG : glE L ≠ 0)
    (hf : ∀ W, Calls Try.prog 18 #[.int .i64 op, .agg (rpC r (.slice a L.length cap))] W fun e w' => e = .returned (.int .i64 0) ∧ Below W.heap.size W w') :
    Calls Try.prog 7 #[.int .i64 op, .agg (rpC r (.slice a L.length cap))] w fun e w' => e = .returned (.tuple #[.string eB, .int .i64 (glE L)]) ∧ Below w.heap.size w w' := by
  have bB : Below w.heap.size w (w.alloc (.cells (rpC r (.slice a L.length cap)) 29)) := (Below.refl _ w).alloc (Nat.le_refl _) _
  have h0 := HC.new w (rpC r (.slice a L.length cap)) 29
  have hg := fun W (h : HsAt W a L) => rgoes_any L a cap W h hl
  obtain ⟨n, hn⟩ : ∃ n, n = L.length := ⟨_, rfl⟩
  obtain ⟨E, hE⟩ : ∃ E, E = glE L := ⟨_, rfl⟩
  simp only [← hn, ← hE] at bB h0 hg hf hG ⊢
  have HB := Hid.mk (And.intro bB (And.intro h0 hL))
  have HG := Hid.mk hg
  clear bB h0 hL hg hl hn hE
  go_enter Try.func7, Try.ntmps7
  go_wp2_with (first
    | (go_at_call 18; refine (hf _).mono ?_; clear hf; rintro e w1 ⟨rfl, b1⟩; have k1 := HC.below HB.out.2.1 b1; have y3 : w1.cell? ⟨w.heap.size, 3, none⟩ = some (.slice a n cap) := k1.cell rfl; have H1 := Hid.mk (And.intro (chain HB.out.1 b1 (Nat.le_refl _)) (HB.out.2.2.below (chain HB.out.1 b1 (Nat.le_refl _)))); clear b1 k1)
    | (go_at_call 19; refine (HG.out _ H1.out.2).mono ?_; rintro e w2 ⟨rfl, b2⟩; have H2 := Hid.mk (chain H1.out.1 b2 (Nat.le_refl _)); clear b2))
  go_ret2
  exact ⟨rfl, H2.out⟩
set_option maxHeartbeats 8000000 in
set_option maxRecDepth 100000 in
theorem rtell_code (m : Nat) (d : UInt8) (hd : d.toNat = m) (r : Rp) (L : List Ht) (a : Option Addr) (cap : Nat) (w : World) (hL : HsAt w a L) (hl : L.length ≤ 65536) (hV : ∀ h ∈ L, VHt h) (hm : m ≤ 9) (he : 0 ≤ r.e ∧ r.e ≤ 999) (hrn : 0 ≤ r.n ∧ r.n ≤ 9223372036854775807) (hrt : r.t.size ≤ 65536) (hG : glE L = 0) (b1 b2 b3 : Bool) (hc : ¬ r.e = 0)
    (hf : ∀ W, Calls Try.prog 18 #[.int .i64 m, .agg (rpC r (.slice a L.length cap))] W fun e w' => e = .returned (.int .i64 0) ∧ Below W.heap.size W w')
    (hT : ∀ W, Calls Try.prog 21 #[.int .i64 m] W fun e w' => e = .returned (.tuple #[.bool b1, .bool b2, .bool b3]) ∧ w' = W) :
    Calls Try.prog 7 #[.int .i64 m, .agg (rpC r (.slice a L.length cap))] w fun e w' => e = .returned (.tuple #[.string ⟨([82, d] ++ wrN r.e).toArray⟩, .int .i64 0]) ∧ Below w.heap.size w w' := by
  have bB : Below w.heap.size w (w.alloc (.cells (rpC r (.slice a L.length cap)) 29)) := (Below.refl _ w).alloc (Nat.le_refl _) _
  have h0 := HC.new w (rpC r (.slice a L.length cap)) 29
  have hg := fun W (h : HsAt W a L) => rgoes_any L a cap W h (by omega)
  rw [hG] at hg
  have hN1 := fun W => rnum_z r.e W he.1 (by omega)
  have hW8 : IntKind.u8.wrap (m : Int) = (d.toNat : Int) := by rw [IntKind.wrap_u8, hd]; omega
  have q1 : (wrN r.e).length ≤ 10 := (pvL_len 9 _).2
  obtain ⟨n, hn⟩ : ∃ n, n = L.length := ⟨_, rfl⟩
  simp only [← hn] at bB h0 hg hf hl ⊢
  have hn16 : n ≤ 65536 := hl
  have HS := Hid.mk (fun W (h : HC W w.heap.size (rpC r (.slice a n cap)) 29) (o : Below w.heap.size w W) => RB.start r (.slice a n cap) d h o)
  have HB := Hid.mk (And.intro bB (And.intro h0 hL))
  have HG := Hid.mk hg
  have HV := Hid.mk (And.intro hV hn)
  have HQ := Hid.mk (And.intro q1 trivial)
  clear bB h0 hL hg hl hn hG hV hd hm he hrn hrt q1 
  go_enter Try.func7, Try.ntmps7
  go_wp2_with (first
    | (go_at_call 18; refine (hf _).mono ?_; clear hf; rintro e w1 ⟨rfl, b1⟩; have k1 := HC.below HB.out.2.1 b1; have y3 : w1.cell? ⟨w.heap.size, 3, none⟩ = some (.slice a n cap) := k1.cell rfl; have H1 := Hid.mk (And.intro (chain HB.out.1 b1 (Nat.le_refl _)) (And.intro k1 (HB.out.2.2.below (chain HB.out.1 b1 (Nat.le_refl _))))); clear b1 k1)
    | (go_at_call 19; refine (HG.out _ H1.out.2.2).mono ?_; clear HG; rintro e w2 ⟨rfl, b2⟩; have k2 := HC.below H1.out.2.1 b2; have HR := Hid.mk (HS.out w2 k2 (chain H1.out.1 b2 (Nat.le_refl _))); obtain ⟨y0, y1, y2, y3'⟩ := HR.out.cells; clear b2 k2)
    | (go_at_call 20; refine (hN1 _).mono ?_; clear hN1; rintro e w3 ⟨rfl, b3⟩; obtain ⟨v4, w4, hap, HR2, -⟩ := (HR.out.below b3).app (wrN r.e) (by have := HQ.out.1; simp only [List.length_cons, List.length_nil]; omega); obtain ⟨z0, z1, z2, z3⟩ := HR2.cells; have hcv := conv_own _ HR2.row; replace HR := Hid.mk HR2; clear HR2 b3)
    | (at_builtin; refine wpList_append_eq rfl _ _ 54 9 rfl _ _ _ _ rfl rfl hap ?_; clear hap)
    | fail)
  go_ret2
  exact ⟨rfl, HR.out.old⟩
set_option maxHeartbeats 8000000 in
set_option maxRecDepth 100000 in
theorem rtell_O (m : Nat) (d : UInt8) (hd : d.toNat = m) (rn : Int) (rt : ByteArray) (L : List Ht) (a : Option Addr) (cap : Nat) (w : World) (hL : HsAt w a L) (hl : L.length ≤ 65536) (hV : ∀ h ∈ L, VHt h) (hm : m ≤ 9) (he : 0 ≤ (0 : Int) ∧ (0 : Int) ≤ 999) (hrn : 0 ≤ rn ∧ rn ≤ 9223372036854775807) (hrt : rt.size ≤ 65536) (hG : glE L = 0) (hL0 : L.length = 0)
    (hf : ∀ W, Calls Try.prog 18 #[.int .i64 m, .agg (rpC ⟨0, rn, rt⟩ (.slice a L.length cap))] W fun e w' => e = .returned (.int .i64 0) ∧ Below W.heap.size W w')
    (hT : ∀ W, Calls Try.prog 21 #[.int .i64 m] W fun e w' => e = .returned (.tuple #[.bool false, .bool false, .bool false]) ∧ w' = W) :
    Calls Try.prog 7 #[.int .i64 m, .agg (rpC ⟨0, rn, rt⟩ (.slice a L.length cap))] w fun e w' => e = .returned (.tuple #[.string ⟨([82, d] ++ wrN 0).toArray⟩, .int .i64 0]) ∧ Below w.heap.size w w' := by
  have bB : Below w.heap.size w (w.alloc (.cells (rpC ⟨0, rn, rt⟩ (.slice a L.length cap)) 29)) := (Below.refl _ w).alloc (Nat.le_refl _) _
  have h0 := HC.new w (rpC ⟨0, rn, rt⟩ (.slice a L.length cap)) 29
  have hg := fun W (h : HsAt W a L) => rgoes_any L a cap W h (by omega)
  rw [hG] at hg
  have hN1 := fun W => rnum_z (0 : Int) W he.1 (by omega)
  have hW8 : IntKind.u8.wrap (m : Int) = (d.toNat : Int) := by rw [IntKind.wrap_u8, hd]; omega
  have q1 : (wrN (0 : Int)).length ≤ 10 := (pvL_len 9 _).2
  obtain ⟨n, hn⟩ : ∃ n, n = L.length := ⟨_, rfl⟩
  simp only [← hn] at bB h0 hg hf hl ⊢
  have hn16 : n ≤ 65536 := hl
  have hn0 : n = 0 := by omega
  subst hn0
  have HS := Hid.mk (fun W (h : HC W w.heap.size (rpC ⟨0, rn, rt⟩ (.slice a 0 cap)) 29) (o : Below w.heap.size w W) => RB.start ⟨0, rn, rt⟩ (.slice a 0 cap) d h o)
  have HB := Hid.mk (And.intro bB (And.intro h0 hL))
  have HG := Hid.mk hg
  have HV := Hid.mk (And.intro hV hn)
  have HQ := Hid.mk (And.intro q1 trivial)
  clear bB h0 hL hg hl hn hG hV hd hm he hrn hrt q1 hL0
  go_enter Try.func7, Try.ntmps7
  go_wp2_with (first
    | (go_at_call 18; refine (hf _).mono ?_; clear hf; rintro e w1 ⟨rfl, b1⟩; have k1 := HC.below HB.out.2.1 b1; have y3 : w1.cell? ⟨w.heap.size, 3, none⟩ = some (.slice a 0 cap) := k1.cell rfl; have H1 := Hid.mk (And.intro (chain HB.out.1 b1 (Nat.le_refl _)) (And.intro k1 (HB.out.2.2.below (chain HB.out.1 b1 (Nat.le_refl _))))); clear b1 k1)
    | (go_at_call 19; refine (HG.out _ H1.out.2.2).mono ?_; clear HG; rintro e w2 ⟨rfl, b2⟩; have k2 := HC.below H1.out.2.1 b2; have HR := Hid.mk (HS.out w2 k2 (chain H1.out.1 b2 (Nat.le_refl _))); obtain ⟨y0, y1, y2, y3'⟩ := HR.out.cells; clear b2 k2)
    | (go_at_call 20; refine (hN1 _).mono ?_; clear hN1; rintro e w3 ⟨rfl, b3⟩; obtain ⟨v4, w4, hap, HR2, -⟩ := (HR.out.below b3).app (wrN (0 : Int)) (by have := HQ.out.1; simp only [List.length_cons, List.length_nil]; omega); obtain ⟨z0, z1, z2, z3⟩ := HR2.cells; have hcv := conv_own _ HR2.row; replace HR := Hid.mk HR2; clear HR2 b3)
    | (at_builtin; refine wpList_append_eq rfl _ _ 54 9 rfl _ _ _ _ rfl rfl hap ?_; clear hap)
    | (go_at_call 21; refine (hT _).mono ?_; clear hT; rintro e w5 ⟨rfl, rfl⟩)
    | fail)
  go_loopw [7, 11] (fun v u wr => v = v4 ∧ u = .int .i64 0 ∧ wr = w5) (fun _ u _ => 0)
  case atStart => exact ⟨rfl, rfl, rfl⟩
  case round =>
    obtain ⟨rfl, rfl, rfl⟩ := hrel
    go_wp2
    go_ret2
    exact ⟨rfl, HR.out.old⟩
set_option maxHeartbeats 8000000 in
set_option maxRecDepth 100000 in
theorem rtell_T (m : Nat) (d : UInt8) (hd : d.toNat = m) (rn : Int) (rt : ByteArray) (L : List Ht) (a : Option Addr) (cap : Nat) (w : World) (hL : HsAt w a L) (hl : L.length ≤ 65536) (hV : ∀ h ∈ L, VHt h) (hm : m ≤ 9) (he : 0 ≤ (0 : Int) ∧ (0 : Int) ≤ 999) (hrn : 0 ≤ rn ∧ rn ≤ 9223372036854775807) (hrt : rt.size ≤ 65536) (hG : glE L = 0) (hL0 : L.length = 0)
    (hf : ∀ W, Calls Try.prog 18 #[.int .i64 m, .agg (rpC ⟨0, rn, rt⟩ (.slice a L.length cap))] W fun e w' => e = .returned (.int .i64 0) ∧ Below W.heap.size W w')
    (hT : ∀ W, Calls Try.prog 21 #[.int .i64 m] W fun e w' => e = .returned (.tuple #[.bool true, .bool false, .bool false]) ∧ w' = W) :
    Calls Try.prog 7 #[.int .i64 m, .agg (rpC ⟨0, rn, rt⟩ (.slice a L.length cap))] w fun e w' => e = .returned (.tuple #[.string ⟨([82, d] ++ wrN 0 ++ wrT rt).toArray⟩, .int .i64 0]) ∧ Below w.heap.size w w' := by
  have bB : Below w.heap.size w (w.alloc (.cells (rpC ⟨0, rn, rt⟩ (.slice a L.length cap)) 29)) := (Below.refl _ w).alloc (Nat.le_refl _) _
  have h0 := HC.new w (rpC ⟨0, rn, rt⟩ (.slice a L.length cap)) 29
  have hg := fun W (h : HsAt W a L) => rgoes_any L a cap W h (by omega)
  rw [hG] at hg
  have hN1 := fun W => rnum_z (0 : Int) W he.1 (by omega)
  have hW8 : IntKind.u8.wrap (m : Int) = (d.toNat : Int) := by rw [IntKind.wrap_u8, hd]; omega
  have q1 : (wrN (0 : Int)).length ≤ 10 := (pvL_len 9 _).2
  have hX := fun W => rtxt_any rt W hrt
  have q2 : (wrT rt).length ≤ 65546 := by have := (pvL_len 9 rt.size).2; rw [List.length_append, nm_size]; omega
  obtain ⟨n, hn⟩ : ∃ n, n = L.length := ⟨_, rfl⟩
  simp only [← hn] at bB h0 hg hf hl ⊢
  have hn16 : n ≤ 65536 := hl
  have hn0 : n = 0 := by omega
  subst hn0
  have HS := Hid.mk (fun W (h : HC W w.heap.size (rpC ⟨0, rn, rt⟩ (.slice a 0 cap)) 29) (o : Below w.heap.size w W) => RB.start ⟨0, rn, rt⟩ (.slice a 0 cap) d h o)
  have HB := Hid.mk (And.intro bB (And.intro h0 hL))
  have HG := Hid.mk hg
  have HV := Hid.mk (And.intro hV hn)
  have HQ := Hid.mk (And.intro q1 q2)
  clear bB h0 hL hg hl hn hG hV hd hm he hrn hrt q1 hL0 q2
  go_enter Try.func7, Try.ntmps7
  go_wp2_with (first
    | (go_at_call 18; refine (hf _).mono ?_; clear hf; rintro e w1 ⟨rfl, b1⟩; have k1 := HC.below HB.out.2.1 b1; have y3 : w1.cell? ⟨w.heap.size, 3, none⟩ = some (.slice a 0 cap) := k1.cell rfl; have H1 := Hid.mk (And.intro (chain HB.out.1 b1 (Nat.le_refl _)) (And.intro k1 (HB.out.2.2.below (chain HB.out.1 b1 (Nat.le_refl _))))); clear b1 k1)
    | (go_at_call 19; refine (HG.out _ H1.out.2.2).mono ?_; clear HG; rintro e w2 ⟨rfl, b2⟩; have k2 := HC.below H1.out.2.1 b2; have HR := Hid.mk (HS.out w2 k2 (chain H1.out.1 b2 (Nat.le_refl _))); obtain ⟨y0, y1, y2, y3'⟩ := HR.out.cells; clear b2 k2)
    | (go_at_call 20; refine (hN1 _).mono ?_; clear hN1; rintro e w3 ⟨rfl, b3⟩; obtain ⟨v4, w4, hap, HR2, -⟩ := (HR.out.below b3).app (wrN (0 : Int)) (by have := HQ.out.1; simp only [List.length_cons, List.length_nil]; omega); obtain ⟨z0, z1, z2, z3⟩ := HR2.cells; have hcv := conv_own _ HR2.row; replace HR := Hid.mk HR2; clear HR2 b3)
    | (at_builtin; refine wpList_append_eq rfl _ _ 54 9 rfl _ _ _ _ rfl rfl hap ?_; clear hap)
    | (go_at_call 21; refine (hT _).mono ?_; clear hT; rintro e w5 ⟨rfl, rfl⟩)
    | (go_at_call 22; refine (hX _).mono ?_; clear hX; rintro e w6 ⟨rfl, b6⟩; obtain ⟨v7, w7, hap, HR2, -⟩ := (HR.out.below b6).app (wrT rt) (by have h1 := HQ.out.1; have h2 := HQ.out.2; simp only [List.length_append, List.length_cons, List.length_nil] at h1 h2 ⊢; omega); obtain ⟨u0, u1, u2, u3⟩ := HR2.cells; replace hcv := conv_own _ HR2.row; replace HR := Hid.mk HR2; clear HR2 b6 z0 z1 z2 z3)
    | fail)
  go_loopw [7, 11] (fun v u wr => v = v7 ∧ u = .int .i64 0 ∧ wr = w7) (fun _ u _ => 0)
  case atStart => exact ⟨rfl, rfl, rfl⟩
  case round =>
    obtain ⟨rfl, rfl, rfl⟩ := hrel
    go_wp2
    go_ret2
    exact ⟨rfl, HR.out.old⟩
set_option maxHeartbeats 8000000 in
set_option maxRecDepth 100000 in
theorem rtell_N (m : Nat) (d : UInt8) (hd : d.toNat = m) (rn : Int) (rt : ByteArray) (L : List Ht) (a : Option Addr) (cap : Nat) (w : World) (hL : HsAt w a L) (hl : L.length ≤ 65536) (hV : ∀ h ∈ L, VHt h) (hm : m ≤ 9) (he : 0 ≤ (0 : Int) ∧ (0 : Int) ≤ 999) (hrn : 0 ≤ rn ∧ rn ≤ 9223372036854775807) (hrt : rt.size ≤ 65536) (hG : glE L = 0) (hL0 : L.length = 0)
    (hf : ∀ W, Calls Try.prog 18 #[.int .i64 m, .agg (rpC ⟨0, rn, rt⟩ (.slice a L.length cap))] W fun e w' => e = .returned (.int .i64 0) ∧ Below W.heap.size W w')
    (hT : ∀ W, Calls Try.prog 21 #[.int .i64 m] W fun e w' => e = .returned (.tuple #[.bool false, .bool true, .bool false]) ∧ w' = W) :
    Calls Try.prog 7 #[.int .i64 m, .agg (rpC ⟨0, rn, rt⟩ (.slice a L.length cap))] w fun e w' => e = .returned (.tuple #[.string ⟨([82, d] ++ wrN 0 ++ wrN rn).toArray⟩, .int .i64 0]) ∧ Below w.heap.size w w' := by
  have bB : Below w.heap.size w (w.alloc (.cells (rpC ⟨0, rn, rt⟩ (.slice a L.length cap)) 29)) := (Below.refl _ w).alloc (Nat.le_refl _) _
  have h0 := HC.new w (rpC ⟨0, rn, rt⟩ (.slice a L.length cap)) 29
  have hg := fun W (h : HsAt W a L) => rgoes_any L a cap W h (by omega)
  rw [hG] at hg
  have hN1 := fun W => rnum_z (0 : Int) W he.1 (by omega)
  have hW8 : IntKind.u8.wrap (m : Int) = (d.toNat : Int) := by rw [IntKind.wrap_u8, hd]; omega
  have q1 : (wrN (0 : Int)).length ≤ 10 := (pvL_len 9 _).2
  have hX := fun W => rnum_z rn W hrn.1 hrn.2
  have q2 : (wrN rn).length ≤ 10 := (pvL_len 9 _).2
  obtain ⟨n, hn⟩ : ∃ n, n = L.length := ⟨_, rfl⟩
  simp only [← hn] at bB h0 hg hf hl ⊢
  have hn16 : n ≤ 65536 := hl
  have hn0 : n = 0 := by omega
  subst hn0
  have HS := Hid.mk (fun W (h : HC W w.heap.size (rpC ⟨0, rn, rt⟩ (.slice a 0 cap)) 29) (o : Below w.heap.size w W) => RB.start ⟨0, rn, rt⟩ (.slice a 0 cap) d h o)
  have HB := Hid.mk (And.intro bB (And.intro h0 hL))
  have HG := Hid.mk hg
  have HV := Hid.mk (And.intro hV hn)
  have HQ := Hid.mk (And.intro q1 q2)
  clear bB h0 hL hg hl hn hG hV hd hm he hrn hrt q1 hL0 q2
  go_enter Try.func7, Try.ntmps7
  go_wp2_with (first
    | (go_at_call 18; refine (hf _).mono ?_; clear hf; rintro e w1 ⟨rfl, b1⟩; have k1 := HC.below HB.out.2.1 b1; have y3 : w1.cell? ⟨w.heap.size, 3, none⟩ = some (.slice a 0 cap) := k1.cell rfl; have H1 := Hid.mk (And.intro (chain HB.out.1 b1 (Nat.le_refl _)) (And.intro k1 (HB.out.2.2.below (chain HB.out.1 b1 (Nat.le_refl _))))); clear b1 k1)
    | (go_at_call 19; refine (HG.out _ H1.out.2.2).mono ?_; clear HG; rintro e w2 ⟨rfl, b2⟩; have k2 := HC.below H1.out.2.1 b2; have HR := Hid.mk (HS.out w2 k2 (chain H1.out.1 b2 (Nat.le_refl _))); obtain ⟨y0, y1, y2, y3'⟩ := HR.out.cells; clear b2 k2)
    | (go_at_call 20; refine (hN1 _).mono ?_; clear hN1; rintro e w3 ⟨rfl, b3⟩; obtain ⟨v4, w4, hap, HR2, -⟩ := (HR.out.below b3).app (wrN (0 : Int)) (by have := HQ.out.1; simp only [List.length_cons, List.length_nil]; omega); obtain ⟨z0, z1, z2, z3⟩ := HR2.cells; have hcv := conv_own _ HR2.row; replace HR := Hid.mk HR2; clear HR2 b3)
    | (at_builtin; refine wpList_append_eq rfl _ _ 54 9 rfl _ _ _ _ rfl rfl hap ?_; clear hap)
    | (go_at_call 21; refine (hT _).mono ?_; clear hT; rintro e w5 ⟨rfl, rfl⟩)
    | (go_at_call 20; refine (hX _).mono ?_; clear hX; rintro e w6 ⟨rfl, b6⟩; obtain ⟨v7, w7, hap, HR2, -⟩ := (HR.out.below b6).app (wrN rn) (by have h1 := HQ.out.1; have h2 := HQ.out.2; simp only [List.length_append, List.length_cons, List.length_nil] at h1 h2 ⊢; omega); obtain ⟨u0, u1, u2, u3⟩ := HR2.cells; replace hcv := conv_own _ HR2.row; replace HR := Hid.mk HR2; clear HR2 b6 z0 z1 z2 z3)
    | fail)
  go_loopw [7, 11] (fun v u wr => v = v7 ∧ u = .int .i64 0 ∧ wr = w7) (fun _ u _ => 0)
  case atStart => exact ⟨rfl, rfl, rfl⟩
  case round =>
    obtain ⟨rfl, rfl, rfl⟩ := hrel
    go_wp2
    go_ret2
    exact ⟨rfl, HR.out.old⟩
/-- What is kept while the hits are written. -/
def TR (w : World) (rn : Int) (rt : ByteArray) (a : Option Addr) (n cap : Nat) (L : List Ht) (P : List UInt8) (v : Value) (u : Value) (wr : World) : Prop := ∃ j : Nat, u = .int .i64 j ∧ j ≤ n ∧ Hid (RB w wr ⟨0, rn, rt⟩ (.slice a n cap) v (P ++ (L.take j).flatMap wrHt))
set_option maxHeartbeats 8000000 in
set_option maxRecDepth 100000 in
theorem rtell_H (m : Nat) (d : UInt8) (hd : d.toNat = m) (rn : Int) (rt : ByteArray) (L : List Ht) (a : Option Addr) (cap : Nat) (w : World) (hL : HsAt w a L) (hl : L.length ≤ 65536) (hV : ∀ h ∈ L, VHt h) (hm : m ≤ 9) (he : 0 ≤ (0 : Int) ∧ (0 : Int) ≤ 999) (hrn : 0 ≤ rn ∧ rn ≤ 9223372036854775807) (hrt : rt.size ≤ 65536) (hG : glE L = 0) 
    (hf : ∀ W, Calls Try.prog 18 #[.int .i64 m, .agg (rpC ⟨0, rn, rt⟩ (.slice a L.length cap))] W fun e w' => e = .returned (.int .i64 0) ∧ Below W.heap.size W w')
    (hT : ∀ W, Calls Try.prog 21 #[.int .i64 m] W fun e w' => e = .returned (.tuple #[.bool false, .bool false, .bool true]) ∧ w' = W) :
    Calls Try.prog 7 #[.int .i64 m, .agg (rpC ⟨0, rn, rt⟩ (.slice a L.length cap))] w fun e w' => e = .returned (.tuple #[.string ⟨([82, d] ++ wrN 0 ++ (pvL 9 L.length ++ L.flatMap wrHt)).toArray⟩, .int .i64 0]) ∧ Below w.heap.size w w' := by
  have bB : Below w.heap.size w (w.alloc (.cells (rpC ⟨0, rn, rt⟩ (.slice a L.length cap)) 29)) := (Below.refl _ w).alloc (Nat.le_refl _) _
  have h0 := HC.new w (rpC ⟨0, rn, rt⟩ (.slice a L.length cap)) 29
  have hg := fun W (h : HsAt W a L) => rgoes_any L a cap W h (by omega)
  rw [hG] at hg
  have hN1 := fun W => rnum_z (0 : Int) W he.1 (by omega)
  have hW8 : IntKind.u8.wrap (m : Int) = (d.toNat : Int) := by rw [IntKind.wrap_u8, hd]; omega
  have q1 : (wrN (0 : Int)).length ≤ 10 := (pvL_len 9 _).2
  have hX := fun W => rnum_any L.length W (by omega)
  have q2 : (pvL 9 L.length).length ≤ 10 := (pvL_len 9 _).2
  obtain ⟨n, hn⟩ : ∃ n, n = L.length := ⟨_, rfl⟩
  simp only [← hn] at bB h0 hg hf hl hX q2 ⊢
  have hn16 : n ≤ 65536 := hl
  have HS := Hid.mk (fun W (h : HC W w.heap.size (rpC ⟨0, rn, rt⟩ (.slice a n cap)) 29) (o : Below w.heap.size w W) => RB.start ⟨0, rn, rt⟩ (.slice a n cap) d h o)
  have HB := Hid.mk (And.intro bB (And.intro h0 hL))
  have HG := Hid.mk hg
  have HV := Hid.mk (And.intro hV hn)
  have HQ := Hid.mk (And.intro q1 q2)
  clear bB h0 hL hg hl hn hG hV hd hm he hrn hrt q1 q2
  go_enter Try.func7, Try.ntmps7
  go_wp2_with (first
    | (go_at_call 18; refine (hf _).mono ?_; clear hf; rintro e w1 ⟨rfl, b1⟩; have k1 := HC.below HB.out.2.1 b1; have y3 : w1.cell? ⟨w.heap.size, 3, none⟩ = some (.slice a n cap) := k1.cell rfl; have H1 := Hid.mk (And.intro (chain HB.out.1 b1 (Nat.le_refl _)) (And.intro k1 (HB.out.2.2.below (chain HB.out.1 b1 (Nat.le_refl _))))); clear b1 k1)
    | (go_at_call 19; refine (HG.out _ H1.out.2.2).mono ?_; clear HG; rintro e w2 ⟨rfl, b2⟩; have k2 := HC.below H1.out.2.1 b2; have HR := Hid.mk (HS.out w2 k2 (chain H1.out.1 b2 (Nat.le_refl _))); obtain ⟨y0, y1, y2, y3'⟩ := HR.out.cells; clear b2 k2)
    | (go_at_call 20; refine (hN1 _).mono ?_; clear hN1; rintro e w3 ⟨rfl, b3⟩; obtain ⟨v4, w4, hap, HR2, -⟩ := (HR.out.below b3).app (wrN (0 : Int)) (by have := HQ.out.1; simp only [List.length_cons, List.length_nil]; omega); obtain ⟨z0, z1, z2, z3⟩ := HR2.cells; have hcv := conv_own _ HR2.row; replace HR := Hid.mk HR2; clear HR2 b3)
    | (at_builtin; refine wpList_append_eq rfl _ _ 54 9 rfl _ _ _ _ rfl rfl hap ?_; clear hap)
    | (go_at_call 21; refine (hT _).mono ?_; clear hT; rintro e w5 ⟨rfl, rfl⟩)
    | (go_at_call 20; refine (hX _).mono ?_; clear hX; rintro e w6 ⟨rfl, b6⟩; obtain ⟨v7, w7, hap, HR2, -⟩ := (HR.out.below b6).app (pvL 9 n) (by have h1 := HQ.out.1; have h2 := HQ.out.2; simp only [List.length_append, List.length_cons, List.length_nil] at h1 h2 ⊢; omega); obtain ⟨u0, u1, u2, u3⟩ := HR2.cells; replace hcv := conv_own _ HR2.row; replace HR := Hid.mk HR2; clear HR2 b6 z0 z1 z2 z3)
    | fail)
  obtain ⟨P, hP⟩ : ∃ P, P = [82, d] ++ wrN 0 ++ pvL 9 n := ⟨_, rfl⟩
  have hPl : P.length ≤ 22 := by rw [hP]; have := HQ.out.1; have := HQ.out.2; simp only [List.length_append, List.length_cons, List.length_nil]; omega
  rw [← hP] at HR
  have HP := Hid.mk hP
  have HL := HB.out.2.2
  have HLL := Hid.mk HL
  clear hcv HL hP u0 u1 u2 u3
  go_loopw [7, 11] (fun s u wr => ∃ v, s = v ∧ TR w rn rt a n cap L P v u wr) (fun _ u _ => n - (intOf u).toNat)
  case atStart => exact ⟨_, rfl, 0, rfl, Nat.zero_le _, Hid.mk (by simpa using HR.out)⟩
  case round =>
    obtain ⟨v0, hv0, j, rfl, hjn, HI⟩ := hrel
    have hv1 := hv0.symm
    clear hv0
    subst hv1
    clear HR
    obtain ⟨u0, u1, u2, u3⟩ := HI.out.cells
    by_cases hlt : j < n
    · have hlt' : (j : Int) < (n : Int) := by omega
      have hjl : j < L.length := by have := HV.out.2; omega
      have hvh := HV.out.1 L[j] (List.getElem_mem hjl)
      rcases HLL.out with hat | ⟨g, off, hag, hgl, hcell⟩
      · rw [hat] at hjl; simp at hjl
      obtain ⟨p0, p1, p2⟩ := hcell j hjl
      have q0 := cell_below HI.out.old p0
      have q1 := cell_below HI.out.old p1
      have q2 := cell_below HI.out.old p2
      have hX2 := fun W => rnum_z L[j].d W (by have := of_decide_eq_false hvh.d0; omega) hvh.d1
      have hX3 := fun W => rnum_z L[j].i W (by have := of_decide_eq_false hvh.i0; omega) hvh.i1
      have hX4 := fun W => rtxt_any L[j].c W hvh.c0
      have l1 : (wrN L[j].d).length ≤ 10 := (pvL_len 9 _).2
      have l2 : (wrN L[j].i).length ≤ 10 := (pvL_len 9 _).2
      have l3 : (wrT L[j].c).length ≤ 65546 := by have := (pvL_len 9 L[j].c.size).2; have := hvh.c0; rw [List.length_append, nm_size]; omega
      have l4 := fm_len L j (by omega) (by have := HV.out.2; omega) HV.out.1
      have HX := Hid.mk (fm_next L j hjl)
      obtain ⟨ht, hht⟩ : ∃ ht, ht = L[j] := ⟨_, rfl⟩
      simp only [← hht] at q0 q1 q2 hX2 hX3 hX4 l1 l2 l3 HX
      obtain ⟨xd, xi, xc⟩ := ht
      simp only at q0 q1 q2 hX2 hX3 hX4 l1 l2 l3 HX
      obtain ⟨F, hF⟩ : ∃ F, F = (L.take j).flatMap wrHt := ⟨_, rfl⟩
      rw [← hF] at HI l4 HX
      have HL4 := Hid.mk (And.intro l1 (And.intro l2 (And.intro l3 (And.intro l4 hPl))))
      have kb : RB w (wr.alloc (.cells #[.int .i64 xd, .int .i64 xi, .string xc] 25)) ⟨0, rn, rt⟩ (.slice a n cap) v0 (P ++ F) := HI.out.below ((Below.refl _ wr).alloc (Nat.le_refl _) _)
      have kc := HC.new wr #[.int .i64 xd, .int .i64 xi, .string xc] 25
      obtain ⟨V, hV⟩ : ∃ V, V = wr.alloc (.cells #[.int .i64 xd, .int .i64 xi, .string xc] 25) := ⟨_, rfl⟩
      have hV5 := hV.symm
      rw [← hV] at kb kc
      have HR := Hid.mk kb
      have HC0 := Hid.mk kc
      have e00 := kc.cell (o := 0) rfl
      have e01 := kc.cell (o := 1) rfl
      have e02 := kc.cell (o := 2) rfl
      have wj : IntKind.i64.wrap ((j : Int) + 1) = ((j + 1 : Nat) : Int) := i64_in _ (by omega) (by omega)
      subst hag
      clear p0 p1 p2 hcell hgl hht hvh hjl hF l1 l2 l3 l4 kb kc hV HI hPl hlt
      go_wp2_with (first
          | (go_at_call 20; (try rw [hV5]); refine (hX2 _).mono ?_; clear hX2; rintro e x2 ⟨rfl, b2⟩; obtain ⟨v2, w2, hap, HR2, st2⟩ := (HR.out.below b2).app (wrN xd) (by have h1 := HL4.out; simp only [List.length_append] at h1 ⊢; omega); have kk := box_app (HR.out.below b2).row st2 (HC.below HC0.out b2) (by decide); have e20 := kk.cell (o := 0) rfl; have e21 := kk.cell (o := 1) rfl; have e22 := kk.cell (o := 2) rfl; replace HR := Hid.mk HR2; replace HC0 := Hid.mk kk; clear HR2 b2 kk st2)
          | (go_at_call 20; refine (hX3 _).mono ?_; clear hX3; rintro e x3 ⟨rfl, b2⟩; obtain ⟨v3, w3, hap, HR2, st2⟩ := (HR.out.below b2).app (wrN xi) (by have h1 := HL4.out; simp only [List.length_append] at h1 ⊢; omega); have kk := box_app (HR.out.below b2).row st2 (HC.below HC0.out b2) (by decide); have e30 := kk.cell (o := 0) rfl; have e31 := kk.cell (o := 1) rfl; have e32 := kk.cell (o := 2) rfl; replace HR := Hid.mk HR2; replace HC0 := Hid.mk kk; clear HR2 b2 kk st2)
          | (go_at_call 22; refine (hX4 _).mono ?_; clear hX4; rintro e x4 ⟨rfl, b2⟩; obtain ⟨v4, w4, hap, HR2, st2⟩ := (HR.out.below b2).app (wrT xc) (by have h1 := HL4.out; simp only [List.length_append] at h1 ⊢; omega); have kk := box_app (HR.out.below b2).row st2 (HC.below HC0.out b2) (by decide); have e40 := kk.cell (o := 0) rfl; have e41 := kk.cell (o := 1) rfl; have e42 := kk.cell (o := 2) rfl; replace HR := Hid.mk HR2; replace HC0 := Hid.mk kk; clear HR2 b2 kk st2)
          | (at_builtin; refine wpList_append_eq rfl _ _ 54 9 rfl _ _ _ _ rfl rfl hap ?_; clear hap)
          | fail)
      exact ⟨⟨_, rfl, j + 1, rfl, by omega, Hid.mk (by rw [HX.out]; simpa using HR.out)⟩, by simp only [intOf]; omega⟩
    · have hlt' : ¬ (j : Int) < (n : Int) := by omega
      have hcv := conv_own _ HI.out.row
      have HE : Hid (P ++ (L.take j).flatMap wrHt = [82, d] ++ wrN 0 ++ (pvL 9 n ++ L.flatMap wrHt)) := by
        show _ = _
        rw [List.take_of_length_le (by rw [← HV.out.2]; omega), HP.out]; simp
      clear hlt hjn
      go_wp2
      go_ret2
      exact ⟨by rw [HE.out]; rfl, HI.out.old⟩
theorem rtell_any (op : Int) (r : Rp) (L : List Ht) (a : Option Addr) (cap : Nat) (hrn : r.n ≤ 9223372036854775807) (hHW : HtsW L) (hn : L.length < 4611686018427387904) (w : World) (hL : HsAt w a L) :
    Calls Try.prog 7 #[.int .i64 op, .agg (rpC r (.slice a L.length cap))] w fun e w' => e = .returned (.tuple #[.string ⟨(tellA op r L).1.toArray⟩, .int .i64 (tellA op r L).2]) ∧ Below w.heap.size w w' := by
  by_cases h : 1 ≤ op ∧ op ≤ 9
  · obtain ⟨i, hi, hop⟩ : ∃ i : Nat, i < 9 ∧ op = (i + 1 : Nat) := ⟨op.toNat - 1, by omega, by omega⟩
    subst hop
    have hf := fun W => rfits_any i hi r a L.length cap W
    by_cases hz : ftE i r L.length = 0
    · obtain ⟨h1, h2, h3, h4⟩ := ft_zero hz
      obtain ⟨n1, n2, n3⟩ := ft_named hi h2
      rw [hz] at hf
      rw [tell_gl hi hz]
      by_cases hg : glE L = 0
      · rw [if_neg (fun k => k hg)]
        obtain ⟨hl, hV⟩ := gl_ok hg hHW
        have hT := fun W => tells_any i hi W
        have hd : (UInt8.ofNat (i + 1)).toNat = i + 1 := by rw [UInt8.toNat_ofNat']; omega
        by_cases he : r.e = 0
        · obtain ⟨e, rn, rt⟩ := r
          simp only at he hrn h1 h3 h4 n1 n2 n3
          subst he
          have hwr : wrR i ⟨0, rn, rt⟩ L = wrP i ⟨0, rn, rt⟩ L := by unfold wrR; rw [if_pos rfl]
          rw [hwr]
          have hc : i = 0 ∨ i = 1 ∨ i = 2 ∨ i = 3 ∨ i = 4 ∨ i = 5 ∨ i = 6 ∨ i = 7 ∨ i = 8 := by omega
          rcases hc with rfl | rfl | rfl | rfl | rfl | rfl | rfl | rfl | rfl
          · have := rtell_O _ _ hd rn rt L a cap w hL hl hV (by omega) ⟨by omega, by omega⟩ ⟨h3, hrn⟩ h4 hg (by simpa [tlP] using n3) hf hT
            simpa [wrP] using this
          · have := rtell_O _ _ hd rn rt L a cap w hL hl hV (by omega) ⟨by omega, by omega⟩ ⟨h3, hrn⟩ h4 hg (by simpa [tlP] using n3) hf hT
            simpa [wrP] using this
          · have := rtell_T _ _ hd rn rt L a cap w hL hl hV (by omega) ⟨by omega, by omega⟩ ⟨h3, hrn⟩ h4 hg (by simpa [tlP] using n3) hf hT
            simpa [wrP] using this
          · have := rtell_H _ _ hd rn rt L a cap w hL hl hV (by omega) ⟨by omega, by omega⟩ ⟨h3, hrn⟩ h4 hg hf hT
            simpa [wrP] using this
          · have := rtell_H _ _ hd rn rt L a cap w hL hl hV (by omega) ⟨by omega, by omega⟩ ⟨h3, hrn⟩ h4 hg hf hT
            simpa [wrP] using this
          · have := rtell_N _ _ hd rn rt L a cap w hL hl hV (by omega) ⟨by omega, by omega⟩ ⟨h3, hrn⟩ h4 hg (by simpa [tlP] using n3) hf hT
            simpa [wrP] using this
          · have := rtell_O _ _ hd rn rt L a cap w hL hl hV (by omega) ⟨by omega, by omega⟩ ⟨h3, hrn⟩ h4 hg (by simpa [tlP] using n3) hf hT
            simpa [wrP] using this
          · have := rtell_N _ _ hd rn rt L a cap w hL hl hV (by omega) ⟨by omega, by omega⟩ ⟨h3, hrn⟩ h4 hg (by simpa [tlP] using n3) hf hT
            simpa [wrP] using this
          · have := rtell_O _ _ hd rn rt L a cap w hL hl hV (by omega) ⟨by omega, by omega⟩ ⟨h3, hrn⟩ h4 hg (by simpa [tlP] using n3) hf hT
            simpa [wrP] using this
        · have hwr : wrR i r L = [] := by unfold wrR; rw [if_neg he]
          rw [hwr]
          have := rtell_code _ _ hd r L a cap w hL hl hV (by omega) h1 ⟨h3, hrn⟩ h4 hg _ _ _ he hf hT
          simpa using this
      · rw [if_pos hg]
        exact rtell_gl _ r L a cap w hL hn hg hf
    · rw [tell_ft hi hz]
      exact rtell_no _ r a L.length cap w _ hz hf
  · have : tellA op r L = ([], 35) := by unfold tellA; rw [if_neg h]
    rw [this]
    exact rtell_no op r a L.length cap w 35 (by decide) (fun W => rfits_kind op r _ ⟨_, _, _, rfl⟩ W h)
end Go.Proofs.Ytjdknijjkjmafaa
