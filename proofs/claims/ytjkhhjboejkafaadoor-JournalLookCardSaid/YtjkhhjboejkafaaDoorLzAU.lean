/-
  DERIVED. JLaw2, JRTold, RDk4, as one text.
-/
import Derived.Test.YtjkhhjboejkafaaDoorLzAN
import Derived.Test.YtjkhhjboejkafaaDoorLzAS
import Derived.Test.YtjkhhjboejkafaaDoorLzAT
set_option linter.unusedVariables false
set_option linter.unusedSimpArgs false
namespace Go.Proofs.YtjkhhjboejkafaaDoor
open Go.RowKit Go.Proofs.SealMath
theorem rvar_at (b : ByteArray) (p : Nat) (w : World) (hb : b.size < 4611686018427387904) (v q : Nat) (e : Int) (h : vA b p = (v, q, e)) :
    Calls Tryd.prog 67 #[.string b, .int .i64 p] w fun r w' => r = .returned (.tuple #[.int .u64 v, .int .i64 q, .int .i64 e]) ∧ w' = w := by
  have := rvar_any b p w hb
  rw [h] at this
  exact this
theorem fit_one {x : Int} {n : Nat} (h : isW x = true) : fitB 1 n x = ((n : Int) == x / 8) := by
  unfold fitB; rw [if_neg (by decide)]
  by_cases hn : (n : Int) = x / 8
  · rw [(chk_ok).2 ⟨h, hn⟩]; simp [hn]
  · have : ¬ chk x n = 0 := fun e => hn (chk_ok.1 e).2
    rw [beq_eq_false_iff_ne.2 this, beq_eq_false_iff_ne.2 hn]
theorem fit_two {x : Int} {n : Nat} : fitB 2 n x = (n == 0) := by unfold fitB; rw [if_pos rfl]
set_option maxHeartbeats 4000000 in
set_option maxRecDepth 100000 in
theorem pay_all (k : Nat) (b : ByteArray) (x : Int) (w : World) (hb : b.size < 4611686018427387904) (hW : isW x = true) (hk : k = 1 ∨ k = 2) (v q : Nat) (e1 : Int) (hv : vA b 0 = (v, q, e1)) (hv2 : e1 = 0 → v < 18446744073709551616)
    (i at_ : Nat) (e2 : Int) (hi : vA b q = (i, at_, e2)) (hi2 : e2 = 0 → i < 18446744073709551616 ∧ at_ ≤ b.size) (E : Up × Int)
    (hE : E = if e1 = 0 then if 1 ≤ v ∧ v ≤ 1152921504606846976 then if e2 = 0 then if i ≤ 281474976710656 then if fitB k (b.size - at_) x = true then (⟨v, k, i, b.data.toList.drop at_⟩, 0) else (up0, 11) else (up0, 60) else (up0, e2) else (up0, 51) else (up0, e1)) :
    Calls Tryd.prog 52 #[.int .i64 k, .string b, .int .i64 x] w fun e w' => e = .returned (.tuple #[.agg (upV E.1), .int .i64 E.2]) ∧ Below w.heap.size w w' := by
  have c1 := fun W => rvar_at b 0 W hb v q e1 hv
  have c2 := fun W => rvar_at b q W hb i at_ e2 hi
  have hn : Below w.heap.size w (w.alloc (.cells (upV up0) 39)) := (Below.refl _ w).alloc (Nat.le_refl _) _
  have hx := isW_bd hW
  clear hv hi
  by_cases he : e1 = 0
  · rw [if_pos he] at hE
    have hv3 := hv2 he
    clear hv2
    subst he
    by_cases h1 : 1 ≤ v ∧ v ≤ 1152921504606846976
    · rw [if_pos h1] at hE
      by_cases he2 : e2 = 0
      · rw [if_pos he2] at hE
        obtain ⟨hi3, hi4⟩ := hi2 he2
        clear hi2
        subst he2
        by_cases h3 : i ≤ 281474976710656
        · rw [if_pos h3] at hE
          have hsz : (b.extract at_ b.size).size = b.size - at_ := by rw [ByteArray.size_extract]; omega
          have hcl : (b.extract at_ b.size) = ⟨(b.data.toList.drop at_).toArray⟩ := by
            apply ByteArray.ext
            rw [ByteArray.data_extract]
            apply Array.toList_inj.1
            rw [Array.toList_extract]
            simp [List.extract, List.take_of_length_le]
          have HC : Hid _ := hcl
          clear hcl
          rcases hk with rfl | rfl
          · have hf := fit_one (n := b.size - at_) hW
            by_cases hq : ((b.size - at_ : Nat) : Int) = x / 8
            · rw [if_pos (by show fitB 1 _ _ = true; rw [hf]; simpa using hq)] at hE
              subst hE
              clear hf
              go_enter Tryd.func52, Tryd.ntmps52
              go_wp2_with first
                | (go_at_call 67; refine (c1 _).mono ?_; rintro e w' ⟨rfl, rfl⟩; clear c1)
                | (go_at_call 67; refine (c2 _).mono ?_; rintro e w' ⟨rfl, rfl⟩; clear c2)
              all_goals first | (exfalso; omega) | skip
              refine bodyPost_ret (v := .tuple #[.agg (uC v 1 i (b.extract at_ b.size)), .int .i64 0]) (by simp [results, Tryd.results52, go_sem]; try rfl) rfl ?_
              exact ⟨by rw [HC.out]; rfl, (Below.refl _ w).alloc (Nat.le_refl _) _⟩
            · rw [if_neg (by show ¬ fitB 1 _ _ = true; rw [hf]; simpa using hq)] at hE
              subst hE
              clear hf
              go_enter Tryd.func52, Tryd.ntmps52
              go_wp2_with first
                | (go_at_call 67; refine (c1 _).mono ?_; rintro e w' ⟨rfl, rfl⟩; clear c1)
                | (go_at_call 67; refine (c2 _).mono ?_; rintro e w' ⟨rfl, rfl⟩; clear c2)
              all_goals first | (exfalso; omega) | skip
              refine bodyPost_ret (v := .tuple #[.agg (upV up0), .int .i64 11]) (by simp [results, Tryd.results52, go_sem]; try rfl) rfl ?_
              exact ⟨rfl, hn⟩
          · have hf := fit_two (x := x) (n := b.size - at_)
            have hem := empt (b.extract at_ b.size)
            rw [hsz] at hem
            by_cases hq : b.size - at_ = 0
            · rw [if_pos (by show fitB 2 _ _ = true; rw [hf]; simpa using hq)] at hE
              subst hE
              clear hf
              rw [beq_iff_eq.2 hq] at hem
              go_enter Tryd.func52, Tryd.ntmps52
              go_wp2_with first
                | (go_at_call 67; refine (c1 _).mono ?_; rintro e w' ⟨rfl, rfl⟩; clear c1)
                | (go_at_call 67; refine (c2 _).mono ?_; rintro e w' ⟨rfl, rfl⟩; clear c2)
              all_goals first | (exfalso; omega) | skip
              refine bodyPost_ret (v := .tuple #[.agg (uC v 2 i (b.extract at_ b.size)), .int .i64 0]) (by simp [results, Tryd.results52, go_sem]; try rfl) rfl ?_
              exact ⟨by rw [HC.out]; rfl, (Below.refl _ w).alloc (Nat.le_refl _) _⟩
            · rw [if_neg (by show ¬ fitB 2 _ _ = true; rw [hf]; simpa using hq)] at hE
              subst hE
              clear hf
              rw [beq_eq_false_iff_ne.2 hq] at hem
              go_enter Tryd.func52, Tryd.ntmps52
              go_wp2_with first
                | (go_at_call 67; refine (c1 _).mono ?_; rintro e w' ⟨rfl, rfl⟩; clear c1)
                | (go_at_call 67; refine (c2 _).mono ?_; rintro e w' ⟨rfl, rfl⟩; clear c2)
              all_goals first | (exfalso; omega) | skip
              refine bodyPost_ret (v := .tuple #[.agg (upV up0), .int .i64 11]) (by simp [results, Tryd.results52, go_sem]; try rfl) rfl ?_
              exact ⟨rfl, hn⟩
        · rw [if_neg h3] at hE
          subst hE
          rcases hk with rfl | rfl
          all_goals
            go_enter Tryd.func52, Tryd.ntmps52
            go_wp2_with first
              | (go_at_call 67; refine (c1 _).mono ?_; rintro e w' ⟨rfl, rfl⟩; clear c1)
              | (go_at_call 67; refine (c2 _).mono ?_; rintro e w' ⟨rfl, rfl⟩; clear c2)
            all_goals first | (exfalso; omega) | skip
            all_goals
              refine bodyPost_ret (v := .tuple #[.agg (upV up0), .int .i64 60]) (by simp [results, Tryd.results52, go_sem]; try rfl) rfl ?_
              exact ⟨rfl, hn⟩
      · rw [if_neg he2] at hE
        subst hE
        rcases hk with rfl | rfl
        all_goals
          go_enter Tryd.func52, Tryd.ntmps52
          go_wp2_with first
            | (go_at_call 67; refine (c1 _).mono ?_; rintro e w' ⟨rfl, rfl⟩; clear c1)
            | (go_at_call 67; refine (c2 _).mono ?_; rintro e w' ⟨rfl, rfl⟩; clear c2)
          all_goals first | (exfalso; omega) | skip
          all_goals
            refine bodyPost_ret (v := .tuple #[.agg (upV up0), .int .i64 e2]) (by simp [results, Tryd.results52, go_sem]; try rfl) rfl ?_
            exact ⟨rfl, hn⟩
    · rw [if_neg h1] at hE
      subst hE
      rcases hk with rfl | rfl
      all_goals
        go_enter Tryd.func52, Tryd.ntmps52
        go_wp2_with first
          | (go_at_call 67; refine (c1 _).mono ?_; rintro e w' ⟨rfl, rfl⟩; clear c1)
        all_goals first | (exfalso; omega) | skip
        all_goals
          refine bodyPost_ret (v := .tuple #[.agg (upV up0), .int .i64 51]) (by simp [results, Tryd.results52, go_sem]; try rfl) rfl ?_
          exact ⟨rfl, hn⟩
  · rw [if_neg he] at hE
    subst hE
    rcases hk with rfl | rfl
    all_goals
      go_enter Tryd.func52, Tryd.ntmps52
      go_wp2_with first
        | (go_at_call 67; refine (c1 _).mono ?_; rintro e w' ⟨rfl, rfl⟩; clear c1)
      refine bodyPost_ret (v := .tuple #[.agg (upV up0), .int .i64 e1]) (by simp [results, Tryd.results52, go_sem]; try rfl) rfl ?_
      exact ⟨rfl, hn⟩
set_option maxHeartbeats 4000000 in
set_option maxRecDepth 100000 in
theorem pay_kind (k : Nat) (b : ByteArray) (x : Int) (w : World) (hk : ¬ (k = 1 ∨ k = 2)) :
    Calls Tryd.prog 52 #[.int .i64 k, .string b, .int .i64 x] w fun e w' => e = .returned (.tuple #[.agg (upV up0), .int .i64 35]) ∧ Below w.heap.size w w' := by
  have k1 : ((k : Int) != 1) = true := by simp; omega
  have k2 : ((k : Int) != 2) = true := by simp; omega
  go_enter Tryd.func52, Tryd.ntmps52
  go_wp2
  all_goals first | (exfalso; omega) | skip
  refine bodyPost_ret (v := .tuple #[.agg (upV up0), .int .i64 35]) (by simp [results, Tryd.results52, go_sem]; try rfl) rfl ?_
  exact ⟨rfl, (Below.refl _ w).alloc (Nat.le_refl _) _⟩
theorem payload_any (k : Nat) (b : ByteArray) (x : Int) (w : World) (hb : b.size < 4611686018427387904) (hW : isW x = true) :
    Calls Tryd.prog 52 #[.int .i64 k, .string b, .int .i64 x] w fun e w' => e = .returned (.tuple #[.agg (upV (unA k b x).1), .int .i64 (unA k b x).2]) ∧ Below w.heap.size w w' := by
  by_cases hk : k = 1 ∨ k = 2
  · exact pay_all k b x w hb hW hk _ _ _ (trip _) (fun h => (vA_lt b 0 h).1) _ _ _ (trip _) (fun h => vA_lt b _ h) _ (by unfold unA; rw [if_pos hk])
  · have e : unA k b x = (up0, 35) := by unfold unA; rw [if_neg hk]
    rw [e]
    exact pay_kind k b x w hk
end Go.Proofs.YtjkhhjboejkafaaDoor
set_option linter.unusedVariables false
set_option linter.unusedSimpArgs false
namespace Go.Proofs.YtjkhhjboejkafaaDoor
open Go.RowKit Go.Shelf Go.Proofs.SealMath
theorem wpList_append_eq {P : Program} {w : World} {ops : Array Oper} {rest : List Oper} {o : Oper} {a : Act} {Q : Exit → Act → World → Prop} (hgd : o.guard = none) (s x : Operand) (t u : TypeId)
    (ho : o.op = .call { callee := .builtin .append, args := #[s, x], argTypes := #[t, u] }) (v xv v' : Value) (w' : World) (hs : a.eval s = v) (hx : a.eval x = xv) (hr : (Builtin.append_ #[t, u] o.type #[v, xv]).run P w = .ok v' w')
    (h : wpList P ops Q rest (a.put o.dst v') w') : wpList P ops Q (o :: rest) a w := by
  refine wpList_plain hgd fun K hK => ?_
  unfold Oper.wp execOp
  simp only [ho, resolve, invoke, builtin, Sem.run_bind, Sem.run_pure, Result.andThen_ok, List.map_toArray, List.map_cons, List.map_nil, hs, hx, hr]
  exact hK _ _ h
def tlL (b : ByteArray) (S : Nat) (x : Int) : List (Up × Nat) := if okB S (ups b x 0) = true then ups b x 0 else []
def tlE (b : ByteArray) (S : Nat) (x : Int) : Int := if okB S (ups b x 0) = true then 0 else 80
/-- What Told is to answer. -/
def RtO (b : ByteArray) (S : Nat) (x : Int) (w : World) (r : Ending) (w' : World) : Prop := ∃ v, r = .returned (.tuple #[v, .int .i64 (endU (tlL b S x) : Nat), .int .i64 (tlE b S x)]) ∧ w'.ownsRow 0 39 4 v (tlL b S x).length (lsU (tlL b S x)) ∧ (∀ k, v.ownBlock = some k → w.heap.size ≤ k) ∧ Below w.heap.size w w'
/-- What stands while the frames are told. -/
structure TT (b : ByteArray) (S : Nat) (x : Int) (w : World) (p : List (Up × Nat)) (a : Nat) (lv : Value) (wr : World) : Prop where
  le : a ≤ b.size
  eq : p ++ ups b x a = ups b x 0
  en : endU p = a
  ok : okU S p
  row : wr.ownsRow 0 39 4 lv p.length (lsU p)
  loc : ∀ k, lv.ownBlock = some k → w.heap.size ≤ k
  old : Below w.heap.size w wr
theorem TT.yes {b : ByteArray} {S : Nat} {x : Int} {w wr w' : World} {p : List (Up × Nat)} {a : Nat} {lv : Value} (h : TT b S x w p a lv wr) (hn : ups b x a = []) (hb : Below wr.heap.size wr w') : RtO b S x w (.returned (.tuple #[lv, .int .i64 (a : Nat), .int .i64 0])) w' := by
  have e : p = ups b x 0 := by have := h.eq; rw [hn, List.append_nil] at this; exact this
  have hok : okB S (ups b x 0) = true := (okB_iff _ _).2 (e ▸ h.ok)
  have eL : tlL b S x = p := by unfold tlL; rw [if_pos hok, e]
  have eE : tlE b S x = 0 := by unfold tlE; rw [if_pos hok]
  refine ⟨lv, by rw [eL, eE, h.en], by rw [eL]; exact row_kept (F := fun _ => False) h.row (.below hb) (fun _ _ h => h), h.loc, chain h.old hb (Nat.le_refl _)⟩
theorem TT.no {b : ByteArray} {S : Nat} {x : Int} {w wr w' : World} {p : List (Up × Nat)} {a : Nat} {lv : Value} {z : Up × Nat} {r : List (Up × Nat)} (h : TT b S x w p a lv wr) (hz : ups b x a = z :: r) (hs : z.1.s ≠ S + p.length + 1) (hb : Below wr.heap.size wr w') : RtO b S x w (.returned (.tuple #[.slice none 0 0, .int .i64 0, .int .i64 80])) w' := by
  have hno : okB S (ups b x 0) = false := by
    cases h9 : okB S (ups b x 0) with
    | false => rfl
    | true => exact absurd ((okB_iff _ _).1 h9) (okU_no (l := p) (z := z) ⟨r, by have := h.eq; rw [hz] at this; rw [← this]; simp⟩ hs)
  have eL : tlL b S x = [] := by unfold tlL; rw [if_neg (by rw [hno]; simp)]
  have eE : tlE b S x = 80 := by unfold tlE; rw [if_neg (by rw [hno]; simp)]
  refine ⟨.slice none 0 0, by rw [eL, eE]; rfl, by rw [eL]; exact ⟨rfl, .inl ⟨rfl, rfl⟩⟩, fun k hk => by simp [Value.ownBlock] at hk, chain h.old hb (Nat.le_refl _)⟩
theorem wrap_sn {S n bs : Nat} (h1 : S ≤ 1152921504606846976) (h2 : n * 14 ≤ bs) (h3 : bs ≤ 1073741824) : wrap64 ((S : Int) + (n : Int)) = (S : Int) + (n : Int) := by unfold wrap64; omega
theorem wrap_sn1 {S n bs : Nat} (h1 : S ≤ 1152921504606846976) (h2 : n * 14 ≤ bs) (h3 : bs ≤ 1073741824) : wrap64 ((S : Int) + (n : Int) + 1) = (S : Int) + (n : Int) + 1 := by unfold wrap64; omega
theorem ne_sn {us S n : Nat} (h : ¬ us = S + n + 1) : ((us : Int) != (S : Int) + (n : Int) + 1) = true := by
  have h' : ¬ ((us : Int) = (S : Int) + (n : Int) + 1) := by omega
  simpa using h'
theorem eq_sn {us S n : Nat} (h : us = S + n + 1) : ((us : Int) != (S : Int) + (n : Int) + 1) = false := by
  have h' : ((us : Int) = (S : Int) + (n : Int) + 1) := by omega
  simpa using h'
set_option maxHeartbeats 4000000 in
set_option maxRecDepth 100000 in
theorem rtold_any (b : ByteArray) (S : Nat) (x : Int) (w : World) (hW : isW x = true) (hS : S ≤ 1152921504606846976) (hb : b.size ≤ 1073741824) :
    Calls Tryd.prog 35 #[.string b, .int .i64 S, .int .i64 x] w (RtO b S x w) := by
  have hups := ups_len b x (b.size + 1) 0 (by omega) (by omega)
  have H0 := Hid.mk (show TT b S x w [] 0 (.slice none 0 0) w from ⟨Nat.zero_le _, rfl, rfl, okU_nil S, ⟨rfl, .inl ⟨rfl, rfl⟩⟩, fun k hk => by (simp [Value.ownBlock] at hk), Below.refl _ _⟩)
  have HH := Hid.mk (And.intro hW (And.intro hS (And.intro hb hups)))
  have hpar := fun a (V : World) (ha : a ≤ b.size) => rparse_ok b a (psA b a) V (by omega) ha rfl
  clear hW hS hb hups
  go_enter Tryd.func35, Tryd.ntmps35
  go_wp2
  go_loopw [9, 10, 11, 12, 13, 14, 15, 16] (fun u9 u10 _ _ _ _ _ _ wr => ∃ (p : List (Up × Nat)) (a : Nat) (la : Option Addr) (lc n : Nat), n = p.length ∧ u9 = .slice la n lc ∧ u10 = .int .i64 (a : Nat) ∧ Hid (TT b S x w p a (.slice la n lc) wr)) (fun _ u _ _ _ _ _ _ _ => b.size - (intOf u).toNat)
  case atStart => exact ⟨[], 0, none, 0, 0, rfl, rfl, rfl, H0⟩
  case round =>
    clear H0
    obtain ⟨p, a, la, lc, n, hn, rfl, rfl, HT⟩ := hrel
    by_cases hlt : a < b.size
    · have i1 : (a : Int) < (b.size : Int) := by omega
      have hp := hpar a wr HT.out.le
      obtain ⟨⟨k, P, q, e⟩, hR⟩ : ∃ R, R = psA b a := ⟨_, rfl⟩
      rw [← hR] at hp
      have HR := Hid.mk hR
      have Hn := Hid.mk hn
      clear hR hn
      by_cases he : e = 0
      · subst he
        have he0 : (psA b a).2.2.2 = 0 := by rw [← HR.out]
        have hnx := psA_next he0
        have heq := ups_some (x := x) he0
        rw [← HR.out] at hnx heq
        simp only [] at hnx heq
        have hP : (⟨P.toArray⟩ : ByteArray).size < 4611686018427387904 := by rw [ba_len]; simp; omega
        have hpay := fun (V : World) => payload_any k ⟨P.toArray⟩ x V hP HH.out.1
        have hno := un_no k ⟨P.toArray⟩ x
        obtain ⟨⟨⟨us, uk, ui, uc⟩, ue⟩, hU⟩ : ∃ U, U = unA k ⟨P.toArray⟩ x := ⟨_, rfl⟩
        rw [← hU] at hpay heq hno
        have HN := Hid.mk (And.intro hnx (And.intro heq hno))
        have hnb : n * 14 ≤ b.size := by
          have h1 := congrArg List.length HT.out.eq
          rw [List.length_append, ← Hn.out] at h1
          have h2 := HH.out.2.2.2
          omega
        have hSb := HH.out.2.1
        have hbb := HH.out.2.2.1
        have hw1 : wrap64 ((S : Int) + (n : Int)) = (S : Int) + (n : Int) := wrap_sn hSb hnb hbb
        have hw2 : wrap64 ((S : Int) + (n : Int) + 1) = (S : Int) + (n : Int) + 1 := wrap_sn1 hSb hnb hbb
        have Hnb := Hid.mk (And.intro hnb hbb)
        clear he0 hnx heq hP hU hno hnb hSb hbb hpar hlt
        go_wp2_with fail
        refine hp.mono ?_
        clear hp
        rintro r w1 ⟨rfl, m, rfl⟩
        have hpay1 := hpay (wr.drewN m)
        clear hpay
        go_wp2_with fail
        refine hpay1.mono ?_
        clear hpay1
        rintro r w2 ⟨rfl, b2⟩
        simp only [upV, uC]
        have bw2 : Below wr.heap.size wr w2 := chain (Drew.below ⟨m, rfl⟩ _) b2 (Nat.le_refl _)
        have b3 : Below wr.heap.size wr (w2.alloc (.cells #[.int .i64 us, .int .i64 uk, .int .i64 ui, .string ⟨uc.toArray⟩] 39)) := bw2.alloc (by have := bw2.size; omega) _
        by_cases h5 : ue = 0
        · subst h5
          by_cases hm : us = S + n + 1
          · have hneq : ((us : Int) != (S : Int) + (n : Int) + 1) = false := eq_sn hm
            have hrow : (w2.alloc (.cells #[.int .i64 us, .int .i64 uk, .int .i64 ui, .string ⟨uc.toArray⟩] 39)).ownsRow 0 39 4 (.slice la n lc) p.length (lsU p) := row_kept (F := fun _ => False) HT.out.row (.below b3) (fun _ _ h => h)
            obtain ⟨v', V5, hap, ho5, st5, loc5⟩ := up_app _ p _ hrow (⟨us, uk, ui, uc⟩, q) (by have := Hnb.out; have := Hn.out; omega)
            have bw := HT.out.old
            have b4 := chain bw b3 (Nat.le_refl _)
            have hlv : ∀ k, v'.ownBlock = some k → w.heap.size ≤ k := fun k hk => by
              rcases loc5 k hk with e | e
              · exact HT.out.loc k e
              · have := b4.size; omega
            have T5 : TT b S x w (p ++ [(⟨us, uk, ui, uc⟩, q)]) q v' V5 :=
              { le := HN.out.1.2.1, eq := by rw [List.append_assoc, ← HT.out.eq, HN.out.2.1]; rfl, en := endU_snoc _ _, ok := okU_snoc HT.out.ok (by rw [← Hn.out]; exact hm), row := by rw [List.length_append]; exact ho5, loc := hlv
                old := b4.trans (st5.toBelow (fun k hk e => by have := HT.out.loc k e; omega) b4.size) }
            obtain ⟨ra, rc5, hra, -⟩ := slice_form ho5
            subst hra
            have HT5 := Hid.mk T5
            have hmm : b.size - (intOf (.int .i64 (q : Nat))).toNat < b.size - (intOf (.int .i64 (a : Nat))).toNat := by
              have h7 := HN.out.1
              simp only [intOf]
              omega
            have hlen5 : (p ++ [((⟨us, uk, ui, uc⟩ : Up), q)]).length = n + 1 := by rw [List.length_append, ← Hn.out]; rfl
            rw [← Hn.out] at hap HT5
            simp only [upV, uC, World.size_alloc] at hap
            have HL := Hid.mk hlen5
            clear hm hrow ho5 st5 loc5 bw b4 hlv T5 hlen5 b3 bw2
            go_wp2_with (first | (at_builtin; refine wpList_append_eq rfl _ _ _ _ rfl _ _ _ _ rfl rfl hap ?_) | go_in)
            exact ⟨⟨_, q, ra, rc5, n + 1, HL.out.symm, rfl, rfl, HT5⟩, hmm⟩
          · have hneq : ((us : Int) != (S : Int) + (n : Int) + 1) = true := ne_sn hm
            have HM := Hid.mk hm
            clear hm
            go_wp2
            refine bodyPost_ret (v := .tuple #[.slice none 0 0, .int .i64 0, .int .i64 80]) (by simp [results, Tryd.results35, go_sem]; try rfl) rfl ?_
            exact HT.out.no HN.out.2.1 (by rw [← Hn.out]; exact HM.out) b3
        · have h5' : (ue != 0) = true := by simpa using h5
          have hs0 : us = 0 := by have := HN.out.2.2 h5; exact congrArg Up.s this
          have HM := Hid.mk hs0
          clear h5 hs0
          go_wp2
          refine bodyPost_ret (v := .tuple #[.slice none 0 0, .int .i64 0, .int .i64 80]) (by simp [results, Tryd.results35, go_sem]; try rfl) rfl ?_
          exact HT.out.no HN.out.2.1 (by have := HM.out; show us ≠ _; omega) b3
      · have hne : (e != 0) = true := by simpa using he
        have hnil : ups b x a = [] := ups_none (by rw [← HR.out]; exact he)
        have HN := Hid.mk hnil
        clear he hnil hpar hlt
        go_wp2_with fail
        refine hp.mono ?_
        clear hp
        rintro r w1 ⟨rfl, m, rfl⟩
        go_wp2
        refine bodyPost_ret (v := .tuple #[.slice la n lc, .int .i64 a, .int .i64 0]) (by simp [results, Tryd.results35, go_sem]; try rfl) rfl ?_
        exact HT.out.yes HN.out (Drew.below ⟨m, rfl⟩ _)
    · have i1 : ¬ (a : Int) < (b.size : Int) := by omega
      have hnil : ups b x a = [] := ups_none (fun h => by have := psA_next h; omega)
      have HN := Hid.mk hnil
      clear hnil hpar hlt hn
      go_wp2
      refine bodyPost_ret (v := .tuple #[.slice la n lc, .int .i64 a, .int .i64 0]) (by simp [results, Tryd.results35, go_sem]; try rfl) rfl ?_
      exact HT.out.yes HN.out (Below.refl _ _)
end Go.Proofs.YtjkhhjboejkafaaDoor
set_option linter.unusedVariables false
set_option linter.unusedSimpArgs false
namespace Go.Proofs.YtjkhhjboejkafaaDoor.Dk
open Go.RowKit Go.Maps Go.Proofs.DiskMath
theorem infoFi : (Tryd.prog.info? 61).map (fun i => (i.zero, i.size, i.bytes)) = some (some (.agg #[.string ⟨#[]⟩, .string ⟨#[]⟩, .int .i64 0]), 3, 40) := by kernel_rfl
abbrev fiV (f : Fi) : Array Value := #[.string f.n, .string f.d, .int .i64 f.u]
/-- A file more in a row of files. -/
theorem fi_app (W : World) (fs : List Fi) (lv : Value) (h : W.ownsRow 0 61 3 lv fs.length (fs.flatMap fiC)) (f : Fi) (hb : fs.length + 1 ≤ 1099511627776) :
    ∃ v' w', (Builtin.append_ #[45, 45] 45 #[lv, .slice (some ⟨W.heap.size, 0, none⟩) 1 1]).run Tryd.prog (W.alloc (.cells (fiV f) 61)) = .ok v' w' ∧ w'.ownsRow 0 61 3 v' (fs.length + 1) ((fs ++ [f]).flatMap fiC) ∧ Stay (fun k => lv.ownBlock = some k) W w' ∧
      (∀ k, v'.ownBlock = some k → lv.ownBlock = some k ∨ W.heap.size ≤ k) := by
  obtain ⟨i0, hi, hz0, hz1, hz2⟩ := info_parts infoFi
  have st0 : Stay (fun k => lv.ownBlock = some k) W (W.alloc (.cells (fiV f) 61)) := (Stay.refl _ W).alloc _
  have h' : (W.alloc (.cells (fiV f) 61)).ownsRow 0 61 3 lv fs.length (fs.flatMap fiC) := h.alloc _
  have h1c : ∀ u ∈ fiC f, u.oneCell' = true := fun u hu => by
    simp [fiC] at hu
    rcases hu with rfl | rfl | rfl <;> rfl
  obtain ⟨v', w', hr, ho, hg, _, hloc⟩ := run_append_own_at (P := Tryd.prog) (W.alloc (.cells (fiV f) 61)) 0 45 45 61 i0 _ 3 40 Tryd.underlying45 hi hz0 hz1 hz2 rfl (by decide) lv fs.length _ h' ⟨W.heap.size, 0, none⟩ 1 1 (fiC f) rfl (new_cellU W (fiC f) 61) h1c (by unfold maxLen; omega) (by omega) (Nat.zero_le _)
  refine ⟨v', w', hr, by rw [List.flatMap_append]; simpa using ho, st0.trans (.grown hg (fun k hk => hk)), fun k hk => ?_⟩
  rcases hloc with hl | hl
  · exact .inl (hl ▸ hk)
  · rw [hl] at hk; cases hk; exact .inr (by simp)
set_option maxHeartbeats 4000000 in
set_option maxRecDepth 100000 in
/-- Among none. -/
theorem rwith_nil (f : Fi) (w : World) :
    Calls Tryd.prog 23 #[.slice none 0 0, .agg (fiV f)] w fun e w' => ∃ a c, e = .returned (.slice a 1 c) ∧ w'.ownsRow 0 61 3 (.slice a 1 c) 1 ([f].flatMap fiC) ∧ (∀ k, (Value.slice a 1 c).ownBlock = some k → w.heap.size ≤ k) ∧ Below w.heap.size w w' := by
  obtain ⟨fn, fd, fu⟩ := f
  have bW : Below w.heap.size w (w.alloc (.cells #[.string fn, .string fd, .int .i64 fu] 61)) := (Below.refl _ w).alloc (Nat.le_refl _) _
  obtain ⟨v', V5, hap, ho5, st5, loc5⟩ := fi_app (w.alloc (.cells #[.string fn, .string fd, .int .i64 fu] 61)) [] (.slice none 0 0) ⟨rfl, .inl ⟨rfl, rfl⟩⟩ ⟨fn, fd, fu⟩ (by simp)
  have b5 : Below w.heap.size w V5 := bW.trans (st5.toBelow (fun k hk e => by simp [Value.ownBlock] at e) bW.size)
  obtain ⟨a, c, rfl, -⟩ := slice_form ho5
  have HF := Hid.mk (And.intro ho5 (And.intro loc5 (And.intro b5 bW)))
  simp only [World.size_alloc, List.length_nil, Nat.zero_add] at hap
  clear ho5 st5 loc5 b5 bW
  go_enter Tryd.func23, Tryd.ntmps23
  go_wp2
  go_loopw [5, 6, 7] (fun u5 u6 u7 wr => u5 = .slice none 0 0 ∧ u6 = .bool false ∧ u7 = .int .i64 0 ∧ wr = w.alloc (.cells #[.string fn, .string fd, .int .i64 fu] 61)) (fun _ _ _ _ => 0)
  case atStart => exact ⟨rfl, rfl, rfl, rfl⟩
  case round =>
    obtain ⟨rfl, rfl, rfl, rfl⟩ := hrel
    go_wp2_with (first | (at_builtin; refine wpList_append_eq rfl _ _ _ _ rfl _ _ _ _ rfl rfl hap ?_) | go_in)
    go_ret
    refine ⟨a, c, rfl, HF.out.1, fun k hk => ?_, HF.out.2.2.1⟩
    rcases HF.out.2.1 k hk with e | e
    · simp [Value.ownBlock] at e
    · exact Nat.le_trans HF.out.2.2.2.size e
end Go.Proofs.YtjkhhjboejkafaaDoor.Dk
