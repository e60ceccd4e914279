/-
  DERIVED. What is still to come, as a list.
-/
import Derived.Test.YtbkbnhdeleoibaaMNext
set_option linter.unusedVariables false
set_option linter.unusedSimpArgs false
namespace Go.Proofs.Ytbkbnhdeleoibaa
open Go.RowKit
theorem clone_any (s : ByteArray) (w : World) (h : s.size ≤ 281474976710656) : Calls Try.prog 25 #[.string s] w fun r w' => r = .returned (.string s) ∧ Below w.heap.size w w' := by
  have hc := Try.stringslite_Clone s w h
  go_enter Try.func25, Try.ntmps25
  go_wp2_with (go_at_call 31; refine hc.mono ?_; clear hc; rintro r w2 ⟨rfl, b2⟩)
  go_ret
  exact ⟨rfl, b2⟩
/-- What is told, one by one; false: two had one Seq. -/
def RestR (bottom : Bool) (ys : List St) (rs : List (List En)) (out : List En) (g : Bool) : Prop :=
  ∀ C : List St → List (List En) → List En → Bool → Prop, (∀ (ys : List St) (rs : List (List En)) (ys2 : List St) (rs2 : List (List En)), NextR bottom ys rs .none ys2 rs2 → C ys rs [] true) → (∀ (ys : List St) (rs : List (List En)) (ys2 : List St) (rs2 : List (List En)), NextR bottom ys rs .seq ys2 rs2 → C ys rs [] false) → (∀ (ys : List St) (rs : List (List En)) (e : En) (ys2 : List St) (rs2 : List (List En)) (out : List En) (k : Bool), NextR bottom ys rs (.give e) ys2 rs2 → C ys2 rs2 out k → C ys rs (e :: out) k) → C ys rs out g
section
variable {bottom : Bool}
theorem RestR.done {ys : List St} {rs : List (List En)} {ys2 : List St} {rs2 : List (List En)} (h : NextR bottom ys rs .none ys2 rs2) : RestR bottom ys rs [] true := fun C c1 c2 c3 => c1 _ _ _ _ h
theorem RestR.seq {ys : List St} {rs : List (List En)} {ys2 : List St} {rs2 : List (List En)} (h : NextR bottom ys rs .seq ys2 rs2) : RestR bottom ys rs [] false := fun C c1 c2 c3 => c2 _ _ _ _ h
theorem RestR.more {ys : List St} {rs : List (List En)} {e : En} {ys2 : List St} {rs2 : List (List En)} {out : List En} {k : Bool} (h : NextR bottom ys rs (.give e) ys2 rs2) (t : RestR bottom ys2 rs2 out k) : RestR bottom ys rs (e :: out) k := fun C c1 c2 c3 => c3 _ _ _ _ _ _ _ h (t C c1 c2 c3)
theorem RestR.ind {M : (ys : List St) → (rs : List (List En)) → (out : List En) → (g : Bool) → RestR bottom ys rs out g → Prop} (done : ∀ {ys : List St} {rs : List (List En)} {ys2 : List St} {rs2 : List (List En)} (h : NextR bottom ys rs .none ys2 rs2), M ys rs [] true (.done h))
    (seq : ∀ {ys : List St} {rs : List (List En)} {ys2 : List St} {rs2 : List (List En)} (h : NextR bottom ys rs .seq ys2 rs2), M ys rs [] false (.seq h))
    (more : ∀ {ys : List St} {rs : List (List En)} {e : En} {ys2 : List St} {rs2 : List (List En)} {out : List En} {k : Bool} (h : NextR bottom ys rs (.give e) ys2 rs2) (t : RestR bottom ys2 rs2 out k), M ys2 rs2 out k t → M ys rs (e :: out) k (.more h t))
    {ys : List St} {rs : List (List En)} {out : List En} {g : Bool} (k : RestR bottom ys rs out g) : M ys rs out g k :=
  (k (fun ys rs out g => ∃ h : RestR bottom ys rs out g, M ys rs out g h) (fun _ _ _ _ h => ⟨_, done h⟩) (fun _ _ _ _ h => ⟨_, seq h⟩) (fun _ _ _ _ _ _ _ h k => k.elim fun t m => ⟨_, more h t m⟩)).elim fun _ h => h
end
/-- All codes are short enough to be copied. -/
def Csz (ys : List St) (rs : List (List En)) : Prop := (∀ y ∈ ys, y.e.c.size ≤ 281474976710656) ∧ ∀ r ∈ rs, ∀ e ∈ r, e.c.size ≤ 281474976710656
theorem Csz.asked {s : St} {ys ys1 : List St} {rs rs1 : List (List En)} (h : Csz ys rs) (k : Asked s ys ys1 rs rs1) : Csz ys1 rs1 := by
  rcases k with ⟨-, rfl, rfl⟩ | ⟨e, r, h1, hp, rfl⟩
  · exact h
  · have he := h.2 _ (List.mem_of_getElem? h1)
    refine ⟨fun y hy => ?_, fun r1 hr1 => ?_⟩
    · rcases List.mem_append.1 (hp.mem_iff.1 hy) with k | k
      · exact h.1 y k
      · simp at k; subst k; exact he e (by simp)
    · rcases List.mem_or_eq_of_mem_set hr1 with k | k
      · exact h.2 r1 k
      · subst k; exact fun x hx => he x (List.mem_cons_of_mem _ hx)
theorem Csz.all {P ys ys2 : List St} {rs rs2 : List (List En)} (h : Csz ys rs) (k : AskedAll P ys ys2 rs rs2) : Csz ys2 rs2 := by
  induction k using AskedAll.ind with
  | nil => exact h
  | cons h1 _ ih => exact ih (h.asked h1)
theorem Csz.lp {ys L ys' : List St} {rs : List (List En)} (h : Csz ys rs) (k : LP ys L ys') : Csz ys' rs ∧ ∀ a ∈ L, a.e.c.size ≤ 281474976710656 :=
  ⟨⟨fun y hy => h.1 y (k.perm.mem_iff.1 (List.mem_append_right _ hy)), h.2⟩, fun a ha => h.1 a (k.perm.mem_iff.1 (List.mem_append_left _ ha))⟩
theorem NextR.csz {bottom : Bool} {ys ys2 : List St} {rs rs2 : List (List En)} {r : NR} (k : NextR bottom ys rs r ys2 rs2) (h : Csz ys rs) : Csz ys2 rs2 ∧ ∀ e, r = .give e → e.c.size ≤ 281474976710656 := by
  induction k using NextR.ind with
  | done => exact ⟨h, fun e he => by cases he⟩
  | dup hl => exact ⟨(h.lp hl).1, fun e he => by cases he⟩
  | give hl hd ha hp hk => exact ⟨(h.lp hl).1.all hk, fun e he => by cases he; exact (h.lp hl).2 _ (List.mem_of_getElem? ha)⟩
  | skip hl hd ha hp hk _ _ ih => exact ih ((h.lp hl).1.all hk)
theorem NextR.tot {bottom : Bool} {ys ys2 : List St} {rs rs2 : List (List En)} {e : En} (k : NextR bottom ys rs (.give e) ys2 rs2) : totT ys2 rs2 < totT ys rs := by
  generalize hr : NR.give e = r at k
  induction k using NextR.ind with
  | done => cases hr
  | dup => cases hr
  | give hl hd ha hp hk => rw [hk.tot]; exact hl.tot _
  | skip hl hd ha hp hk _ _ ih =>
    have h1 := ih hr
    have h2 := hk.tot
    have h3 := hl.tot
    exact Nat.lt_trans h1 (by rw [h2]; exact h3 _)
/-- A row of entries of the call's own grows meanwhile. -/
theorem MQ.own {w0 : World} {B m : Nat} {bxs : List Nat} {c0 c2 c3 lv v : Value} {LL ys P : List St} {rs : List (List En)} {W W' : World} {n : Nat} {xs : List Value} (h : MQ w0 B m bxs c0 c2 c3 lv LL ys P rs W) (ho : W.ownsRow 0 36 5 v n xs) (s : Stay (fun k => v.ownBlock = some k) W W') (hB : ∀ k, v.ownBlock = some k → B ≤ k) : MQ w0 B m bxs c0 c2 c3 lv LL ys P rs W' := by
  cases hv : v.ownBlock with
  | none =>
    exact h.later ⟨s.os, s.tape, s.output, s.size, fun k hk => s.block k hk (fun e => by rw [hv] at e; cases e)⟩
  | some q =>
    obtain ⟨cur, hc⟩ := row_block ho hv
    exact h.en (s.mono (fun k _ e => by rw [hv] at e; cases e; rfl)) hc (hB q hv)
theorem keep_own {W W' : World} {v : Value} {n : Nat} {xs : List Value} (h : W.ownsRow 0 36 5 v n xs) (k : KeepEn W W') : W'.ownsRow 0 36 5 v n xs := by
  rcases h with ⟨h1, h2 | ⟨g, cap, cur, h2, h3, h4, h5⟩⟩
  · exact ⟨h1, .inl h2⟩
  · exact ⟨h1, .inr ⟨g, cap, cur, h2, h3, k _ _ _ h4, h5⟩⟩
/-- What stands ahead of a round; Q: how the merger may have begun. -/
def RR (w0 : World) (B m : Nat) (bxs : List Nat) (bottom : Bool) (Q : List St → List (List En) → Prop) (N : Nat) (W : World) (v : Value) (wr : World) : Prop :=
  ∃ acc, wr.ownsRow 0 36 5 v acc.length (acc.flatMap enC) ∧ KeepEn W wr ∧ (∀ k, v.ownBlock = some k → B ≤ k ∧ ∀ (cur : Array Value) (fr : Nat × Nat), W.heap[k]? ≠ some (.cells cur 36 fr)) ∧
    Calls Try.prog 24 #[.pointer (some ⟨m, 0, none⟩)] wr fun r W2 => ∃ ys rs ys1 rs1, Q ys rs ∧ (∀ out k, RestR bottom ys1 rs1 out k → RestR bottom ys rs (acc ++ out) k) ∧ Csz ys1 rs1 ∧ acc.length + totT ys1 rs1 ≤ N ∧ totT ys1 rs1 ≤ measT m bxs wr ∧ NextO w0 B m bxs bottom ys1 rs1 wr r W2
set_option maxHeartbeats 4000000 in
set_option maxRecDepth 100000 in
theorem rest_gen {w0 : World} {B m : Nat} {bxs : List Nat} {bottom : Bool} {Q : List St → List (List En) → Prop} {W : World} {N : Nat} (hmB0 : B ≤ m) (hN2 : (N + 1) * 48 ≤ 140737488355328)
    (hf : Calls Try.prog 24 #[.pointer (some ⟨m, 0, none⟩)] W fun r W2 => ∃ ys rs, Q ys rs ∧ NextO w0 B m bxs bottom ys rs W r W2)
    (hQ : ∀ ys rs, Q ys rs → Csz ys rs ∧ totT ys rs ≤ N ∧ totT ys rs ≤ measT m bxs W) :
    Calls Try.prog 19 #[.pointer (some ⟨m, 0, none⟩)] W fun r W' => KeepEn W W' ∧ Below B w0 W' ∧ ∃ ys rs out, Q ys rs ∧ ((RestR bottom ys rs out true ∧ ∃ v, r = .returned (.tuple #[v, .int .i64 0]) ∧ W'.ownsRow 0 36 5 v out.length (out.flatMap enC) ∧ (∀ k, v.ownBlock = some k → B ≤ k ∧ ∀ (cur : Array Value) (fr : Nat × Nat), W.heap[k]? ≠ some (.cells cur 36 fr))) ∨ (RestR bottom ys rs out false ∧ r = .returned (.tuple #[.slice none 0 0, .int .i64 51]))) := by
  have hR0 : RR w0 B m bxs bottom Q N W (.slice none 0 0) W := ⟨[], ⟨rfl, .inl ⟨rfl, rfl⟩⟩, .refl _, (fun k hk => by cases hk), hf.mono fun r W2 ⟨ys, rs, h1, h2⟩ => ⟨ys, rs, ys, rs, h1, fun out k hk => hk, (hQ ys rs h1).1, by simpa using (hQ ys rs h1).2.1, (hQ ys rs h1).2.2, h2⟩⟩
  have HH := Hid.mk (And.intro hR0 hN2)
  have hmB := Hid.mk hmB0
  clear hf hQ hN2 hmB0 hR0
  go_enter Try.func19, Try.ntmps19
  go_wp2
  go_loopw [4] (fun v wr => RR w0 B m bxs bottom Q N W v wr) (fun _ wr => measT m bxs wr)
  case atStart => exact HH.out.1
  case round =>
    obtain ⟨acc, ho, hk, hnew, hnx⟩ := hrel
    obtain ⟨va, vc, hv, -⟩ := slice_form ho
    subst hv
    have HA := Hid.mk (And.intro ho (And.intro hk hnew))
    clear ho hk hnew
    go_wp2_with fail
    refine hnx.mono ?_
    clear hnx
    rintro r W2 ⟨ys, rs, ys1, rs1, hQ0, hcont, hcs, hNl, hT, hk2, hO⟩
    obtain ⟨ho, hk, hnew⟩ := HA.out
    replace hQ0 := Hid.mk hQ0
    have ho2 : W2.ownsRow 0 36 5 (.slice va acc.length vc) acc.length (acc.flatMap enC) := keep_own ho hk2
    rcases hO with ⟨ysB, rsB, hn, rfl, hq, hyB⟩ | ⟨e, ysB, rsB, hn, rfl, hq, hyB⟩ | ⟨ysB, rsB, hn, rfl, hRef⟩
    · have bL : Below W2.heap.size W2 (W2.alloc (.cells #[.int .i64 0, .string ⟨#[]⟩, .int .i64 0, .int .i64 0, .bool false] 36)) := (Below.refl _ W2).alloc (Nat.le_refl _) _
      have fin := Hid.mk (And.intro ((hk.trans hk2).trans (.below bL)) (And.intro (hq.later bL).below (And.intro (hcont [] true (.done hn)) (And.intro (ho2.alloc (.cells #[.int .i64 0, .string ⟨#[]⟩, .int .i64 0, .int .i64 0, .bool false] 36)) hnew))))
      rw [List.append_nil] at fin
      clear HA ho hk hnew hcont hcs hNl hT ho2 hk2 hn hq hyB bL
      simp only [zeroE]
      go_wp2
      go_ret2
      exact ⟨fin.out.1, fin.out.2.1, ys, rs, acc, hQ0.out, .inl ⟨fin.out.2.2.1, _, rfl, fin.out.2.2.2.1, fin.out.2.2.2.2⟩⟩
    · have bL : Below W2.heap.size W2 (W2.alloc (.cells (enC e).toArray 36)) := (Below.refl _ W2).alloc (Nat.le_refl _) _
      have hE := SAt.new W2 (enC e) 36
      have hEl := heap_alloc_last W2 (.cells (enC e).toArray 36)
      obtain ⟨hcsB, hce⟩ := hn.csz hcs
      have hcl := fun W => clone_any e.c W (hce e rfl)
      have htot := hn.tot
      have hmB2 : m < W2.heap.size := by
        obtain ⟨av, hm, -⟩ := hq.hm
        exact (Array.getElem?_eq_some_iff.1 hm).1
      -- from the world behind the clone on
      have step : ∀ X2, Below (W2.alloc (.cells (enC e).toArray 36)).heap.size (W2.alloc (.cells (enC e).toArray 36)) X2 → ∃ v' w', (Builtin.append_ #[24, 24] 24 #[.slice va acc.length vc, .slice (some ⟨X2.heap.size, 0, none⟩) 1 1]).run Try.prog ((X2.setCell ⟨W2.heap.size, 1, none⟩ (.string e.c)).alloc (.cells (enC e).toArray 36)) = .ok v' w' ∧ RR w0 B m bxs bottom Q N W v' w' ∧ measT m bxs w' < measT m bxs wr ∧ ∃ a n c, v' = .slice a n c := fun X2 b2 => by
        have hEX : X2.heap[W2.heap.size]? = some (.cells (enC e).toArray 36 (0, 0)) := (b2.block _ (by simp)).trans hEl
        have stq : Stay (fun k => k = W2.heap.size) X2 (X2.setCell ⟨W2.heap.size, 1, none⟩ (.string e.c)) := stay_one _ _ _ _ _ (.refl _ _)
        have hBq : B ≤ W2.heap.size := Nat.le_trans hmB.out (Nat.le_of_lt hmB2)
        have hq3 := ((hq.later bL).later b2).en stq hEX hBq
        have hoX : X2.ownsRow 0 36 5 (.slice va acc.length vc) acc.length (acc.flatMap enC) := keep_own (keep_own ho2 (.below bL)) (.below b2)
        have hownlt : ∀ k, (Value.slice va acc.length vc).ownBlock = some k → k < W2.heap.size := fun k hk => row_lt ho2 hk
        have ho3 := row_kept hoX stq (fun k hk e' => by have := hownlt k hk; omega)
        obtain ⟨v', w', hr, ho4, st4, hloc⟩ := ent_app1 (X2.setCell ⟨W2.heap.size, 1, none⟩ (.string e.c)) acc _ ho3 e (by
          have h1 := HH.out.2
          omega)
        have esz : (X2.setCell ⟨W2.heap.size, 1, none⟩ (.string e.c)).heap.size = X2.heap.size := by simp
        rw [esz] at hr hloc
        have hxs : W2.heap.size ≤ X2.heap.size := Nat.le_trans bL.size b2.size
        have hq4 := hq3.own ho3 st4 (fun k hk => (hnew k hk).1)
        refine ⟨v', w', hr, ⟨acc ++ [e], ho4, fun k c f hW => ?_, fun k hkb => ?_, (next_any hq4 hyB).mono fun r W5 hO5 => ⟨ys, rs, ysB, rsB, hQ0.out, fun out k hkr => ?_, hcsB, ?_, Nat.le_of_eq hq4.meas.symm, hO5⟩⟩, ?_, ?_⟩
        · have hlt : k < W2.heap.size := (Array.getElem?_eq_some_iff.1 (hk2 _ _ _ (hk _ _ _ hW))).1
          have h1 := KeepEn.below b2 _ _ _ (KeepEn.below bL _ _ _ (hk2 _ _ _ (hk _ _ _ hW)))
          have h2 := (stq.block k (Array.getElem?_eq_some_iff.1 h1).1 (fun e' => by omega)).trans h1
          exact (st4.block k (Array.getElem?_eq_some_iff.1 h2).1 (fun e' => (hnew k e').2 _ _ hW)).trans h2
        · rcases hloc k hkb with h1 | h1
          · exact hnew k h1
          · refine ⟨by omega, fun cur fr hW => ?_⟩
            have h2 := KeepEn.below b2 _ _ _ (KeepEn.below bL _ _ _ (hk2 _ _ _ (hk _ _ _ hW)))
            have := (Array.getElem?_eq_some_iff.1 h2).1
            omega
        · rw [List.append_assoc]
          exact hcont _ _ (.more hn hkr)
        · rw [List.length_append]
          simp only [List.length_cons, List.length_nil]
          omega
        · rw [hq4.meas]; exact Nat.lt_of_lt_of_le htot hT
        · obtain ⟨a, c, e1, -⟩ := slice_form ho4
          exact ⟨a, _, c, e1⟩
      replace step := Hid.mk step
      have hE0 := hE 0 _ rfl
      have hE1 := hE 1 _ rfl
      have hE2 := hE 2 _ rfl
      have hE3 := hE 3 _ rfl
      have hE4 := hE 4 _ rfl
      have hEf : ∀ j, (W2.alloc (.cells (enC e).toArray 36)).frozen? ⟨W2.heap.size, j, none⟩ = false := fun j => frozen_of_row _ _ _ _ _ hEl
      have HF := Hid.mk hEf
      simp only [enC] at hE0 hE1 hE2 hE3 hE4 step HF ⊢
      clear HA ho hk hnew hcont hcs hNl hT ho2 hk2 hn hq hyB bL hE hEl hcsB hce htot hmB2 hEf
      go_wp2_with fail
      refine (hcl _).mono ?_
      clear hcl
      rintro r X2 ⟨rfl, b2⟩
      obtain ⟨v', w', hap, hRR, hme, a', n', c', hv'⟩ := step.out X2 b2
      subst hv'
      have k0 := cell_lat b2 hE0
      have k1 := cell_lat b2 hE1
      have k2 := cell_lat b2 hE2
      have k3 := cell_lat b2 hE3
      have k4 := cell_lat b2 hE4
      have g1 := froz_lat b2 hE1 (HF.out 1)
      replace hRR := Hid.mk (And.intro hRR hme)
      clear step hE0 hE1 hE2 hE3 hE4 HF b2 hme
      go_wp2_with (at_builtin; refine wpList_append_eq rfl _ _ _ _ rfl _ _ _ _ rfl rfl hap ?_; clear hap)
      exact ⟨hRR.out.1, hRR.out.2⟩
    · have bL : Below W2.heap.size W2 (W2.alloc (.cells #[.int .i64 0, .string ⟨#[]⟩, .int .i64 0, .int .i64 0, .bool false] 36)) := (Below.refl _ W2).alloc (Nat.le_refl _) _
      have hBW : B ≤ W2.heap.size := Nat.le_trans hmB.out (Nat.le_of_lt (Array.getElem?_eq_some_iff.1 hRef.mb).1)
      have fin := Hid.mk (And.intro ((hk.trans hk2).trans (.below bL)) (And.intro (hRef.below.trans (bL.mono hBW)) (hcont [] false (.seq hn))))
      rw [List.append_nil] at fin
      clear HA ho hk hnew hcont hcs hNl hT ho2 hk2 hn hRef bL hBW
      simp only [zeroE]
      go_wp2
      go_ret2
      exact ⟨fin.out.1, fin.out.2.1, ys, rs, acc, hQ0.out, .inr ⟨fin.out.2.2, rfl⟩⟩
end Go.Proofs.Ytbkbnhdeleoibaa
