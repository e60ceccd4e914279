/-
  DERIVED. The document's several.
-/
import Derived.Test.YtejpakejfikkmaaDoorCDec
set_option linter.unusedVariables false
set_option linter.unusedSimpArgs false
namespace Go.Proofs.YtejpakejfikkmaaDoor
open Go.RowKit Go.Proofs.SealMath
abbrev MX : Nat := 1152921504606846976
def natV (x : Nat) : Value := .int .i64 (x : Int)
/-- What several leaves. -/
def SevR (w : World) (X : Except Int (List Nat × Nat)) (e : Ending) (w' : World) : Prop := Below w.heap.size w w' ∧
  ((∃ er, X = .error er ∧ e = .returned (.tuple #[.slice none 0 0, .int .i64 0, .int .i64 er])) ∨
   (∃ l q a c, X = .ok (l, q) ∧ e = .returned (.tuple #[.slice a l.length c, .int .i64 (q : Nat), .int .i64 0]) ∧ w'.ownsRow 0 3 1 (.slice a l.length c) l.length (l.map natV)))
theorem rd_more (p : ByteArray) (pre : List Nat) (n q : Nat) : (rd p MX (n + 1) q).map (fun z => (pre ++ z.1, z.2)) = if (vA p q).2.2 ≠ 0 then .error (vA p q).2.2 else if MX < (vA p q).1 then .error 80 else (rd p MX n (vA p q).2.1).map (fun z => ((pre ++ [(vA p q).1]) ++ z.1, z.2)) := by
  rw [rd]
  split
  · rfl
  · split
    · rfl
    · cases rd p MX n (vA p q).2.1 with
      | error e => rfl
      | ok z => simp [Except.map]
theorem nat_own (W : World) : W.ownsRow 0 3 1 (.slice none 0 0) ([] : List Nat).length (([] : List Nat).map natV) := ⟨rfl, .inl ⟨rfl, rfl⟩⟩
theorem nat_app1 (W : World) (l : List Nat) (v : Value) (h : W.ownsRow 0 3 1 v l.length (l.map natV)) (x : Nat) (hb : (l.length + 1) * 8 ≤ 140737488355328) :
    ∃ a c w', (Builtin.append_ #[44, 44] 44 #[v, .slice (some ⟨W.heap.size, 0, none⟩) 1 1]).run Tryd.prog (W.alloc (.cells #[.int .i64 (x : Int)] 3)) = .ok (.slice a (l.length + 1) c) w' ∧ w'.ownsRow 0 3 1 (.slice a (l.length + 1) c) (l ++ [x]).length ((l ++ [x]).map natV) ∧ Stay (fun k => v.ownBlock = some k) W w' ∧ (∀ k, (Value.slice a (l.length + 1) c).ownBlock = some k → v.ownBlock = some k ∨ W.heap.size ≤ k) := by
  have e0 : ∀ l : List Nat, l.map natV = (l.map (fun (x : Nat) => (x : Int))).map IV := fun l => by rw [List.map_map]; rfl
  have hh : W.ownsRow 0 3 1 v (l.map (fun (x : Nat) => (x : Int))).length ((l.map (fun (x : Nat) => (x : Int))).map IV) := by rw [List.length_map, ← e0]; exact h
  obtain ⟨v', w', hr, ho, s, hloc⟩ := int_app (W.alloc (.cells #[.int .i64 (x : Int)] 3)) (l.map (fun (x : Nat) => (x : Int))) [(x : Int)] v (hh.alloc _) W.heap.size 0 1 (fun j u hu => by
    have h1 := heap_alloc_last W (.cells #[.int .i64 (x : Int)] 3)
    have hj : j = 0 := by
      rcases Nat.eq_zero_or_pos j with h | h
      · exact h
      · rw [List.getElem?_eq_none (by simp; omega)] at hu; cases hu
    subst hj
    have hu2 : u = .int .i64 (x : Int) := by simpa [IV] using hu.symm
    subst hu2
    simp only [World.cell?, Nat.zero_add, h1]; rfl) (by simp) (by simp; omega)
  have e1 : (l.map (fun (x : Nat) => (x : Int)) ++ [(x : Int)]) = (l ++ [x]).map (fun (x : Nat) => (x : Int)) := by simp
  rw [e1, List.length_map, ← e0] at ho
  obtain ⟨a, c, rfl, -⟩ := slice_form ho
  have e2 : (l ++ [x]).length = l.length + 1 := by simp
  refine ⟨a, c, w', ?_, ?_, ((Stay.refl _ W).alloc _).trans s, fun k hk => ?_⟩
  · rw [e2] at hr; exact hr
  · rw [e2] at ho ⊢; exact ho
  · rw [e2] at hloc
    exact (hloc k hk).imp id (fun h => by simp at h; omega)
set_option maxHeartbeats 4000000 in
set_option maxRecDepth 100000 in
theorem several_any (p : ByteArray) (a n : Nat) (w : World) (hp : p.size < 4611686018427387904) (hn : n ≤ 1000) :
    Calls Tryd.prog 13 #[.string p, .int .i64 (a : Int), .int .i64 (n : Int)] w (SevR w (rd p MX n a)) := by
  obtain ⟨X, hX⟩ : ∃ X, X = rd p MX n a := ⟨_, rfl⟩
  rw [← hX]
  have HX := Hid.mk hX
  clear hX
  go_enter Tryd.func13, Tryd.ntmps13
  go_wp2
  go_loopw [1, 9, 10] (fun av lv iv wr => ∃ (i q : Nat) (pre : List Nat), av = .int .i64 (q : Int) ∧ iv = .int .i64 (i : Int) ∧ i ≤ n ∧ pre.length = i ∧ X = (rd p MX (n - i) q).map (fun z => (pre ++ z.1, z.2)) ∧ wr.ownsRow 0 3 1 lv pre.length (pre.map natV) ∧ (∀ g, lv.ownBlock = some g → w.heap.size ≤ g) ∧ Below w.heap.size w wr) (fun _ _ iv _ => n - (intOf iv).toNat)
  case atStart => exact ⟨0, a, [], rfl, rfl, Nat.zero_le _, rfl, by rw [HX.out, Nat.sub_zero]; cases rd p MX n a <;> simp [Except.map], nat_own _, (fun g hg => by cases hg), Below.refl _ _⟩
  case round =>
    obtain ⟨i, q, pre, rfl, rfl, hi, hpl, hE, ho, hg, hb⟩ := hrel
    obtain ⟨va, vc, hv, hvc⟩ := slice_form ho
    subst hv
    by_cases hlt : i < n
    · have i1 : (i : Int) < (n : Int) := by omega
      have hw3 : IntKind.i64.wrap ((i : Int) + 1) = (i : Int) + 1 := by rw [IntKind.wrap_i64]; omega
      have hrv := rvar_any p q wr hp
      obtain ⟨m, hm⟩ : ∃ m, n - i = m + 1 := ⟨n - i - 1, by omega⟩
      have hm' : n - (i + 1) = m := by omega
      rw [hm, rd_more] at hE
      obtain ⟨V, Nx, Er, hvA⟩ : ∃ V Nx Er, vA p q = (V, Nx, Er) := ⟨_, _, _, rfl⟩
      rw [hvA] at hrv hE
      simp only at hrv hE
      have FN := Hid.mk (And.intro hE (And.intro ho (And.intro hg (And.intro hb (And.intro hpl hm')))))
      clear hE ho hg hb hm hm' hvA hvc hi
      obtain ⟨pl, hpl'⟩ : ∃ pl, pl = pre.length := ⟨_, rfl⟩
      rw [← hpl']
      have HPL := Hid.mk hpl'
      clear hpl hpl'
      by_cases hEr : Er = 0
      · subst hEr
        by_cases hV : MX < V
        · have hV' : (1152921504606846976 : Int) < (V : Int) := by unfold MX at hV; omega
          clear hV
          have HV := Hid.mk (show MX < V by unfold MX; omega)
          go_wp2_with (go_at_call 40; refine hrv.mono ?_; clear hrv; rintro e w' ⟨rfl, rfl⟩)
          go_ret3
          refine ⟨FN.out.2.2.2.1, .inl ⟨80, ?_, rfl⟩⟩
          rw [FN.out.1, if_neg (by simp), if_pos HV.out]
        · have hV' : ¬ ((1152921504606846976 : Int) < (V : Int)) := by unfold MX at hV; omega
          have HV := Hid.mk hV
          have hwv : IntKind.i64.wrap (V : Int) = (V : Int) := by unfold MX at hV; rw [IntKind.wrap_i64]; omega
          clear hV
          obtain ⟨a2, c2, w2, hap, ho2, st, hloc⟩ := nat_app1 wr pre (.slice va pre.length vc) FN.out.2.1 V (by have := FN.out.2.2.2.2.1; omega)
          rw [← HPL.out] at hap
          have b2 : Below w.heap.size w w2 := FN.out.2.2.2.1.trans (st.toBelow (fun k hk e => by have := FN.out.2.2.1 k e; omega) FN.out.2.2.2.1.size)
          have F2 := Hid.mk (And.intro ho2 (And.intro b2 (show ∀ g, (Value.slice a2 (pre.length + 1) c2).ownBlock = some g → w.heap.size ≤ g from fun g hg => (hloc g hg).elim (FN.out.2.2.1 g) (fun h => Nat.le_trans FN.out.2.2.2.1.size h))))
          clear ho2 b2 st hloc
          go_wp2_with first
            | (go_at_call 40; refine hrv.mono ?_; clear hrv; rintro e w' ⟨rfl, rfl⟩)
            | (at_builtin; refine wpList_append_eq rfl _ _ _ _ rfl _ _ _ _ rfl rfl hap ?_; clear hap)
          refine ⟨⟨i + 1, Nx, pre ++ [V], rfl, ival (by omega), hlt, by simp; exact FN.out.2.2.2.2.1, ?_, ?_, ?_, F2.out.2.1⟩, by simp only [intOf]; omega⟩
          · rw [FN.out.1, if_neg (by simp), if_neg HV.out, FN.out.2.2.2.2.2]
          · have := F2.out.1; rw [← HPL.out] at this; exact this
          · have := F2.out.2.2; rw [← HPL.out] at this; exact this
      · have hE1 : (Er != 0) = true := by simpa using hEr
        have HE := Hid.mk hEr
        clear hEr
        go_wp2_with (go_at_call 40; refine hrv.mono ?_; clear hrv; rintro e w' ⟨rfl, rfl⟩)
        go_ret3
        refine ⟨FN.out.2.2.2.1, .inl ⟨Er, ?_, rfl⟩⟩
        rw [FN.out.1, if_pos HE.out]
    · have i1 : (n : Int) ≤ (i : Int) := by omega
      have hz : n - i = 0 := by omega
      rw [hz] at hE
      have FN := Hid.mk (And.intro hE (And.intro ho hb))
      clear hE ho hg hb hz hpl hvc hlt
      obtain ⟨pl, hpl'⟩ : ∃ pl, pl = pre.length := ⟨_, rfl⟩
      rw [← hpl']
      have HPL := Hid.mk hpl'
      clear hpl'
      go_wp2
      go_ret3
      refine ⟨FN.out.2.2, .inr ⟨pre, q, va, vc, ?_, by rw [← HPL.out]; rfl, FN.out.2.1⟩⟩
      rw [FN.out.1, rd]; simp [Except.map]
end Go.Proofs.YtejpakejfikkmaaDoor
