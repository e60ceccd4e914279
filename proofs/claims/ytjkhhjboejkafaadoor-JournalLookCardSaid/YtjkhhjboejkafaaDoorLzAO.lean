/-
  DERIVED. JUpd, as one text.
-/
import Derived.Test.YtjkhhjboejkafaaDoorLzAM
import Derived.Test.YtjkhhjboejkafaaDoorLzAN
import Derived.Test.YtjkhhjboejkafaaDoorLzAA
set_option linter.unusedVariables false
set_option linter.unusedSimpArgs false
namespace Go.Proofs.YtjkhhjboejkafaaDoor
open Go.RowKit Go.Shelf Go.Proofs.SealMath
attribute [local go_sem] Oper.semAt_some
theorem updates_any (b : ByteArray) (x : Int) (w : World) :
    Calls Tryd.prog 30 #[.string b, .int .i64 x] w fun r w' => r = .returned (.func (.func 47) #[] #[Pt w.heap.size, Pt (w.heap.size + 1)]) ∧ w' = (w.alloc (.cells #[.string b] 9)).alloc (.cells #[.int .i64 x] 3) := by
  have hmf : ∀ (fn : Fn) (first cap : Array Value) (w : World), (Instr.makeFunc fn first cap).run Tryd.prog w = .ok (.func fn first cap) w := fun _ _ _ _ => rfl
  go_enter Tryd.func30, Tryd.ntmps30
  go_wp2
  go_ret
  exact ⟨rfl, rfl⟩
/-- What the iterator does by itself: it makes. -/
def TrN (s : Unit) (A : World) (s' : Unit) (B : World) : Prop := Below A.heap.size A B
theorem TrN.others {s s' : Unit} {A B : World} (h : TrN s A s' B) : KeepsOthers A B :=
  ⟨Below.size h, fun k o hk ho => (Below.block h k (Array.getElem?_eq_some_iff.1 hk).1).trans hk⟩
/-- What a round keeps of the iterator's. -/
def KpN (K : Nat → Prop) (s : Unit) (A B : World) : Prop := A.heap.size ≤ B.heap.size ∧ ∀ k c t m, K k → A.heap[k]? = some (.cells c t m) → B.heap[k]? = some (.cells c t m)
theorem KpN.trans {K : Nat → Prop} {s : Unit} {A B C : World} (h : KpN K s A B) (k : KpN K s B C) : KpN K s A C := ⟨Nat.le_trans h.1 k.1, fun i c t m hi hc => k.2 i c t m hi (h.2 i c t m hi hc)⟩
theorem KpN.put {K : Nat → Prop} (s : Unit) (A : World) (l : Nat) (o o' : Obj) (h : A.heap[l]? = some o) (ho : o.isCells = false) : KpN K s A (A.putObj l o') := ⟨by simp, fun k c t m _ hc =>
  (World.putObj_heap_other (fun e => by subst e; rw [h] at hc; cases hc; cases ho)).trans hc⟩
theorem Tab.same {w W : World} (h : Tab w) (e : W.heap[0]? = w.heap[0]?) : Tab W := fun i hi => by
  have h1 := h i hi
  simp only [World.cell?, e] at h1 ⊢
  exact h1
abbrev encU (z : Up × Nat) : Array Value := #[.agg (upV z.1), .int .i64 z.2]
def mU (n : Nat) (u6 u7 : Value) : Nat := match u7 with
  | .int _ 0 => n + 1 - (intOf u6).toNat
  | _ => 0
theorem boxu {w A : World} {b t : Nat} {v : Value} (h : w.heap[b]? = some (.cells #[v] t (0, 0))) (hA : A.heap[b]? = w.heap[b]?) : A.cell? ⟨b, 0, none⟩ = some v := by simp [World.cell?, hA, h]
/-- What stands while the frames are gone through. -/
structure UI (b : ByteArray) (x : Int) (K : Nat → Prop) (w : World) (J : List (Up × Nat) → Unit → World → Prop) (pre : List (Up × Nat)) (a : Nat) (wr : World) : Prop where
  le : a ≤ b.size
  eq : pre ++ ups b x a = ups b x 0
  j : J pre () wr
  kept : ∀ k, K k → wr.heap[k]? = w.heap[k]?
  size : w.heap.size ≤ wr.heap.size
set_option maxRecDepth 100000 in
set_option maxHeartbeats 2000000 in
theorem upd_st (b : ByteArray) (x : Int) (Bb Bw n : Nat) (K : Nat → Prop) (w : World)
    (hb1 : w.heap[Bb]? = some (.cells #[.string b] 9 (0, 0))) (hx1 : w.heap[Bw]? = some (.cells #[.int .i64 x] 3 (0, 0))) (ht : Tab w)
    (hK' : K Bb ∧ K Bw ∧ K 0) (hKc : ∀ k, K k → ∃ c t m, w.heap[k]? = some (.cells c t m)) (hbs : b.size < 1152921504606846976) :
    SeqSt Fence.wide n Tryd.prog 47 #[Pt Bb, Pt Bw] encU (fun p z => p ++ [z] <+: ups b x 0) TrN (KpN K) (fun p => p = ups b x 0) (fun _ => True) () w := fun lp J Jx W hW hJ hJx hY h0 => by
  have hKl : ∀ k, K k → k < w.heap.size := fun k hk => by obtain ⟨c, t, m, h⟩ := hKc k hk; exact (Array.getElem?_eq_some_iff.1 h).1
  have hkW : ∀ k, K k → W.heap[k]? = w.heap[k]? := fun k hk => hW.block k (hKl k hk)
  have hX := boxu hb1 (hkW Bb hK'.1)
  have hbl : Bb < W.heap.size := World.block_lt_of_cell? W _ hX
  have hpar := fun a (V : World) (hV : V.heap[0]? = w.heap[0]?) (ha : a ≤ b.size) => parse_ok b a (psA b a) V (ht.same hV) (by have h1 := (ht.same hV).pos; omega) (by omega) ha rfl
  have hp0 := hpar 0 W (hkW _ hK'.2.2) (Nat.zero_le _)
  obtain ⟨R, hR⟩ : ∃ R, R = psA b 0 := ⟨_, rfl⟩
  rw [← hR] at hp0
  have HR0 := Hid.mk hR
  clear hR
  refine callsIn_of_wp Tryd.func47 rfl trivial ?_ rfl
  simp only [Tryd.ntmps47, List.size_toArray, List.length_cons, List.length_nil, Nat.reduceAdd, Nat.reduceSub, Array.replicate_succ, Array.replicate_zero, List.push_toArray, List.append_toArray, List.nil_append, List.cons_append]
  gi_wp2_with fail
  refine ⟨trivial, fun h => (by cases h), (callsIn_wide.2 hp0).mono ?_⟩
  clear hp0
  rintro r w1 ⟨rfl, b1⟩
  have P0 : UI b x K w J [] 0 w1 :=
    { le := Nat.zero_le _, eq := rfl
      j := hJ _ _ W _ _ h0 b1
      kept := fun k hk => (b1.block k (Nat.lt_of_lt_of_le (hKl k hk) hW.size)).trans (hkW k hk)
      size := Nat.le_trans hW.size b1.size }
  clear hX hbl b1
  gi_wp2
  gi_loopw [4, 5, 6, 7, 8, 9] (fun u4 u5 u6 u7 _ _ wr => ∃ (pre : List (Up × Nat)) (a : Nat) (R : Nat × List UInt8 × Nat × Int), R = psA b a ∧ u4 = .int .i64 R.1 ∧ u5 = .string ⟨R.2.1.toArray⟩ ∧ u6 = .int .i64 R.2.2.1 ∧ u7 = .int .i64 R.2.2.2 ∧ Hid (UI b x K w J pre a wr)) (fun _ _ u6 u7 _ _ _ => mU b.size u6 u7)
  case atStart => exact ⟨[], 0, R, HR0.out, rfl, rfl, rfl, rfl, P0⟩
  case round =>
    clear P0 HR0
    obtain ⟨pre, a, R, hR, rfl, rfl, rfl, rfl, HP⟩ := hrel
    by_cases hE : R.2.2.2 = 0
    · have hE' := hE
      rw [hR] at hE'
      have hn := psA_next hE'
      have heq := HP.out.eq
      rw [ups_some hE'] at heq
      rw [← hR] at hn heq
      obtain ⟨k, pl, q, e⟩ := R
      simp only [] at hE hn heq
      subst hE
      have HR := Hid.mk hR
      have hun := fun (V : World) => unpack_any k ⟨pl.toArray⟩ x V (by rw [ba_len]; simp; omega)
      obtain ⟨U, hU⟩ : ∃ U, U = unA k ⟨pl.toArray⟩ x := ⟨_, rfl⟩
      rw [← hU] at hun heq
      obtain ⟨⟨us, uk, ui, uc⟩, ue⟩ := U
      have kept1 := HP.out.kept
      have hX := boxu hx1 (kept1 Bw hK'.2.1)
      have HN := Hid.mk hn
      have HQ := Hid.mk heq
      clear hR hU hE' hn heq kept1
      gi_wp2_with fail
      refine ⟨trivial, fun h => (by cases h), (callsIn_wide.2 (hun wr)).mono ?_⟩
      clear hun
      rintro r2 W2 ⟨rfl, b2⟩
      have b3 : Below wr.heap.size wr (W2.alloc (.cells #[.int .i64 us, .int .i64 uk, .int .i64 ui, .string ⟨uc.toArray⟩] 39)) := b2.alloc (by have := b2.size; omega) _
      have hJ3 := hJ _ _ wr () _ HP.out.j b3
      obtain ⟨fn, tmps, assign, body, hy, hRd⟩ := hY pre (⟨us, uk, ui, uc⟩, q) () _ hJ3 ⟨ups b x q, by rw [← HQ.out]; simp⟩
      simp only [encU, upV, uC] at hy
      have kept3 : ∀ k, K k → (W2.alloc (.cells #[.int .i64 us, .int .i64 uk, .int .i64 ui, .string ⟨uc.toArray⟩] 39)).heap[k]? = w.heap[k]? := fun k hk => (b3.block k (Nat.lt_of_lt_of_le (hKl k hk) HP.out.size)).trans (HP.out.kept k hk)
      have HK3 := Hid.mk kept3
      have Hs3 := Hid.mk (Nat.le_trans HP.out.size b3.size)
      have hbx := boxu hb1 (kept3 Bb hK'.1)
      clear hX kept3 b2 b3 hJ3
      gi_wp2_with fail
      refine ⟨fun h => (by cases h), hRd.mono ?_⟩
      clear hy hRd hbx
      rintro rr W5 (⟨rfl, hJ5, hk5⟩ | ⟨rfl, hJ5, hk5⟩)
      · have kept5 : ∀ k, K k → W5.heap[k]? = w.heap[k]? := fun k hk => by
          obtain ⟨c, t, m, h⟩ := hKc k hk
          rw [h]
          exact hk5.2 k c t m hk ((HK3.out k hk).trans h)
        have hX := boxu hb1 (kept5 Bb hK'.1)
        have hp5 := hpar q W5 (kept5 _ hK'.2.2) HN.out.2.1
        obtain ⟨R5, hR5⟩ : ∃ R5, R5 = psA b q := ⟨_, rfl⟩
        rw [← hR5] at hp5
        have HR5 := Hid.mk hR5
        have HJ5 := Hid.mk hJ5
        have HK5 := Hid.mk kept5
        have Hs5 := Hid.mk (Nat.le_trans Hs3.out hk5.1)
        clear hR5 hJ5 kept5 hk5
        gi_wp2_with fail
        refine ⟨trivial, fun h => (by cases h), (callsIn_wide.2 hp5).mono ?_⟩
        clear hp5
        rintro r6 W6 ⟨rfl, b6⟩
        have P6 : UI b x K w J (pre ++ [(⟨us, uk, ui, uc⟩, q)]) q W6 :=
          { le := HN.out.2.1, eq := by rw [List.append_assoc]; exact HQ.out
            j := hJ _ _ W5 _ _ HJ5.out b6
            kept := fun k hk => (b6.block k (Nat.lt_of_lt_of_le (hKl k hk) Hs5.out)).trans (HK5.out k hk)
            size := Nat.le_trans Hs5.out b6.size }
        have HP6 := Hid.mk P6
        have hme : mU b.size (.int .i64 R5.2.2.1) (.int .i64 R5.2.2.2) < mU b.size (.int .i64 q) (.int .i64 0) := by
          have hq := HN.out
          by_cases h5 : R5.2.2.2 = 0
          · have h6 := h5
            rw [HR5.out] at h6
            have h7 := psA_next h6
            rw [← HR5.out] at h7
            rw [h5]
            simp only [mU, intOf]
            omega
          · have e0 : mU b.size (.int .i64 R5.2.2.1) (.int .i64 R5.2.2.2) = 0 := by
              unfold mU
              split
              · rename_i h8
                simp only [Value.int.injEq] at h8
                exact absurd h8.2 h5
              · rfl
            rw [e0]
            simp only [mU, intOf]
            omega
        clear hX b6 P6
        gi_wp2
        exact ⟨⟨pre ++ [(⟨us, uk, ui, uc⟩, q)], q, R5, HR5.out, rfl, rfl, rfl, rfl, HP6⟩, hme⟩
      · have HJ := Hid.mk hJ5
        clear hJ5 hk5
        gi_wp2_with fail
        refine bodyPost_ret (results_none Tryd.results47 _ _ _) rfl ?_
        exact ⟨⟨_, rfl⟩, .inr ⟨_, _, trivial, HJ.out⟩⟩
    · have hE' := hE
      rw [hR] at hE'
      have heq := HP.out.eq
      rw [ups_none hE', List.append_nil] at heq
      have hj := HP.out.j
      have HQ := Hid.mk (And.intro heq hj)
      clear hR hE' heq hj HP
      gi_wp2_with fail
      go_end0
      exact ⟨⟨_, rfl⟩, .inl ⟨pre, (), HQ.out.1, HQ.out.2⟩⟩
end Go.Proofs.YtjkhhjboejkafaaDoor
