/-
  DERIVED. The library's heap works on what is kept; what is kept, as a list in order.
-/
import Derived.Test.YtekgppmhcbmpeaaDoorEMap
set_option linter.unusedVariables false
set_option linter.unusedSimpArgs false
namespace Go.Proofs.YtekgppmhcbmpeaaDoor
open Go.RowKit
abbrev LIM : Nat := 4398046511102
/-- The heap holds these, in this order. -/
def HM (kp mb : Nat) (g : Int) (xs : List Ht) (W : World) : Prop := ∃ v, Kp W kp v mb g ∧ HRow W v xs ∧ xs.length ≤ LIM
/-- What stays while the heap is worked on: all blocks but the kept one's and its row's. -/
structure FrM (m : Nat) (A B : World) : Prop where
  os : B.os = A.os
  tape : B.tape = A.tape
  output : B.output = A.output
  size : A.heap.size ≤ B.heap.size
  block : ∀ k, k < A.heap.size → k ≠ m → (∀ av, A.cell? ⟨m, 1, none⟩ = some av → av.ownBlock ≠ some k) → B.heap[k]? = A.heap[k]?
  loc : ∀ k av, B.cell? ⟨m, 1, none⟩ = some av → av.ownBlock = some k → (∃ av', A.cell? ⟨m, 1, none⟩ = some av' ∧ av'.ownBlock = some k) ∨ A.heap.size ≤ k
theorem FrM.refl (m : Nat) (A : World) : FrM m A A := ⟨rfl, rfl, rfl, Nat.le_refl _, fun _ _ _ _ => rfl, fun k av h1 h2 => .inl ⟨av, h1, h2⟩⟩
theorem FrM.trans {m : Nat} {A B C : World} (h : FrM m A B) (k : FrM m B C) : FrM m A C :=
  ⟨k.os.trans h.os, k.tape.trans h.tape, k.output.trans h.output, Nat.le_trans h.size k.size,
    fun i hi hm hA => (k.block i (Nat.lt_of_lt_of_le hi h.size) hm (fun av hB he => by
      rcases h.loc i av hB he with ⟨av', h1, h2⟩ | h1
      · exact hA av' h1 h2
      · omega)).trans (h.block i hi hm hA),
    fun i av hC he => by
      rcases k.loc i av hC he with ⟨av', h1, h2⟩ | h1
      · exact h.loc i av' h1 h2
      · exact .inr (Nat.le_trans h.size h1)⟩
theorem FrM.of {m mb mb' : Nat} {g g' : Int} {av v' : Value} {w w' : World} (hm : Kp w m av mb g) (hm' : Kp w' m v' mb' g') (h : HSt m av v' w w') : FrM m w w' :=
  ⟨h.stay.os, h.stay.tape, h.stay.output, h.stay.size, fun k hk hne hA => h.stay.block k hk (fun e => e.elim hne (fun e => hA av hm.cells.2.1 e)),
    fun k u hu he => by
      rw [hm'.cells.2.1] at hu; cases hu
      exact (h.loc k he).imp (fun e => ⟨av, hm.cells.2.1, e⟩) id⟩
theorem FrM.below {m mb : Nat} {g : Int} {av : Value} {w w' : World} (hm : Kp w m av mb g) (h : Below w.heap.size w w') : FrM m w w' :=
  ⟨h.os, h.tape, h.output, h.size, fun k hk _ _ => h.block k hk, fun k u hu he => by
    rw [cell_lat h hm.cells.2.1] at hu; cases hu
    exact .inl ⟨av, hm.cells.2.1, he⟩⟩
theorem Kp.below {w w' : World} {m mb : Nat} {g : Int} {av : Value} (hm : Kp w m av mb g) (h : Below w.heap.size w w') : Kp w' m av mb g := (h.block m hm.lt).trans hm
theorem HRow.below {w w' : World} {v : Value} {xs : List Ht} (hs : HRow w v xs) (h : Below w.heap.size w w') : HRow w' v xs := row_kept (F := fun _ => False) hs (.below h) (fun _ _ h => h)
theorem meth_less (p : Addr) (W : World) : (method 262 88 (.pointer (some p)) "Less").run Tryd.prog W = .ok (118, .pointer (some p)) W := by kernel_rfl
theorem meth_swap (p : Addr) (W : World) : (method 262 88 (.pointer (some p)) "Swap").run Tryd.prog W = .ok (121, .pointer (some p)) W := by kernel_rfl
theorem meth_len (p : Addr) (W : World) : (method 262 88 (.pointer (some p)) "Len").run Tryd.prog W = .ok (64, .pointer (some p)) W := by kernel_rfl
theorem meth_push (p : Addr) (W : World) : (method 262 88 (.pointer (some p)) "Push").run Tryd.prog W = .ok (120, .pointer (some p)) W := by kernel_rfl
theorem meth_pop (p : Addr) (W : World) : (method 262 88 (.pointer (some p)) "Pop").run Tryd.prog W = .ok (119, .pointer (some p)) W := by kernel_rfl
/-- The library's heap works on it. -/
theorem hops (kp mb : Nat) (g : Int) : HOps (.pointer (some ⟨kp, 0, none⟩)) gtH (HM kp mb g) (FrM kp) where
  refl := FrM.refl kp
  trans := FrM.trans
  small := fun xs W ⟨av, _, _, h⟩ => by unfold LIM at h; omega
  less := fun xs W i j ⟨av, hm, hr, hl⟩ hi hj => ⟨_, meth_less _ W, by
    rw [ltAt_eq gtH xs i j hi hj]
    exact (less_any kp mb g xs av i j W hm hr hi hj).mono fun r W' ⟨e, b⟩ => ⟨e, ⟨av, hm.below b, HRow.below hr b, hl⟩, FrM.below hm b⟩⟩
  swap := fun xs W i j ⟨av, hm, hr, hl⟩ hi hj => ⟨_, meth_swap _ W, (swap_any kp mb g xs av i j W hm hr hi hj).mono fun r W' ⟨e, h1, h2⟩ => by
    have hm' : Kp W' kp av mb g := hm.kept h2 (fun e => hm.apart hr e rfl)
    exact ⟨e, ⟨av, hm', h1, by rw [swapL_len]; exact hl⟩, FrM.of hm hm' ⟨h2.mono (fun k _ e => .inr e), fun k hk => .inl hk⟩⟩⟩
  len := fun xs W ⟨av, hm, hr, hl⟩ => ⟨_, meth_len _ W, (len_any kp mb g xs av W hm hr).mono fun r W' ⟨e, e2⟩ => by
    subst e2; exact ⟨e, ⟨av, hm, hr, hl⟩, FrM.refl _ _⟩⟩
theorem hops2 (kp mb : Nat) (g : Int) : HOps2 (.pointer (some ⟨kp, 0, none⟩)) (HM kp mb g) (FrM kp) hI (fun s xs W => xs.length < LIM) where
  push := fun xs W x ⟨av, hm, hr, hl⟩ hp => ⟨_, meth_push _ W, (apush_any kp mb g xs x av W hm hr (by unfold LIM at hp; omega)).mono fun r W' ⟨e, v', h1, h2, h3⟩ => ⟨e, ⟨v', h1, h2, by simp; omega⟩, FrM.of hm h1 h3⟩⟩
  pop := fun xs W x ⟨av, hm, hr, hl⟩ => ⟨_, meth_pop _ W, (apop_any kp mb g xs x av W hm hr (by unfold LIM at hl; simp at hl; omega)).mono fun r W' ⟨e, v', h1, h2, h3⟩ => ⟨e, ⟨v', h1, h2, by simp at hl; omega⟩, FrM.of hm h1 h3⟩⟩
theorem ordG : Ord gtH where
  asym := fun a b h => by
    unfold gtH at h ⊢
    have r := cpH_rev a b
    simp at h ⊢; omega
  ge := fun a b c h1 h2 => by
    unfold gtH at h1 h2 ⊢
    simp at h1 h2 ⊢
    exact cpH_le h2 h1
/-- What a Pop leaves. -/
theorem pop_pure (ys : List Ht) (n : Nat) (hn : ys.length = n + 1) (h : HeapN gtH ys ys.length) :
    ∃ ys' x, downL gtH (swapL ys 0 n) 0 n = ys' ++ [x] ∧ ys[0]? = some x ∧ ys'.length = n ∧ (x :: ys').Perm ys ∧ HeapN gtH ys' ys'.length ∧ ∀ b ∈ ys', gtH b x = false := by
  have h0 : 0 < ys.length := by omega
  have hnl : n < ys.length := by omega
  obtain ⟨p1, p2⟩ := down_perm gtH n n (swapL ys 0 n) 0 (by omega) (by rw [swapL_len]; omega)
  have hd : DownTo gtH (swapL ys 0 n) 0 n := ⟨fun j hp hj hne => by
      rw [swap_at ys 0 n h0 hnl, sw_o (k := j) (by omega) (by omega), sw_o (k := (j - 1) / 2) (by omega) (by omega)]
      exact h j hp (by omega), fun j hp hj hi => by omega⟩
  have hh := down_heap ordG n n (swapL ys 0 n) 0 (by omega) (by rw [swapL_len]; omega) hd
  obtain ⟨zs, hz⟩ : ∃ zs, zs = downL gtH (swapL ys 0 n) 0 n := ⟨_, rfl⟩
  rw [← hz] at p1 p2 hh
  have hzl : zs.length = n + 1 := by rw [p1.length_eq, swapL_len, hn]
  have hx : zs[n]? = ys[0]? := by rw [p2 n (Nat.le_refl _), swap_get? ys 0 n h0 hnl, sw_j]
  have hsplit : zs = zs.take n ++ [ys[0]] := by
    have : zs.drop n = [ys[0]] := by
      rw [List.drop_eq_getElem_cons (by omega), List.drop_eq_nil_of_le (by omega)]
      rw [List.getElem?_eq_getElem (by omega), List.getElem?_eq_getElem h0] at hx
      rw [Option.some.inj hx]
    rw [← this, List.take_append_drop]
  have hperm : (ys[0] :: zs.take n).Perm ys := by
    refine List.Perm.trans ?_ (p1.trans (swap_perm ys 0 n h0 hnl))
    conv => rhs; rw [hsplit]
    exact List.perm_append_comm (l₁ := [ys[0]])
  refine ⟨zs.take n, ys[0], by rw [← hz]; exact hsplit, List.getElem?_eq_getElem h0, by rw [List.length_take]; omega, hperm, ?_, ?_⟩
  · intro j hp hj
    have hjn : j < n := by rw [List.length_take] at hj; omega
    have := hh j hp hjn
    unfold ltAt at this ⊢
    rw [List.getElem?_take_of_lt hjn, List.getElem?_take_of_lt (by omega)]
    exact this
  · intro b hb
    have hb' : b ∈ ys := hperm.mem_iff.1 (List.mem_cons_of_mem _ hb)
    obtain ⟨j, hj, rfl⟩ := List.getElem_of_mem hb'
    have := heap_least ordG h j hj
    rw [ltAt_eq gtH ys j 0 hj h0] at this
    exact this
/-- .. and what a Push makes. -/
theorem push_pure (xs : List Ht) (x : Ht) (h : HeapN gtH xs xs.length) : (upL gtH (xs ++ [x]) xs.length).Perm (x :: xs) ∧ HeapN gtH (upL gtH (xs ++ [x]) xs.length) (upL gtH (xs ++ [x]) xs.length).length := by
  have hp := up_perm gtH (xs ++ [x]) xs.length (by simp)
  refine ⟨hp.trans List.perm_append_comm, ?_⟩
  have hh := up_heap ordG (xs ++ [x]) xs.length (by simp) ⟨fun j h0 hj hne => ?_, fun j h0 hj hk he => ?_⟩
  · rw [hp.length_eq]; exact hh
  · simp at hj
    have hjl : j < xs.length := by omega
    have := h j h0 hjl
    unfold ltAt at this ⊢
    rw [List.getElem?_append_left hjl, List.getElem?_append_left (by omega)]
    exact this
  · simp at hj
    omega
/-- What a list that is kept may write. -/
def Ft (W : World) (kp k : Nat) : Prop := k = kp ∨ (∃ v, W.cell? ⟨kp, 1, none⟩ = some v ∧ v.ownBlock = some k) ∨ W.cell? ⟨kp, 2, none⟩ = some (.map (some k))
structure FrK (kp : Nat) (A B : World) : Prop where
  stay : Stay (Ft A kp) A B
  loc : ∀ k, Ft B kp k → Ft A kp k ∨ A.heap.size ≤ k
theorem FrK.refl (kp : Nat) (A : World) : FrK kp A A := ⟨.refl _ _, fun k h => .inl h⟩
theorem FrK.trans {kp : Nat} {A B C : World} (h : FrK kp A B) (k : FrK kp B C) : FrK kp A C :=
  ⟨h.stay.andThen k.stay (fun i hi hB => (h.loc i hB).resolve_right (by omega)), fun i hC => by
    rcases k.loc i hC with h1 | h1
    · exact h.loc i h1
    · exact .inr (Nat.le_trans h.stay.size h1)⟩
theorem Kp.ft {W : World} {kp mb : Nat} {v : Value} {g : Int} (h : Kp W kp v mb g) (k : Nat) : Ft W kp k ↔ k = kp ∨ v.ownBlock = some k ∨ mb = k := by
  obtain ⟨-, h1, h2, -⟩ := h.cells
  unfold Ft
  rw [h1, h2]
  constructor
  · rintro (h | ⟨v', e, h⟩ | h)
    · exact .inl h
    · cases e; exact .inr (.inl h)
    · simp at h; exact .inr (.inr h)
  · rintro (h | h | h)
    · exact .inl h
    · exact .inr (.inl ⟨v, rfl, h⟩)
    · subst h; exact .inr (.inr rfl)
theorem FrK.below {kp mb : Nat} {v : Value} {g : Int} {A B : World} (h : Kp A kp v mb g) (b : Below A.heap.size A B) : FrK kp A B := ⟨.below b, fun k hk => by
  have h2 := h.below b
  exact .inl ((h.ft k).2 ((h2.ft k).1 hk))⟩
/-- What the heap's work leaves. -/
theorem FrM.frk {kp mb : Nat} {v v' : Value} {g g' : Int} {A B : World} (f : FrM kp A B) (hA : Kp A kp v mb g) (hB : Kp B kp v' mb g') : FrK kp A B :=
  ⟨⟨f.os, f.tape, f.output, f.size, fun k hk hF => f.block k hk (fun e => hF (.inl e)) (fun av e1 e2 => hF (.inr (.inl ⟨av, e1, e2⟩)))⟩, fun k hk => by
    rcases (hB.ft k).1 hk with h | h | h
    · exact .inl ((hA.ft k).2 (.inl h))
    · rcases f.loc k v' hB.cells.2.1 h with ⟨av, e1, e2⟩ | h
      · exact .inl (.inr (.inl ⟨av, e1, e2⟩))
      · exact .inr h
    · exact .inl ((hA.ft k).2 (.inr (.inr h)))⟩
/-- The map's block is neither the row's nor what is kept. -/
theorem MS.apart {W : World} {mb : Nat} {xs : List Ht} (h : MS W mb xs) {kp mb' : Nat} {v : Value} {g : Int} (hk : Kp W kp v mb' g) {u : Value} {ys : List Ht} (hr : HRow W u ys) : mb ≠ kp ∧ u.ownBlock ≠ some mb := by
  obtain ⟨D, ⟨es, clock, hb, -⟩, -⟩ := h
  refine ⟨fun e => ?_, fun e => ?_⟩
  · unfold Kp at hk
    rw [← e, hb] at hk; simp at hk
  · obtain ⟨cur, hc⟩ := row_block hr e
    rw [hb] at hc; simp at hc
/-- What is kept, as a list in order. -/
structure KH (W : World) (kp mb : Nat) (v : Value) (g : Int) (xs X : List Ht) : Prop where
  kp' : Kp W kp v mb g
  row : HRow W v xs
  set : MS W mb xs
  perm : xs.Perm X
  heap : HeapN gtH xs xs.length
  fit : ∀ x ∈ X, HtW x
  srt : Srt X
  g0 : 0 ≤ g
  gl : g ≤ X.length
  lim : X.length ≤ LIM
def KK (W : World) (kp : Nat) (X : List Ht) : Prop := ∃ mb v g xs, KH W kp mb v g xs X
theorem KH.below {w w' : World} {kp mb : Nat} {v : Value} {g : Int} {xs X : List Ht} (h : KH w kp mb v g xs X) (b : Below w.heap.size w w') : KH w' kp mb v g xs X := { h with kp' := h.kp'.below b, row := HRow.below h.row b, set := h.set.block (b.block mb h.set.lt) }
theorem KK.below {w w' : World} {kp : Nat} {X : List Ht} (h : KK w kp X) (b : Below w.heap.size w w') : KK w' kp X := by
  obtain ⟨mb, v, g, xs, h⟩ := h
  exact ⟨mb, v, g, xs, h.below b⟩
theorem KH.xfit {w : World} {kp mb : Nat} {v : Value} {g : Int} {xs X : List Ht} (h : KH w kp mb v g xs X) : ∀ x ∈ xs, HtW x := fun x hx => h.fit x (h.perm.mem_iff.1 hx)
theorem KH.len {w : World} {kp mb : Nat} {v : Value} {g : Int} {xs X : List Ht} (h : KH w kp mb v g xs X) : xs.length = X.length := h.perm.length_eq
theorem KH.hm {w : World} {kp mb : Nat} {v : Value} {g : Int} {xs X : List Ht} (h : KH w kp mb v g xs X) : HM kp mb g xs w := ⟨v, h.kp', h.row, by rw [h.len]; exact h.lim⟩
/-- What it may write lies within the heap. -/
theorem KH.ftlt {w : World} {kp mb : Nat} {v : Value} {g : Int} {xs X : List Ht} (h : KH w kp mb v g xs X) (k : Nat) (hk : Ft w kp k) : k < w.heap.size := by
  rcases (h.kp'.ft k).1 hk with e | e | e
  · subst e; exact h.kp'.lt
  · exact row_lt h.row e
  · subst e; exact h.set.lt
/-- It stays while blocks that are not its own are written. -/
theorem KH.keep {w w' : World} {kp mb : Nat} {v : Value} {g : Int} {xs X : List Ht} {F : Nat → Prop} (h : KH w kp mb v g xs X) (s : Stay F w w') (hF : ∀ k, Ft w kp k → ¬ F k) : KH w' kp mb v g xs X :=
  { h with
    kp' := h.kp'.kept s (hF _ (.inl rfl))
    row := row_kept h.row s (fun k hk => hF k ((h.kp'.ft k).2 (.inr (.inl hk))))
    set := h.set.kept s (hF _ ((h.kp'.ft _).2 (.inr (.inr rfl)))) }
theorem KK.keep {w w' : World} {kp : Nat} {X : List Ht} {F : Nat → Prop} (h : KK w kp X) (s : Stay F w w') (hF : ∀ k, Ft w kp k → ¬ F k) : KK w' kp X ∧ ∀ k, Ft w' kp k ↔ Ft w kp k := by
  obtain ⟨mb, v, g, xs, h⟩ := h
  have h2 := h.keep s hF
  exact ⟨⟨mb, v, g, xs, h2⟩, fun k => (h2.kp'.ft k).trans (h.kp'.ft k).symm⟩
end Go.Proofs.YtekgppmhcbmpeaaDoor
