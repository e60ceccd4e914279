/-
  DERIVED. PlTwin0, PlTwin, as one text.
-/
import Derived.Test.YtojnlngpgbcimaaDoorTpAJ
set_option linter.unusedVariables false
set_option linter.unusedSimpArgs false
namespace Go.Proofs.YtojnlngpgbcimaaDoor
open Go.RowKit
theorem okEM : EM.Ok Tryd.prog := ⟨fun _ => rfl, fun x u hu => by
  simp [mC] at hu
  rcases hu with rfl | rfl | rfl | rfl | rfl | rfl <;> rfl, by decide, rfl, by decide, by kernel_rfl, by kernel_rfl⟩
/-- A row that holds nothing yet. -/
theorem row_none {α : Type} {E : Rw.El α} (W : World) : E.Row (W.alloc (.cells #[] E.ty)) (.slice (some ⟨W.heap.size, 0, none⟩) 0 0) [] :=
  ⟨by simp, .inr ⟨W.heap.size, 0, #[], rfl, Nat.zero_le _, heap_alloc_last W _, Nat.le_refl _, Nat.zero_le _, by simp, by simp⟩⟩
/-- append of what lies anywhere onto a row of the call's own. -/
theorem app_at {α : Type} {E : Rw.El α} (ok : E.Ok Tryd.prog) (W : World) (X : List α) (b n0 c0 : Nat) (h : E.Row W (.slice (some ⟨b, 0, none⟩) n0 c0) X) (hn0 : n0 = X.length) (la : Option Addr) (Y : List α) (n cap : Nat) (hn : n = Y.length) (hat : E.At W la Y) (hcap : la = none → cap = 0) (hb : X.length + Y.length ≤ 1099511627776)
    (hnil : ∀ W : World, (Builtin.append_ #[E.sl, E.sl] E.sl #[.slice (some ⟨b, 0, none⟩) n0 c0, .slice none 0 0]).run Tryd.prog W = .ok (.slice (some ⟨b, 0, none⟩) n0 c0) W) :
    ∃ v' W', (Builtin.append_ #[E.sl, E.sl] E.sl #[.slice (some ⟨b, 0, none⟩) n0 c0, .slice la n cap]).run Tryd.prog W = .ok v' W' ∧ E.Row W' v' (X ++ Y) ∧ Stay (fun k => k = b) W W' ∧ (∀ k, v'.ownBlock = some k → k = b ∨ W.heap.size ≤ k) := by
  subst hn hn0
  cases la with
  | none =>
    have hY : Y = [] := by
      cases Y with
      | nil => rfl
      | cons y Y =>
        obtain ⟨g, off, e, _⟩ := hat.at' (by simp)
        cases e
    have := hcap rfl
    subst hY this
    exact ⟨_, W, hnil W, by rw [List.append_nil]; exact h, .refl _ _, fun k hk => .inl (by simpa [Value.ownBlock] using hk.symm)⟩
  | some a =>
    obtain ⟨i0, hi, hz0, hz1, hz2⟩ := info_parts ok.info
    have hby := ok.by1
    have hmul : (X.length + Y.length) * E.by' ≤ 1099511627776 * 80 := Nat.mul_le_mul hb hby
    obtain ⟨v', W', hap, ho, hg, -, hloc⟩ := run_append_own_at (P := Tryd.prog) W 0 E.sl E.sl E.ty i0 _ E.sz E.by' ok.und hi hz0 hz1 hz2 ok.zs ok.pos _ X.length _ h a Y.length cap (Y.flatMap E.f) (ok.len Y) (fun j u hu => by
      have hne : Y ≠ [] := fun e => by rw [e] at hu; simp at hu
      obtain ⟨g, off, e3, hr⟩ := hat.at' hne
      simp only [Option.some.injEq] at e3
      subst e3
      have e4 : (⟨g, off, none⟩ : Addr).add j = ⟨g, off + j, none⟩ := by unfold Addr.add; split <;> simp_all
      rw [e4]; exact hr j u hu) (ok.ones Y) (by unfold maxLen; omega) (by omega) (Nat.zero_le _)
    have hrow : E.Row W' v' (X ++ Y) := by
      show W'.ownsRow 0 E.ty E.sz v' (X ++ Y).length _
      rw [List.length_append, List.flatMap_append]
      exact ho
    refine ⟨v', W', hap, hrow, Stay.grown (F := fun k => k = b) hg (fun k hk => (Option.some.inj hk).symm), fun k hk => ?_⟩
    rcases hloc with h8 | h8
    · rw [h8] at hk
      exact .inl (Option.some.inj hk).symm
    · rw [h8] at hk; cases hk; exact .inr (Nat.le_refl _)
/-- A step whose lists lie apart from a row. -/
structure OwnM (W : World) (v : Value) (m : Mt) : Prop where
  at' : MtAt W m
  nN : ∀ a, m.la = some a → a.block < W.heap.size ∧ v.ownBlock ≠ some a.block
  nS : ∀ a, m.lb = some a → a.block < W.heap.size ∧ v.ownBlock ≠ some a.block
theorem At.kept {α : Type} {E : Rw.El α} {W W' : World} {la : Option Addr} {l : List α} {F : Nat → Prop} (h : E.At W la l) (s : Stay F W W') (hF : ∀ a, la = some a → ¬ F a.block) : E.At W' la l := ⟨fun hn => by
  obtain ⟨g, off, e, hr⟩ := h.at' hn
  refine ⟨g, off, e, fun j x hx => ?_⟩
  have h1 := hr j x hx
  have hl := World.block_lt_of_cell? W _ h1
  have e2 := s.block g hl (hF _ e)
  unfold World.cell? at h1 ⊢
  rw [e2]; exact h1⟩
theorem OwnM.kept {W W' : World} {v v' : Value} {m : Mt} {F : Nat → Prop} (h : OwnM W v m) (s : Stay F W W') (hF : ∀ a, (m.la = some a ∨ m.lb = some a) → ¬ F a.block) (hv : ∀ k, v'.ownBlock = some k → v.ownBlock = some k ∨ W.heap.size ≤ k) : OwnM W' v' m := by
  refine ⟨⟨At.kept h.at'.N s (fun a ha => hF a (.inl ha)), At.kept h.at'.S s (fun a ha => hF a (.inr ha))⟩, fun a ha => ?_, fun a ha => ?_⟩
  · obtain ⟨h1, h2⟩ := h.nN a ha
    exact ⟨Nat.lt_of_lt_of_le h1 s.size, fun hk => by
      rcases hv _ hk with h3 | h3
      · exact h2 h3
      · omega⟩
  · obtain ⟨h1, h2⟩ := h.nS a ha
    exact ⟨Nat.lt_of_lt_of_le h1 s.size, fun hk => by
      rcases hv _ hk with h3 | h3
      · exact h2 h3
      · omega⟩
/-- A row of steps of the call's own, their lists too. -/
structure TW (w W : World) (v : Value) (L : List Mt) : Prop where
  row : EM.Row W v L
  own : ∀ m ∈ L, OwnM W v m
  bl : Below w.heap.size w W
  vo : ∀ k, v.ownBlock = some k → w.heap.size ≤ k
theorem TW.kept {w W W' : World} {v v' : Value} {L : List Mt} {F : Nat → Prop} (h : TW w W v L) (s : Stay F W W') (hF : ∀ k, k < W.heap.size → ¬ F k) : TW w W' v L := by
  have hF' : Stay (fun _ => False) W W' := ⟨s.os, s.tape, s.output, s.size, fun i hi _ => s.block i hi (hF i hi)⟩
  exact ⟨row_kept h.row hF' (fun _ _ h => h), fun m hm => (h.own m hm).kept hF' (fun _ _ h => h) (fun k hk => .inl hk), h.bl.trans (hF'.toBelow (fun _ _ h => h) h.bl.size), h.vo⟩
theorem TW.below {w W W' : World} {v : Value} {L : List Mt} (h : TW w W v L) (b : Below W.heap.size W W') : TW w W' v L := h.kept (v' := v) (F := fun _ => False) (.below b) (fun _ _ h => h)
end Go.Proofs.YtojnlngpgbcimaaDoor
set_option linter.unusedVariables false
set_option linter.unusedSimpArgs false
namespace Go.Proofs.YtojnlngpgbcimaaDoor
open Go.RowKit
theorem twin_step {w wr : World} {v : Value} {L' : List Mt} (m : Mt) (h : TW w wr v L') (hm : MtAt wr m) (cN : m.la = none → m.ca = 0) (cS : m.lb = none → m.cb = 0) (bn : m.s.N.length ≤ 1048576) (bs : m.s.S.length ≤ 1048576) (bL : L'.length ≤ 1048576) :
    ∃ a1 c1 W3 a2 c2 W5 v3 W7,
      (Builtin.append_ #[27, 27] 27 #[.slice (some ⟨wr.heap.size + 1, 0, none⟩) 0 0, .slice m.la m.s.N.length m.ca]).run Tryd.prog ((wr.alloc (.cells (mC m).toArray 32)).alloc (.cells #[] 3)) = .ok (.slice a1 m.s.N.length c1) W3 ∧
      W3.heap[wr.heap.size]? = some (.cells (mC m).toArray 32 (0, 0)) ∧ Below wr.heap.size wr W3 ∧
      (Builtin.append_ #[28, 28] 28 #[.slice (some ⟨W3.heap.size, 0, none⟩) 0 0, .slice m.lb m.s.S.length m.cb]).run Tryd.prog ((W3.setCell ⟨wr.heap.size, 1, none⟩ (.slice a1 m.s.N.length c1)).alloc (.cells #[] 9)) = .ok (.slice a2 m.s.S.length c2) W5 ∧
      W5.heap[wr.heap.size]? = some (.cells (mC ⟨m.s, a1, c1, m.lb, m.cb⟩).toArray 32 (0, 0)) ∧ Below wr.heap.size wr W5 ∧
      (Builtin.append_ #[22, 22] 22 #[v, .slice (some ⟨W5.heap.size, 0, none⟩) 1 1]).run Tryd.prog ((W5.setCell ⟨wr.heap.size, 2, none⟩ (.slice a2 m.s.S.length c2)).alloc (.cells (mC ⟨m.s, a1, c1, a2, c2⟩).toArray 32)) = .ok v3 W7 ∧ TW w W7 v3 (L' ++ [⟨m.s, a1, c1, a2, c2⟩]) := by
  obtain ⟨W1, hW1⟩ : ∃ W1, W1 = wr.alloc (.cells (mC m).toArray 32) := ⟨_, rfl⟩
  have s1 : W1.heap.size = wr.heap.size + 1 := by rw [hW1]; simp
  have b1 : Below wr.heap.size wr W1 := hW1 ▸ (Below.refl _ wr).alloc (Nat.le_refl _) _
  have hb1 : W1.heap[wr.heap.size]? = some (.cells (mC m).toArray 32 (0, 0)) := hW1 ▸ heap_alloc_last wr _
  obtain ⟨W2, hW2⟩ : ∃ W2, W2 = W1.alloc (.cells #[] 3) := ⟨_, rfl⟩
  have s2 : W2.heap.size = wr.heap.size + 2 := by rw [hW2]; simp [s1]
  have b2' : Below W1.heap.size W1 W2 := hW2 ▸ (Below.refl _ W1).alloc (Nat.le_refl _) _
  have b2 := chain b1 b2' (Nat.le_refl _)
  have r2 : EI.Row W2 (.slice (some ⟨wr.heap.size + 1, 0, none⟩) 0 0) [] := by
    rw [hW2, ← s1]; exact row_none (E := EI) W1
  obtain ⟨v1, W3, hap1, r3, st3, ho3⟩ := app_at okEI W2 [] (wr.heap.size + 1) 0 0 r2 rfl m.la m.s.N m.s.N.length m.ca rfl (hm.N.below b2) cN (by simp; omega) (fun V => by kernel_rfl)
  rw [List.nil_append] at r3
  obtain ⟨a1, c1, e1, -⟩ := r3.form
  subst e1
  have b3' : Below (wr.heap.size + 1) W2 W3 := st3.toBelow (fun k hk e => by omega) (by omega)
  have b3 : Below wr.heap.size wr W3 := b2.trans (b3'.mono (by omega))
  have hb3 : W3.heap[wr.heap.size]? = some (.cells (mC m).toArray 32 (0, 0)) := (b3'.block _ (by omega)).trans ((b2'.block _ (by omega)).trans hb1)
  have s3 : W2.heap.size ≤ W3.heap.size := st3.size
  obtain ⟨W3', hW3'⟩ : ∃ W3', W3' = W3.setCell ⟨wr.heap.size, 1, none⟩ (.slice a1 m.s.N.length c1) := ⟨_, rfl⟩
  have st3' : Stay (fun k => k = wr.heap.size) W3 W3' := hW3' ▸ Stay.setCell (F := fun k => k = wr.heap.size) (p := ⟨wr.heap.size, 1, none⟩) (Stay.refl _ W3) (fun _ => rfl) _
  have s3' : W3'.heap.size = W3.heap.size := by rw [hW3']; simp
  have hb3' : W3'.heap[wr.heap.size]? = some (.cells (mC ⟨m.s, a1, c1, m.lb, m.cb⟩).toArray 32 (0, 0)) := by
    rw [hW3', heap_setCell_same W3 wr.heap.size 1 _ _ _ hb3]; rfl
  have b3s : Below wr.heap.size wr W3' := b3.trans (st3'.toBelow (fun k hk e => by omega) b3.size)
  have r3' : EI.Row W3' (.slice a1 m.s.N.length c1) m.s.N := row_kept r3 st3' (fun k hk e => by
    rcases ho3 k hk with h1 | h1
    · omega
    · omega)
  obtain ⟨W4, hW4⟩ : ∃ W4, W4 = W3'.alloc (.cells #[] 9) := ⟨_, rfl⟩
  have s4 : W4.heap.size = W3.heap.size + 1 := by rw [hW4]; simp [s3']
  have b4' : Below W3'.heap.size W3' W4 := hW4 ▸ (Below.refl _ W3').alloc (Nat.le_refl _) _
  have b4 : Below wr.heap.size wr W4 := b3s.trans (b4'.mono b3s.size)
  have r4 : ES.Row W4 (.slice (some ⟨W3.heap.size, 0, none⟩) 0 0) [] := by
    rw [hW4, ← s3']; exact row_none (E := ES) W3'
  obtain ⟨v2, W5, hap2, r5, st5, ho5⟩ := app_at okES W4 [] W3.heap.size 0 0 r4 rfl m.lb m.s.S m.s.S.length m.cb rfl (hm.S.below b4) cS (by simp; omega) (fun V => by kernel_rfl)
  rw [List.nil_append] at r5
  obtain ⟨a2, c2, e2, -⟩ := r5.form
  subst e2
  have b5' : Below W3.heap.size W4 W5 := st5.toBelow (fun k hk e => by omega) (by omega)
  have b35 : Below W3'.heap.size W3' W5 := b4'.trans (b5'.mono (by omega))
  have b5 : Below wr.heap.size wr W5 := b3s.trans (b35.mono b3s.size)
  have hb5 : W5.heap[wr.heap.size]? = some (.cells (mC ⟨m.s, a1, c1, m.lb, m.cb⟩).toArray 32 (0, 0)) := (b35.block _ (by omega)).trans hb3'
  have r35 : EI.Row W5 (.slice a1 m.s.N.length c1) m.s.N := r3'.below b35
  have s5 : W4.heap.size ≤ W5.heap.size := st5.size
  obtain ⟨W5', hW5'⟩ : ∃ W5', W5' = W5.setCell ⟨wr.heap.size, 2, none⟩ (.slice a2 m.s.S.length c2) := ⟨_, rfl⟩
  have st5' : Stay (fun k => k = wr.heap.size) W5 W5' := hW5' ▸ Stay.setCell (F := fun k => k = wr.heap.size) (p := ⟨wr.heap.size, 2, none⟩) (Stay.refl _ W5) (fun _ => rfl) _
  have s5' : W5'.heap.size = W5.heap.size := by rw [hW5']; simp
  have b5s : Below wr.heap.size wr W5' := b5.trans (st5'.toBelow (fun k hk e => by omega) b5.size)
  have o1 : ∀ k, (Value.slice a1 m.s.N.length c1).ownBlock = some k → wr.heap.size + 1 ≤ k := fun k hk => by
    rcases ho3 k hk with h1 | h1
    · omega
    · omega
  have o2 : ∀ k, (Value.slice a2 m.s.S.length c2).ownBlock = some k → W3.heap.size ≤ k := fun k hk => by
    rcases ho5 k hk with h1 | h1
    · omega
    · omega
  have r5a : EI.Row W5' (.slice a1 m.s.N.length c1) m.s.N := row_kept r35 st5' (fun k hk e => by have := o1 k hk; omega)
  have r5b : ES.Row W5' (.slice a2 m.s.S.length c2) m.s.S := row_kept r5 st5' (fun k hk e => by have := o2 k hk; omega)
  have hT5 : TW w W5' v L' := h.below b5s
  obtain ⟨v3, W7, hap3, r7, st7, ho7⟩ := Rw.El.app1 okEM W5' L' v hT5.row ⟨m.s, a1, c1, a2, c2⟩ (by show (_ + 1) * 80 ≤ _; omega) (by omega)
  rw [hW1] at hW2
  rw [hW2] at hap1
  rw [hW3'] at hW4
  rw [hW4] at hap2
  have hap3' := hap3
  rw [show W5'.heap.size = W5.heap.size from s5'] at hap3'
  rw [hW5'] at hap3'
  have hws : w.heap.size ≤ W5'.heap.size := hT5.bl.size
  refine ⟨a1, c1, W3, a2, c2, W5, v3, W7, hap1, hb3, b3, hap2, hb5, b5, hap3', r7, fun x hx => ?_, hT5.bl.trans (st7.toBelow (fun k hk hf => by have := hT5.vo k hf; omega) hws), fun k hk => ?_⟩
  · have hv3 : ∀ k, v3.ownBlock = some k → v.ownBlock = some k ∨ W5'.heap.size ≤ k := ho7
    rcases List.mem_append.1 hx with hx | hx
    · exact (hT5.own x hx).kept st7 (fun a ha hf => by
        rcases ha with ha | ha
        · exact ((hT5.own x hx).nN a ha).2 hf
        · exact ((hT5.own x hx).nS a ha).2 hf) hv3
    · rw [List.mem_singleton] at hx
      subst hx
      have vl : ∀ k, v.ownBlock = some k → k < wr.heap.size := fun k hk => row_lt h.row hk
      have hw5 : OwnM W5' v ⟨m.s, a1, c1, a2, c2⟩ := by
        have g1 := r5a.lat
        have g2 := r5b.lat
        obtain ⟨q1, q2, q3, q4⟩ := g1
        obtain ⟨p1, p2, p3, p4⟩ := g2
        simp only [Value.slice.injEq] at q3 p3
        obtain ⟨rfl, -, rfl⟩ := q3
        obtain ⟨rfl, -, rfl⟩ := p3
        refine ⟨⟨q4, p4⟩, fun a ha => ?_, fun a ha => ?_⟩
        · have ha' : a1 = some a := ha
          have hk : (Value.slice a1 m.s.N.length c1).ownBlock = some a.block := by rw [ha']; rfl
          exact ⟨row_lt r5a hk, fun hv => by have := vl _ hv; have := o1 _ hk; omega⟩
        · have ha' : a2 = some a := ha
          have hk : (Value.slice a2 m.s.S.length c2).ownBlock = some a.block := by rw [ha']; rfl
          exact ⟨row_lt r5b hk, fun hv => by have := vl _ hv; have := o2 _ hk; omega⟩
      exact hw5.kept st7 (fun a ha hf => by
        rcases ha with ha | ha
        · exact (hw5.nN a ha).2 hf
        · exact (hw5.nS a ha).2 hf) hv3
  · rcases ho7 k hk with h1 | h1
    · exact hT5.vo k h1
    · omega
set_option maxHeartbeats 16000000 in
set_option maxRecDepth 100000 in
theorem twin_any {w : World} {la : Option Addr} {cp : Nat} (L : List Mt) (h : EM.At w la L) (hm : ∀ m ∈ L, MtAt w m) (hc : ∀ m ∈ L, (m.la = none → m.ca = 0) ∧ (m.lb = none → m.cb = 0)) (hB : StB (L.map Mt.s)) :
    Calls Tryd.prog 13 #[.slice la L.length cp] w fun e w' => ∃ a cp' L', e = .returned (.slice a L.length cp') ∧ L'.map Mt.s = L.map Mt.s ∧ TW w w' (.slice a L.length cp') L' := by
  obtain ⟨n, hn⟩ : ∃ n, n = L.length := ⟨_, rfl⟩
  have hn1 : n ≤ 1048576 := by have := hB.n; rw [List.length_map] at this; omega
  rw [← hn]
  have HX := Hid.mk (And.intro hn (And.intro h (And.intro hm (And.intro hc hB))))
  clear hn h hm hc hB
  go_enter Tryd.func13, Tryd.ntmps13
  go_wp2
  go_loopw [3, 4] (fun ul u wr => ∃ (i : Nat) (a : Option Addr) (c : Nat), ul = .slice a i c ∧ u = .int .i64 i ∧ i ≤ n ∧ Hid (∃ L', L'.map Mt.s = (L.take i).map Mt.s ∧ TW w wr (.slice a i c) L')) (fun _ u _ => n - (intOf u).toNat)
  case atStart => exact ⟨0, none, 0, rfl, rfl, Nat.zero_le _, [], rfl, Rw.El.Row.nil EM _, fun m hm => (by cases hm), Below.refl _ _, fun k hk => (by cases hk)⟩
  case round =>
    obtain ⟨i, a0, c0, rfl, rfl, hi, HM⟩ := hrel
    obtain ⟨L', hL', hT⟩ := HM.out
    by_cases hlt : i < n
    · have i1 : (i : Int) < (n : Int) := by omega
      have i2 : (0 : Int) ≤ (i : Int) := by omega
      have hiL : i < L.length := by rw [← HX.out.1]; exact hlt
      have hLl : L'.length = i := by
        have h1 := congrArg List.length hL'
        rw [List.length_map, List.length_map, List.length_take] at h1; omega
      have hcl := fun (V : World) (b : Below w.heap.size w V) => mt_cells (HX.out.2.1.below b) i hiL
      have hmw := (HX.out.2.2.1 L[i] (List.getElem_mem hiL)).below hT.bl
      have hcc := HX.out.2.2.2.1 L[i] (List.getElem_mem hiL)
      have hs1 := sum_le (fun s : St => s.N.length) (L.map Mt.s) L[i].s (List.mem_map_of_mem (List.getElem_mem hiL))
      have hs2 := sum_le (fun s : St => s.S.length) (L.map Mt.s) L[i].s (List.mem_map_of_mem (List.getElem_mem hiL))
      have hz1 := HX.out.2.2.2.2.N
      have hz2 := HX.out.2.2.2.2.S
      unfold sumN at hz1
      unfold sumS at hz2
      have htk : (L.take (i + 1)).map Mt.s = L'.map Mt.s ++ [L[i].s] := by
        rw [hL', List.take_succ_eq_append_getElem hiL, List.map_append]; rfl
      generalize L[i] = m at hcl hmw hcc hs1 hs2 htk
      obtain ⟨⟨sk, sN, sS, sa, sb, sc⟩, ma, mca, mlb, mcb⟩ := m
      obtain ⟨a1, c1, W3, a2, c2, W5, v3, W7, hap1, hb3, b3, hap2, hb5, b5, hap3, hT7⟩ := twin_step _ hT hmw hcc.1 hcc.2 (by omega) (by omega) (by omega)
      obtain ⟨a3, c3, e3, -⟩ := hT7.row.form
      rw [List.length_append, List.length_singleton, hLl] at e3
      subst e3
      obtain ⟨g, off, rfl, hx⟩ := hcl w (Below.refl _ _)
      have bU1 : Below w.heap.size w ((wr.alloc (.cells (mC ⟨⟨sk, sN, sS, sa, sb, sc⟩, ma, mca, mlb, mcb⟩).toArray 32)).alloc (.cells #[] 3)) := (hT.bl.alloc hT.bl.size _).alloc (by have := hT.bl.size; simp; omega) _
      have bW3 : Below w.heap.size w W3 := hT.bl.trans (b3.mono hT.bl.size)
      have bU3 : Below w.heap.size w ((W3.setCell ⟨wr.heap.size, 1, none⟩ (.slice a1 sN.length c1)).alloc (.cells #[] 9)) := (bW3.trans ((Stay.setCell (F := fun k => k = wr.heap.size) (p := ⟨wr.heap.size, 1, none⟩) (Stay.refl _ W3) (fun _ => rfl) _).toBelow (fun k hk e => by have := hT.bl.size; omega) bW3.size)).alloc (by have := bW3.size; simp; omega) _
      have hx1 := fun (V : World) (b : Below w.heap.size w V) j u hj hu => Rw.cell_lat b (hx j u hj hu)
      have x0 := hx1 wr hT.bl 0 _ (by omega) rfl
      have x1 := hx1 wr hT.bl 1 _ (by omega) rfl
      have x2 := hx1 wr hT.bl 2 _ (by omega) rfl
      have x3 := hx1 wr hT.bl 3 _ (by omega) rfl
      have x4 := hx1 wr hT.bl 4 _ (by omega) rfl
      have x5 := hx1 wr hT.bl 5 _ (by omega) rfl
      have u1 := hx1 _ bU1 1 _ (by omega) rfl
      have u2 := hx1 _ bU3 2 _ (by omega) rfl
      dsimp only [Nat.add_zero, mC] at x0 x1 x2 x3 x4 x5 u1 u2 hap1 hap2 hap3 hb3 hb5
      have y1 : W3.cell? ⟨wr.heap.size, 1, none⟩ = some (.slice ma sN.length mca) := by rw [cell_of_row _ _ _ _ _ (0, 0) hb3]; rfl
      have f1 : W3.frozen? ⟨wr.heap.size, 1, none⟩ = false := frozen_of_row _ _ _ _ _ hb3
      have z0 : W5.cell? ⟨wr.heap.size, 0, none⟩ = some (.int .i64 sk) := by rw [cell_of_row _ _ _ _ _ (0, 0) hb5]; rfl
      have z1 : W5.cell? ⟨wr.heap.size, 1, none⟩ = some (.slice a1 sN.length c1) := by rw [cell_of_row _ _ _ _ _ (0, 0) hb5]; rfl
      have z2 : W5.cell? ⟨wr.heap.size, 2, none⟩ = some (.slice mlb sS.length mcb) := by rw [cell_of_row _ _ _ _ _ (0, 0) hb5]; rfl
      have z3 : W5.cell? ⟨wr.heap.size, 3, none⟩ = some (.int .i64 sa) := by rw [cell_of_row _ _ _ _ _ (0, 0) hb5]; rfl
      have z4 : W5.cell? ⟨wr.heap.size, 4, none⟩ = some (.int .i64 sb) := by rw [cell_of_row _ _ _ _ _ (0, 0) hb5]; rfl
      have z5 : W5.cell? ⟨wr.heap.size, 5, none⟩ = some (.int .i64 sc) := by rw [cell_of_row _ _ _ _ _ (0, 0) hb5]; rfl
      have f2 : W5.frozen? ⟨wr.heap.size, 2, none⟩ = false := frozen_of_row _ _ _ _ _ hb5
      have HN := Hid.mk (show ∃ L2, L2.map Mt.s = (L.take (i + 1)).map Mt.s ∧ TW w W7 (.slice a3 (i + 1) c3) L2 from ⟨_, by rw [htk, List.map_append]; rfl, hT7⟩)
      clear hcl hmw hcc hs1 hs2 hz1 hz2 htk hT7 hT hL' HM hx hx1 bU1 bU3 bW3 hb3 hb5 b3 b5
      go_wp2_with (at_builtin; first | (refine Rw.wpList_append_eq rfl _ _ _ _ rfl _ _ _ _ rfl rfl hap1 ?_; clear hap1) | (refine Rw.wpList_append_eq rfl _ _ _ _ rfl _ _ _ _ rfl rfl hap2 ?_; clear hap2) | (refine Rw.wpList_append_eq rfl _ _ _ _ rfl _ _ _ _ rfl rfl hap3 ?_; clear hap3))
      try go_wp2
      exact ⟨⟨i + 1, a3, c3, rfl, rfl, hlt, HN⟩, by simp only [intOf]; omega⟩
    · have e : i = n := by omega
      have hlt2 : L.take i = L := List.take_of_length_le (by rw [← HX.out.1]; omega)
      rw [hlt2] at hL'
      have HF := Hid.mk (And.intro hL' hT)
      clear hL' hT hlt2 HM hlt
      subst e
      go_wp2
      go_ret
      exact ⟨a0, c0, L', rfl, HF.out.1, HF.out.2⟩
end Go.Proofs.YtojnlngpgbcimaaDoor
