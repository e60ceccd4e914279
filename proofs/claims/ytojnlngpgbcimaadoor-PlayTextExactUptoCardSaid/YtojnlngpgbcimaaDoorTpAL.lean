/-
  DERIVED. PlRoomy, as one text.
-/
import Derived.Test.YtojnlngpgbcimaaDoorTpAK
import Derived.Deep.RegionHeld
set_option linter.unusedVariables false
set_option linter.unusedSimpArgs false
namespace Go.Proofs.YtojnlngpgbcimaaDoor
open Go.RowKit
/-- append of what lies somewhere onto a row of the call's own. -/
theorem app_some {α : Type} {E : Rw.El α} (ok : E.Ok Tryd.prog) (W : World) (X : List α) (v : Value) (h : E.Row W v X) (a : Addr) (Y : List α) (n cap : Nat) (hn : n = Y.length) (hat : E.At W (some a) Y) (hb : X.length + Y.length ≤ 1099511627776) :
    ∃ v' W', (Builtin.append_ #[E.sl, E.sl] E.sl #[v, .slice (some a) n cap]).run Tryd.prog W = .ok v' W' ∧ E.Row W' v' (X ++ Y) ∧ Stay (fun k => v.ownBlock = some k) W W' ∧ (∀ k, v'.ownBlock = some k → v.ownBlock = some k ∨ W.heap.size ≤ k) := by
  subst hn
  obtain ⟨i0, hi, hz0, hz1, hz2⟩ := info_parts ok.info
  have hby := ok.by1
  have hmul : (X.length + Y.length) * E.by' ≤ 1099511627776 * 80 := Nat.mul_le_mul hb hby
  obtain ⟨v', W', hap, ho, hg, -, hloc⟩ := run_append_own_at (P := Tryd.prog) W 0 E.sl E.sl E.ty i0 _ E.sz E.by' ok.und hi hz0 hz1 hz2 ok.zs ok.pos v X.length _ h a Y.length cap (Y.flatMap E.f) (ok.len Y) (fun j u hu => by
    have hne : Y ≠ [] := fun e => by rw [e] at hu; simp at hu
    obtain ⟨g, off, e3, hr⟩ := hat.at' hne
    simp only [Option.some.injEq] at e3
    subst e3
    have e4 : (⟨g, off, none⟩ : Addr).add j = ⟨g, off + j, none⟩ := by unfold Addr.add; split <;> simp_all
    rw [e4]; exact hr j u hu) (ok.ones Y) (by unfold maxLen; omega) (by omega) (Nat.zero_le _)
  have hrow : E.Row W' v' (X ++ Y) := by
    show W'.ownsRow 0 E.ty E.sz v' (X ++ Y).length _
    rw [List.length_append, List.flatMap_append]
    exact ho
  refine ⟨v', W', hap, hrow, Stay.grown hg (fun k hk => hk), fun k hk => ?_⟩
  rcases hloc with h8 | h8
  · rw [h8] at hk; exact .inl hk
  · rw [h8] at hk; cases hk; exact .inr (Nat.le_refl _)
/-- What make makes with room, nothing in it yet. -/
theorem made_room {α : Type} {E : Rw.El α} (ok : E.Ok Tryd.prog) (W : World) (c : Nat) (hc : c ≤ 1099511627776) :
    ∃ w', (Instr.makeSlice E.sl (.int .i64 0) (.int .i64 c)).run Tryd.prog W = .ok (.slice (some ⟨W.heap.size, 0, none⟩) 0 c) w' ∧ E.Row w' (.slice (some ⟨W.heap.size, 0, none⟩) 0 c) [] ∧ Below W.heap.size W w' ∧ w'.heap.size = W.heap.size + 1 := by
  obtain ⟨i0, hi, hz0, hz1, hz2⟩ := info_parts ok.info
  have h64 := ok.by1
  have hmul : E.by' * c ≤ 80 * 1099511627776 := Nat.mul_le_mul h64 hc
  have hrun := run_make W E.sl E.ty i0 E.z ok.und hi hz0 .i64 .i64 0 (c : Int) (by omega) (by omega) (by rw [hz2, ← Int.natCast_mul]; omega) (by omega)
  rw [hz1, Int.toNat_natCast] at hrun
  refine ⟨_, hrun, ⟨by simp, .inr ⟨W.heap.size, c, _, rfl, Nat.zero_le _, heap_alloc_last W _, Nat.zero_le _, by unfold maxLen; omega, by rw [size_madeCells], by simp⟩⟩, (Below.refl _ _).alloc (Nat.le_refl _) _, by simp⟩
theorem lit_at {α : Type} {E : Rw.El α} (W : World) (Y : List α) : E.At (W.alloc (.cells (Y.flatMap E.f).toArray E.ty)) (some ⟨W.heap.size, 0, none⟩) Y := ⟨fun _ => ⟨W.heap.size, 0, rfl, fun j x hx => by
  rw [cell_of_row _ _ _ _ _ (0, 0) (heap_alloc_last W _), Nat.zero_add]
  simpa using hx⟩⟩
/-- append, as it was reckoned ahead, as one step of a region that draws. -/
theorem step_append_eq {P : Program} {ops : Array Oper} {o : Oper} {a : Act} {w : World} {K : Act → World → Prop} {Q : Exit → Act → World → Prop} {E : Prop}
    (hg : o.guard = none) (s x : Operand) (t u : TypeId) (hop : o.op = Op.call { callee := Callee.builtin Builtin.append, args := #[s, x], argTypes := #[t, u] })
    (v xv v' : Value) (w' : World) (hs : a.eval s = v) (hx : a.eval x = xv) (hr : (Builtin.append_ #[t, u] o.type #[v, xv]).run P w = .ok v' w') (hK : K (a.put o.dst v') w') :
    if Region.wanted o (yielded ops a.tmps) = true then Oper.wp P o a w K Q else E := by
  have hw : Region.wanted o (yielded ops a.tmps) = true := by simp [Region.wanted, hg]
  rw [if_pos hw]
  unfold Oper.wp execOp
  simp only [hop, resolve, invoke, builtin, Sem.run_bind, Sem.run_pure, Result.andThen_ok, List.map_toArray, List.map_cons, List.map_nil, hs, hx, hr]
  exact hK
def roomB : ByteArray := ⟨#[114, 111, 111, 109]⟩
def moreB : ByteArray := ⟨#[109, 111, 114, 101, 32, 114, 111, 111, 109]⟩
/-- A step with room behind its lists, marks in it. -/
structure RoomM (W : World) (v : Value) (m : Mt) : Prop where
  N : EI.At W m.la (m.s.N ++ [-71, -72])
  S : ES.At W m.lb (m.s.S ++ [roomB, moreB])
  cN : m.s.N.length + 2 ≤ m.ca
  cS : m.s.S.length + 2 ≤ m.cb
  nN : ∀ a, m.la = some a → a.block < W.heap.size ∧ v.ownBlock ≠ some a.block
  nS : ∀ a, m.lb = some a → a.block < W.heap.size ∧ v.ownBlock ≠ some a.block
theorem At.pre {α : Type} {E : Rw.El α} {W : World} {la : Option Addr} {X Y : List α} (h : E.At W la (X ++ Y)) : E.At W la X := ⟨fun hn => by
  obtain ⟨g, off, e, hr⟩ := h.at' (by simp [hn])
  refine ⟨g, off, e, fun j x hx => hr j x ?_⟩
  rw [List.flatMap_append, List.getElem?_append_left (List.getElem?_eq_some_iff.1 hx).1]
  exact hx⟩
theorem RoomM.at' {W : World} {v : Value} {m : Mt} (h : RoomM W v m) : MtAt W m := ⟨At.pre h.N, At.pre h.S⟩
theorem RoomM.kept {W W' : World} {v v' : Value} {m : Mt} {F : Nat → Prop} (h : RoomM W v m) (s : Stay F W W') (hF : ∀ a, (m.la = some a ∨ m.lb = some a) → ¬ F a.block) (hv : ∀ k, v'.ownBlock = some k → v.ownBlock = some k ∨ W.heap.size ≤ k) : RoomM W' v' m := by
  refine ⟨At.kept h.N s (fun a ha => hF a (.inl ha)), At.kept h.S s (fun a ha => hF a (.inr ha)), h.cN, h.cS, fun a ha => ?_, fun a ha => ?_⟩
  · obtain ⟨h1, h2⟩ := h.nN a ha
    exact ⟨Nat.lt_of_lt_of_le h1 s.size, fun hk => by
      rcases hv _ hk with h3 | h3
      · exact h2 h3
      · omega⟩
  · obtain ⟨h1, h2⟩ := h.nS a ha
    exact ⟨Nat.lt_of_lt_of_le h1 s.size, fun hk => by
      rcases hv _ hk with h3 | h3
      · exact h2 h3
      · omega⟩
/-- A row of such steps. -/
structure RW (w W : World) (v : Value) (X L : List Mt) : Prop where
  row : EM.Row W v X
  own : ∀ m ∈ L, RoomM W v m
  bl : Below w.heap.size w W
  vo : ∀ k, v.ownBlock = some k → w.heap.size ≤ k
theorem RW.below {w W W' : World} {v : Value} {X L : List Mt} (h : RW w W v X L) (b : Below W.heap.size W W') : RW w W' v X L :=
  ⟨h.row.below b, fun m hm => (h.own m hm).kept (v' := v) (F := fun _ => False) (.below b) (fun _ _ h => h) (fun k hk => .inl hk), h.bl.trans (b.mono h.bl.size), h.vo⟩
/-- A row grows by one step. -/
theorem RW.push {w W : World} {v : Value} {X L : List Mt} (h : RW w W v X L) (m : Mt) (bL : X.length ≤ 2097152) :
    ∃ v3 W7, (Builtin.append_ #[22, 22] 22 #[v, .slice (some ⟨W.heap.size, 0, none⟩) 1 1]).run Tryd.prog (W.alloc (.cells (mC m).toArray 32)) = .ok v3 W7 ∧ RW w W7 v3 (X ++ [m]) L ∧ Stay (fun k => v.ownBlock = some k) W W7 ∧ (∀ k, v3.ownBlock = some k → v.ownBlock = some k ∨ W.heap.size ≤ k) := by
  obtain ⟨v3, W7, hap3, r7, st7, ho7⟩ := Rw.El.app1 okEM W X v h.row m (by show (_ + 1) * 80 ≤ _; omega) (by omega)
  have hws := h.bl.size
  refine ⟨v3, W7, hap3, ⟨r7, fun x hx => (h.own x hx).kept st7 (fun a ha hf => ?_) ho7, h.bl.trans (st7.toBelow (fun k hk hf => by have := h.vo k hf; omega) hws), fun k hk => ?_⟩, st7, ho7⟩
  · rcases ha with ha | ha
    · exact ((h.own x hx).nN a ha).2 hf
    · exact ((h.own x hx).nS a ha).2 hf
  · rcases ho7 k hk with h1 | h1
    · exact h.vo k h1
    · omega
theorem b_d' (w : World) : Below w.heap.size w w.drew := (Below.refl _ w).drew
/-- .. by a step with room. -/
theorem room_push {w W1 W5 : World} {v : Value} {X : List Mt} {m : Mt} {n t : Nat} (h : RW w W1 v X X) (b : Below W1.heap.size W1 W5) (bL : X.length ≤ 2097152) (r1 : EI.Row W5 (.slice m.la n m.ca) (m.s.N ++ [-71, -72])) (o1 : ∀ k, (Value.slice m.la n m.ca).ownBlock = some k → W1.heap.size ≤ k) (r2 : ES.Row W5 (.slice m.lb t m.cb) (m.s.S ++ [roomB, moreB])) (o2 : ∀ k, (Value.slice m.lb t m.cb).ownBlock = some k → W1.heap.size ≤ k) (c1 : m.s.N.length + 2 ≤ m.ca) (c2 : m.s.S.length + 2 ≤ m.cb) :
    ∃ v3 W7, (Builtin.append_ #[22, 22] 22 #[v, .slice (some ⟨W5.heap.size, 0, none⟩) 1 1]).run Tryd.prog (W5.alloc (.cells (mC m).toArray 32)) = .ok v3 W7 ∧ RW w W7 v3 (X ++ [m]) (X ++ [m]) ∧ Stay (fun k => v.ownBlock = some k) W5 W7 ∧ (∀ k, v3.ownBlock = some k → v.ownBlock = some k ∨ W5.heap.size ≤ k) := by
  have h5 := h.below b
  obtain ⟨v3, W7, hap, h7, st7, ho7⟩ := h5.push m bL
  have vl : ∀ k, v.ownBlock = some k → k < W1.heap.size := fun k hk => row_lt h.row hk
  have hm5 : RoomM W5 v m := by
    have g1 := r1.lat
    have g2 := r2.lat
    obtain ⟨q1, q2, q3, q4⟩ := g1
    obtain ⟨p1, p2, p3, p4⟩ := g2
    simp only [Value.slice.injEq] at q3 p3
    rw [← q3.1] at q4
    rw [← p3.1] at p4
    refine ⟨q4, p4, c1, c2, fun a ha => ?_, fun a ha => ?_⟩
    · have hk : (Value.slice m.la n m.ca).ownBlock = some a.block := by rw [ha]; rfl
      exact ⟨row_lt r1 hk, fun hv => by have := vl _ hv; have := o1 _ hk; omega⟩
    · have hk : (Value.slice m.lb t m.cb).ownBlock = some a.block := by rw [ha]; rfl
      exact ⟨row_lt r2 hk, fun hv => by have := vl _ hv; have := o2 _ hk; omega⟩
  have hm7 := hm5.kept st7 (fun a ha hf => by
    rcases ha with ha | ha
    · exact (hm5.nN a ha).2 hf
    · exact (hm5.nS a ha).2 hf) ho7
  exact ⟨v3, W7, hap, ⟨h7.row, fun x hx => by
    rcases List.mem_append.1 hx with hx | hx
    · exact h7.own x hx
    · rw [List.mem_singleton] at hx; subst hx; exact hm7, h7.bl, h7.vo⟩, st7, ho7⟩
def xK (k : Int) : Mt := ⟨⟨k, [], [], 0, 0, 0⟩, none, 0, none, 0⟩
set_option maxHeartbeats 16000000 in
set_option maxRecDepth 100000 in
theorem roomy_any {w : World} {la : Option Addr} {cp : Nat} (L : List Mt) (h : EM.At w la L) (hm : ∀ m ∈ L, MtAt w m) (hB : StB (L.map Mt.s)) :
    Calls Tryd.prog 8 #[.slice la L.length cp] w fun e w' => ∃ b cp' L', e = .returned (.slice (some ⟨b, 0, none⟩) L.length cp') ∧ L'.map Mt.s = L.map Mt.s ∧ RW w w' (.slice (some ⟨b, 0, none⟩) (L.length + 2) cp') (L' ++ [xK 71, xK 72]) L' := by
  obtain ⟨n, hn⟩ : ∃ n, n = L.length := ⟨_, rfl⟩
  have hn1 : n ≤ 1048576 := by have := hB.n; rw [List.length_map] at this; omega
  rw [← hn]
  have HX := Hid.mk (And.intro hn (And.intro h (And.intro hm hB)))
  obtain ⟨W0, hmk, r0, b0, s0⟩ := made_room okEM w (n + 2) (by omega)
  rw [show ((n + 2 : Nat) : Int) = (n : Int) + 2 from by omega] at hmk
  have HI0 := Hid.mk (show ∃ L', L'.map Mt.s = (L.take 0).map Mt.s ∧ RW w W0 (.slice (some ⟨w.heap.size, 0, none⟩) 0 (n + 2)) L' L' from ⟨[], rfl, r0, fun m hm => (by cases hm), b0, fun k hk => by simp [Value.ownBlock] at hk; omega⟩)
  simp only [EM] at hmk
  clear hn h hm hB r0 b0 s0
  go_enter Tryd.func8, Tryd.ntmps8
  go_wp2
  go_loopw [3, 4] (fun ul u wr => ∃ (i : Nat) (a : Option Addr) (c : Nat), ul = .slice a i c ∧ u = .int .i64 i ∧ i ≤ n ∧ Hid (∃ L', L'.map Mt.s = (L.take i).map Mt.s ∧ RW w wr (.slice a i c) L' L')) (fun _ u _ => n - (intOf u).toNat)
  case atStart => exact ⟨0, _, _, rfl, rfl, Nat.zero_le _, HI0⟩
  case round =>
    clear HI0
    obtain ⟨i, a0, c0, rfl, rfl, hi, HM⟩ := hrel
    obtain ⟨L', hL', hT⟩ := HM.out
    by_cases hlt : i < n
    · have i1 : (i : Int) < (n : Int) := by omega
      have i2 : (0 : Int) ≤ (i : Int) := by omega
      have hiL : i < L.length := by rw [← HX.out.1]; exact hlt
      obtain ⟨g, off, rfl, hx⟩ := mt_cells (HX.out.2.1.below hT.bl) i hiL
      have hmw := fun (V : World) (b : Below w.heap.size w V) => (HX.out.2.2.1 L[i] (List.getElem_mem hiL)).below b
      have hs1 := sum_le (fun s : St => s.N.length) (L.map Mt.s) L[i].s (List.mem_map_of_mem (List.getElem_mem hiL))
      have hs2 := sum_le (fun s : St => s.S.length) (L.map Mt.s) L[i].s (List.mem_map_of_mem (List.getElem_mem hiL))
      have hz1 := HX.out.2.2.2.N
      have hz2 := HX.out.2.2.2.S
      unfold sumN at hz1
      unfold sumS at hz2
      have htk : (L.take (i + 1)).map Mt.s = L'.map Mt.s ++ [L[i].s] := by
        rw [hL', List.take_succ_eq_append_getElem hiL, List.map_append]; rfl
      have hLl : L'.length = i := by
        have h1 := congrArg List.length hL'
        rw [List.length_map, List.length_map, List.length_take] at h1; omega
      generalize L[i] = m at hx hmw hs1 hs2 htk
      obtain ⟨⟨sk, sN, sS, sa, sb, sc⟩, ma, mca, mlb, mcb⟩ := m
      have x0 := hx 0 _ (by omega) rfl
      have x1 := hx 1 _ (by omega) rfl
      have x2 := hx 2 _ (by omega) rfl
      have x3 := hx 3 _ (by omega) rfl
      have x4 := hx 4 _ (by omega) rfl
      have x5 := hx 5 _ (by omega) rfl
      dsimp only [Nat.add_zero] at x0 x1 x2 x3 x4 x5 hs1 hs2
      have hnl : sN.length ≤ 1048576 := by omega
      have hsl : sS.length ≤ 1048576 := by omega
      obtain ⟨Nn, eN⟩ : ∃ Nn, Nn = sN.length := ⟨_, rfl⟩
      obtain ⟨Sn, eS⟩ : ∃ Sn, Sn = sS.length := ⟨_, rfl⟩
      rw [← eN] at x1 hnl
      rw [← eS] at x2 hsl
      obtain ⟨W1, hW1⟩ : ∃ W1, W1 = wr.alloc (.cells #[.int .i64 sk, .slice ma Nn mca, .slice mlb Sn mcb, .int .i64 sa, .int .i64 sb, .int .i64 sc] 32) := ⟨_, rfl⟩
      obtain ⟨bs, hbs⟩ : ∃ bs, bs = wr.heap.size := ⟨_, rfl⟩
      have b1 : Below wr.heap.size wr W1 := hW1 ▸ (Below.refl _ wr).alloc (Nat.le_refl _) _
      have hb1 : W1.heap[bs]? = some (.cells #[.int .i64 sk, .slice ma Nn mca, .slice mlb Sn mcb, .int .i64 sa, .int .i64 sb, .int .i64 sc] 32 (0, 0)) := hbs ▸ hW1 ▸ heap_alloc_last wr _
      have HCl := Hid.mk (fun (V : World) (b : Below W1.heap.size W1 V) => (show V.heap[bs]? = some (.cells #[.int .i64 sk, .slice ma Nn mca, .slice mlb Sn mcb, .int .i64 sa, .int .i64 sb, .int .i64 sc] 32 (0, 0)) from (b.block _ (Array.getElem?_eq_some_iff.1 hb1).1).trans hb1))
      have HLO := Hid.mk (show ∀ k, (Value.slice a0 i c0).ownBlock = some k → k < bs from fun k hk => by rw [hbs]; exact row_lt hT.row hk)
      have HT1 := Hid.mk (And.intro (hT.below b1) (And.intro hmw (And.intro eN (And.intro eS (And.intro htk hLl)))))
      obtain ⟨W2, hmk2, r2, b2, s2⟩ := made_room okEI W1 (Nn + 2) (by omega)
      rw [show ((Nn + 2 : Nat) : Int) = (Nn : Int) + 2 from by omega] at hmk2
      have HJ0 := Hid.mk (show EI.Row W2 (.slice (some ⟨W1.heap.size, 0, none⟩) 0 (Nn + 2)) (sN.take 0) ∧ Below W1.heap.size W1 W2 ∧ (∀ k, (Value.slice (some ⟨W1.heap.size, 0, none⟩) 0 (Nn + 2)).ownBlock = some k → W1.heap.size ≤ k) from ⟨r2, b2, fun k hk => by simp [Value.ownBlock] at hk; omega⟩)
      simp only [EI] at hmk2
      rw [hW1] at hmk2
      have HW1 := Hid.mk hW1
      have s1 : W1.heap.size = wr.heap.size + 1 := by rw [hW1]; simp
      have HS1 := Hid.mk (And.intro s1 hbs)
      have HBS1 := Hid.mk (show W1.heap.size = bs + 1 from by rw [hbs]; exact s1)
      clear hx hmw hs1 hs2 hz1 hz2 htk hLl hT hL' HM eN eS b1 hb1 r2 b2 s2 hmk s1 hbs hW1
      go_wp2_with fail
      rw [← HS1.out.2, ← HBS1.out]
      go_loopw [6, 7] (fun u6 u7 wv => ∃ (j : Nat) (a : Option Addr) (c : Nat), u6 = .slice a j c ∧ u7 = .int .i64 j ∧ j ≤ Nn ∧ Hid (EI.Row wv (.slice a j c) (sN.take j) ∧ Below W1.heap.size W1 wv ∧ ∀ k, (Value.slice a j c).ownBlock = some k → W1.heap.size ≤ k)) (fun _ u _ => Nn - (intOf u).toNat)
      case atStart => exact ⟨0, _, _, rfl, rfl, Nat.zero_le _, HJ0⟩
      case round =>
        clear HJ0 hmk2 x0 x1 x2 x3 x4 x5
        obtain ⟨j, a, c, rfl, rfl, hj, HM⟩ := hrel
        have g0 := HCl.out wr HM.out.2.1
        have y1 : wr.cell? ⟨bs, 1, none⟩ = some (.slice ma Nn mca) := by rw [cell_of_row _ _ _ _ _ (0, 0) g0]; rfl
        by_cases hlt1 : j < Nn
        · have j1 : (j : Int) < (Nn : Int) := by omega
          have j2 : (0 : Int) ≤ (j : Int) := by omega
          have hjN : j < sN.length := by rw [← HT1.out.2.2.1]; exact hlt1
          have bw : Below w.heap.size w wr := HT1.out.1.bl.trans (HM.out.2.1.mono HT1.out.1.bl.size)
          obtain ⟨g, off, e9, z0⟩ := iAt (HT1.out.2.1 wr bw).N j hjN
          dsimp only at e9
          subst e9
          have htj : sN.take (j + 1) = sN.take j ++ [sN[j]] := by rw [List.take_succ_eq_append_getElem hjN]
          have hlj : (sN.take j).length = j := by rw [List.length_take]; omega
          generalize sN[j] = x at z0 htj
          obtain ⟨v', Wa, hap, hra, sta, hoa⟩ := Rw.El.app1 okEI wr (sN.take j) (.slice a j c) HM.out.1 x (by show (_ + 1) * 8 ≤ _; rw [hlj]; omega) (by rw [hlj]; omega)
          obtain ⟨a5, c5, e5, -⟩ := hra.form
          rw [List.length_append, List.length_singleton, hlj] at e5
          subst e5
          have HN := Hid.mk (show EI.Row Wa (.slice a5 (j + 1) c5) (sN.take (j + 1)) ∧ Below W1.heap.size W1 Wa ∧ ∀ k, (Value.slice a5 (j + 1) c5).ownBlock = some k → W1.heap.size ≤ k from
            ⟨by rw [htj]; exact hra, HM.out.2.1.trans (sta.toBelow (fun k hk hf => by have := HM.out.2.2 k hf; omega) HM.out.2.1.size), fun k hk => by
              rcases hoa k hk with h1 | h1
              · exact HM.out.2.2 k h1
              · have := HM.out.2.1.size; omega⟩)
          dsimp only [EI] at hap
          clear hra sta hoa bw htj hlj g0 HM
          go_wp2_with (at_builtin; refine Rw.wpList_append_eq rfl _ _ _ _ rfl _ _ _ _ rfl rfl hap ?_; clear hap)
          try go_wp2
          exact ⟨⟨j + 1, a5, c5, rfl, rfl, hlt1, HN⟩, by simp only [intOf]; omega⟩
        · have ej : j = Nn := by omega
          have hsN : sN.take j = sN := List.take_of_length_le (by rw [ej, HT1.out.2.2.1]; exact Nat.le_refl _)
          obtain ⟨hr, hb9, ho9⟩ := HM.out
          rw [hsN] at hr
          have bA : Below wr.heap.size wr (wr.alloc (.cells #[.int .i64 (-71), .int .i64 (-72)] 3)) := (Below.refl _ wr).alloc (Nat.le_refl _) _
          obtain ⟨v3, W3, hap3, r3, st3, ho3⟩ := app_some okEI (wr.alloc (.cells #[.int .i64 (-71), .int .i64 (-72)] 3)) sN (.slice a j c) (hr.below bA) ⟨wr.heap.size, 0, none⟩ [-71, -72] 2 2 rfl (lit_at (E := EI) wr [-71, -72]) (by rw [← HT1.out.2.2.1]; show Nn + 2 ≤ _; omega)
          obtain ⟨a3, c3, e3, hc3⟩ := r3.form
          rw [List.length_append, ← HT1.out.2.2.1] at e3 hc3
          have e3' : v3 = .slice a3 (Nn + 2) c3 := e3
          have hc3' : Nn + 2 ≤ c3 := hc3
          subst e3'
          clear e3 hc3
          have b3w : Below W1.heap.size W1 W3 := (hb9.trans (bA.mono hb9.size)).trans (st3.toBelow (fun k hk hf => by have := ho9 k hf; omega) (by have := hb9.size; simp; omega))
          have o3 : ∀ k, (Value.slice a3 (Nn + 2) c3).ownBlock = some k → W1.heap.size ≤ k := fun k hk => by
            rcases ho3 k hk with h1 | h1
            · exact ho9 k h1
            · have := hb9.size; simp at h1; omega
          have g3 := HCl.out W3 b3w
          have y2 : W3.cell? ⟨bs, 2, none⟩ = some (.slice mlb Sn mcb) := by rw [cell_of_row _ _ _ _ _ (0, 0) g3]; rfl
          obtain ⟨W4, hmk4, r4, b4, s4⟩ := made_room okES W3 (Sn + 2) (by omega)
          rw [show ((Sn + 2 : Nat) : Int) = (Sn : Int) + 2 from by omega] at hmk4
          simp only [ES] at hmk4
          have HR3 := Hid.mk (And.intro r3 (And.intro o3 b3w))
          have HJ0 := Hid.mk (show ES.Row W4 (.slice (some ⟨W3.heap.size, 0, none⟩) 0 (Sn + 2)) (sS.take 0) ∧ Below W3.heap.size W3 W4 ∧ (∀ k, (Value.slice (some ⟨W3.heap.size, 0, none⟩) 0 (Sn + 2)).ownBlock = some k → W3.heap.size ≤ k) from ⟨r4, b4, fun k hk => by simp [Value.ownBlock] at hk; omega⟩)
          simp only [EI] at hap3
          rw [ej] at hap3
          clear r3 o3 b3w st3 ho3 hr hb9 ho9 hsN bA g0 g3 r4 b4 s4 HM hlt1
          subst ej
          go_wp2_with (at_builtin; refine Rw.wpList_append_eq rfl _ _ _ _ rfl _ _ _ _ rfl rfl hap3 ?_; clear hap3)
          try go_wp2
          clear y1 y2
          go_loopw [8, 9] (fun u8 u9 wv => ∃ (j2 : Nat) (a : Option Addr) (c : Nat), u8 = .slice a j2 c ∧ u9 = .int .i64 j2 ∧ j2 ≤ Sn ∧ Hid (ES.Row wv (.slice a j2 c) (sS.take j2) ∧ Below W3.heap.size W3 wv ∧ ∀ k, (Value.slice a j2 c).ownBlock = some k → W3.heap.size ≤ k)) (fun _ u _ => Sn - (intOf u).toNat)
          case atStart => exact ⟨0, _, _, rfl, rfl, Nat.zero_le _, HJ0⟩
          case round =>
            clear HJ0 hmk4
            obtain ⟨k2, a2, c2, rfl, rfl, hk2, HM⟩ := hrel
            have b13 : Below W1.heap.size W1 wr := HR3.out.2.2.trans (HM.out.2.1.mono HR3.out.2.2.size)
            have g0 := HCl.out wr b13
            have y2 : wr.cell? ⟨bs, 2, none⟩ = some (.slice mlb Sn mcb) := by rw [cell_of_row _ _ _ _ _ (0, 0) g0]; rfl
            by_cases hlt2 : k2 < Sn
            · have j1 : (k2 : Int) < (Sn : Int) := by omega
              have j2 : (0 : Int) ≤ (k2 : Int) := by omega
              have hjS : k2 < sS.length := by rw [← HT1.out.2.2.2.1]; exact hlt2
              have bw : Below w.heap.size w wr := HT1.out.1.bl.trans (b13.mono HT1.out.1.bl.size)
              obtain ⟨g, off, e9, z0⟩ := sAt (HT1.out.2.1 wr bw).S k2 hjS
              dsimp only at e9
              subst e9
              have htj : sS.take (k2 + 1) = sS.take k2 ++ [sS[k2]] := by rw [List.take_succ_eq_append_getElem hjS]
              have hlj : (sS.take k2).length = k2 := by rw [List.length_take]; omega
              generalize sS[k2] = x at z0 htj
              obtain ⟨v', Wa, hap, hra, sta, hoa⟩ := Rw.El.app1 okES wr (sS.take k2) (.slice a2 k2 c2) HM.out.1 x (by show (_ + 1) * 16 ≤ _; rw [hlj]; omega) (by rw [hlj]; omega)
              obtain ⟨a5, c5, e5, -⟩ := hra.form
              rw [List.length_append, List.length_singleton, hlj] at e5
              subst e5
              have HN := Hid.mk (show ES.Row Wa (.slice a5 (k2 + 1) c5) (sS.take (k2 + 1)) ∧ Below W3.heap.size W3 Wa ∧ ∀ k, (Value.slice a5 (k2 + 1) c5).ownBlock = some k → W3.heap.size ≤ k from
                ⟨by rw [htj]; exact hra, HM.out.2.1.trans (sta.toBelow (fun k hk hf => by have := HM.out.2.2 k hf; omega) HM.out.2.1.size), fun k hk => by
                  rcases hoa k hk with h1 | h1
                  · exact HM.out.2.2 k h1
                  · have := HM.out.2.1.size; omega⟩)
              dsimp only [ES] at hap
              clear hra sta hoa bw htj hlj g0 HM b13
              go_wp2_with (at_builtin; refine Rw.wpList_append_eq rfl _ _ _ _ rfl _ _ _ _ rfl rfl hap ?_; clear hap)
              try go_wp2
              exact ⟨⟨k2 + 1, a5, c5, rfl, rfl, hlt2, HN⟩, by simp only [intOf]; omega⟩
            · have ek : k2 = Sn := by omega
              have hsS : sS.take k2 = sS := List.take_of_length_le (by rw [ek, HT1.out.2.2.2.1]; exact Nat.le_refl _)
              obtain ⟨hr, hb9, ho9⟩ := HM.out
              rw [hsS] at hr
              have bA : Below wr.heap.size wr (wr.alloc (.cells #[.string roomB, .string moreB] 9)) := (Below.refl _ wr).alloc (Nat.le_refl _) _
              obtain ⟨v5, W5, hap5, r5, st5, ho5⟩ := app_some okES (wr.alloc (.cells #[.string roomB, .string moreB] 9)) sS (.slice a2 k2 c2) (hr.below bA) ⟨wr.heap.size, 0, none⟩ [roomB, moreB] 2 2 rfl (lit_at (E := ES) wr [roomB, moreB]) (by rw [← HT1.out.2.2.2.1]; show Sn + 2 ≤ _; omega)
              obtain ⟨a5, c5, e5, hc5⟩ := r5.form
              rw [List.length_append, ← HT1.out.2.2.2.1] at e5 hc5
              have e5' : v5 = .slice a5 (Sn + 2) c5 := e5
              have hc5' : Sn + 2 ≤ c5 := hc5
              subst e5'
              clear e5 hc5
              have b35 : Below W3.heap.size W3 W5 := (hb9.trans (bA.mono hb9.size)).trans (st5.toBelow (fun k hk hf => by have := ho9 k hf; omega) (by have := hb9.size; simp; omega))
              have b15 : Below W1.heap.size W1 W5 := HR3.out.2.2.trans (b35.mono HR3.out.2.2.size)
              have o5 : ∀ k, (Value.slice a5 (Sn + 2) c5).ownBlock = some k → W3.heap.size ≤ k := fun k hk => by
                rcases ho5 k hk with h1 | h1
                · exact ho9 k h1
                · have := hb9.size; simp at h1; omega
              have g5 := HCl.out W5 b15
              have y0 : W5.cell? ⟨bs, 0, none⟩ = some (.int .i64 sk) := by rw [cell_of_row _ _ _ _ _ (0, 0) g5]; rfl
              have y1 : W5.cell? ⟨bs, 1, none⟩ = some (.slice ma j mca) := by rw [cell_of_row _ _ _ _ _ (0, 0) g5]; rfl
              have y2 : W5.cell? ⟨bs, 2, none⟩ = some (.slice mlb Sn mcb) := by rw [cell_of_row _ _ _ _ _ (0, 0) g5]; rfl
              have y3 : W5.cell? ⟨bs, 3, none⟩ = some (.int .i64 sa) := by rw [cell_of_row _ _ _ _ _ (0, 0) g5]; rfl
              have y4 : W5.cell? ⟨bs, 4, none⟩ = some (.int .i64 sb) := by rw [cell_of_row _ _ _ _ _ (0, 0) g5]; rfl
              have y5 : W5.cell? ⟨bs, 5, none⟩ = some (.int .i64 sc) := by rw [cell_of_row _ _ _ _ _ (0, 0) g5]; rfl
              obtain ⟨v7, W7, hap7, hrw7, st7, ho7⟩ := room_push (m := ⟨⟨sk, sN, sS, sa, sb, sc⟩, a3, c3, a5, c5⟩) (W5 := W5.drew) HT1.out.1 (b15.drew) (by rw [HT1.out.2.2.2.2.2]; omega) (show EI.Row W5.drew (.slice a3 (j + 2) c3) (sN ++ [-71, -72]) from (HR3.out.1.below b35).below (b_d' W5)) HR3.out.2.1 (show ES.Row W5.drew (.slice a5 (Sn + 2) c5) (sS ++ [roomB, moreB]) from r5.below (b_d' W5)) (fun k hk => Nat.le_trans HR3.out.2.2.size (o5 k hk)) (by show sN.length + 2 ≤ c3; rw [← HT1.out.2.2.1]; exact hc3') (by show sS.length + 2 ≤ c5; rw [← HT1.out.2.2.2.1]; exact hc5')
              dsimp only [mC] at hap7
              rw [← HT1.out.2.2.1, ← HT1.out.2.2.2.1, show W5.drew.heap.size = W5.heap.size from rfl] at hap7
              obtain ⟨a8, c8, e8, -⟩ := hrw7.row.form
              rw [List.length_append, List.length_singleton, HT1.out.2.2.2.2.2] at e8
              subst e8
              have bL : Below W5.heap.size W5 (W5.drew.alloc (.cells #[.int .i64 sk, .slice a3 j c3, .slice a5 Sn c5, .int .i64 sa, .int .i64 sb, .int .i64 sc] 32)) := (b_d' W5).alloc (Nat.le_refl _) _
              have HYL := Hid.mk (And.intro (Rw.cell_lat bL y0) (And.intro (Rw.cell_lat bL y1) (And.intro (Rw.cell_lat bL y2) (And.intro (Rw.cell_lat bL y3) (And.intro (Rw.cell_lat bL y4) (Rw.cell_lat bL y5))))))
              have hbn : ¬ ((Value.slice a0 i c0).ownBlock = some bs) := fun hf => by have h2 := HLO.out _ hf; omega
              have g7 : W7.heap[bs]? = _ := (st7.block bs (Array.getElem?_eq_some_iff.1 (show W5.drew.heap[bs]? = _ from g5)).1 hbn).trans g5
              have HYM := Hid.mk (show W7.cell? ⟨bs, 0, none⟩ = some (.int .i64 sk) ∧ W7.cell? ⟨bs, 1, none⟩ = some (.slice ma j mca) ∧ W7.cell? ⟨bs, 2, none⟩ = some (.slice mlb Sn mcb) ∧ W7.cell? ⟨bs, 3, none⟩ = some (.int .i64 sa) ∧ W7.cell? ⟨bs, 4, none⟩ = some (.int .i64 sb) ∧ W7.cell? ⟨bs, 5, none⟩ = some (.int .i64 sc) from by
                refine ⟨?_, ?_, ?_, ?_, ?_, ?_⟩
                all_goals (rw [cell_of_row _ _ _ _ _ (0, 0) g7]; rfl))
              have HN7 := Hid.mk (show ∃ L2, L2.map Mt.s = (L.take (i + 1)).map Mt.s ∧ RW w W7 (.slice a8 (i + 1) c8) L2 L2 from ⟨_, by rw [HT1.out.2.2.2.2.1, List.map_append]; rfl, hrw7⟩)
              have k3 : (j : Int) ≤ (c3 : Int) := by omega
              have k5 : (Sn : Int) ≤ (c5 : Int) := by omega
              have k0 : (0 : Int) ≤ (j : Int) := by omega
              have k00 : (0 : Int) ≤ (Sn : Int) := by omega
              simp only [ES, roomB, moreB] at hap5
              rw [ek] at hap5
              clear r5 st5 ho5 hr hb9 ho9 hsS bA g0 g5 g7 HM hlt2 b35 b15 o5 hrw7 st7 ho7 bL hbn b13
              subst ek
              go_wp2_with (at_builtin; refine Rw.wpList_append_eq rfl _ _ _ _ rfl _ _ _ _ rfl rfl hap5 ?_; clear hap5)
              try go_wp2_with fail
              refine wp_region_held_drew (S := fun w' => w'.cell? ⟨bs, 0, none⟩ = some (.int .i64 sk) ∧ w'.cell? ⟨bs, 1, none⟩ = some (.slice ma j mca) ∧ w'.cell? ⟨bs, 2, none⟩ = some (.slice mlb k2 mcb) ∧ w'.cell? ⟨bs, 3, none⟩ = some (.int .i64 sa) ∧ w'.cell? ⟨bs, 4, none⟩ = some (.int .i64 sb) ∧ w'.cell? ⟨bs, 5, none⟩ = some (.int .i64 sc)) (by kernel_rfl) ?_ (fun hHeld => ?_)
              · exact ⟨y0, y1, y2, y3, y4, y5⟩
              refine wpAnyH_take (i := 0) (oi := { dst := some 70, op := Op.move (Operand.tmp 3), type := 22, pos := "rooms.go:23", after := #[], guard := none }) (v := ?vp0) rfl (by kernel_rfl) (by kernel_rfl) (by kernel_rfl) (fun _ _ _ h => h) (Or.inl ⟨by rfl, ?hp0⟩) (by assumption) ?rp0
              case hp0 => (intro w0 hSw; (try dsimp only at hSw); go_simp; first | done | (with_reducible rfl) | (rw [if_pos (by omega)]; try (with_reducible rfl)) | (rw [if_neg (by omega)]; try (with_reducible rfl)))
              simp only [Act.put, List.setIfInBounds_toArray, List.set_cons_zero, List.set_cons_succ]
              refine wpAnyH_take (i := 1) (oi := { dst := some 71, op := Op.fieldAddr 32 (Operand.tmp 5) 0, type := 0, pos := "rooms.go:23", after := #[], guard := none }) (v := ?vp1) rfl (by kernel_rfl) (by kernel_rfl) (by kernel_rfl) (fun _ _ _ h => h) (Or.inl ⟨by rfl, ?hp1⟩) (by assumption) ?rp1
              case hp1 => (intro w0 hSw; (try dsimp only at hSw); go_simp; first | done | (with_reducible rfl) | (rw [if_pos (by omega)]; try (with_reducible rfl)) | (rw [if_neg (by omega)]; try (with_reducible rfl)))
              simp only [Act.put, List.setIfInBounds_toArray, List.set_cons_zero, List.set_cons_succ]
              refine wpAnyH_take (i := 2) (oi := { dst := some 72, op := Op.load 3 (Operand.tmp 71), type := 3, pos := "rooms.go:23", after := #[{ on := 1, ground := Ground.data }], guard := none }) (v := ?vp2) rfl (by kernel_rfl) (by kernel_rfl) (by kernel_rfl) (fun _ _ _ h => h) (Or.inl ⟨by rfl, ?hp2⟩) (by assumption) ?rp2
              case hp2 => (intro w0 hSw; (try dsimp only at hSw); go_simp; first | done | (with_reducible rfl) | (rw [if_pos (by omega)]; try (with_reducible rfl)) | (rw [if_neg (by omega)]; try (with_reducible rfl)))
              simp only [Act.put, List.setIfInBounds_toArray, List.set_cons_zero, List.set_cons_succ]
              refine wpAnyH_take (i := 3) (oi := { dst := some 73, op := Op.move (Operand.tmp 6), type := 27, pos := "rooms.go:23", after := #[], guard := none }) (v := ?vp3) rfl (by kernel_rfl) (by kernel_rfl) (by kernel_rfl) (fun _ _ _ h => h) (Or.inl ⟨by rfl, ?hp3⟩) (by assumption) ?rp3
              case hp3 => (intro w0 hSw; (try dsimp only at hSw); go_simp; first | done | (with_reducible rfl) | (rw [if_pos (by omega)]; try (with_reducible rfl)) | (rw [if_neg (by omega)]; try (with_reducible rfl)))
              simp only [Act.put, List.setIfInBounds_toArray, List.set_cons_zero, List.set_cons_succ]
              refine wpAnyH_take (i := 4) (oi := { dst := some 74, op := Op.fieldAddr 32 (Operand.tmp 5) 1, type := 0, pos := "rooms.go:23", after := #[], guard := none }) (v := ?vp4) rfl (by kernel_rfl) (by kernel_rfl) (by kernel_rfl) (fun _ _ _ h => h) (Or.inl ⟨by rfl, ?hp4⟩) (by assumption) ?rp4
              case hp4 => (intro w0 hSw; (try dsimp only at hSw); go_simp; first | done | (with_reducible rfl) | (rw [if_pos (by omega)]; try (with_reducible rfl)) | (rw [if_neg (by omega)]; try (with_reducible rfl)))
              simp only [Act.put, List.setIfInBounds_toArray, List.set_cons_zero, List.set_cons_succ]
              refine wpAnyH_take (i := 5) (oi := { dst := some 75, op := Op.load 27 (Operand.tmp 74), type := 27, pos := "rooms.go:23", after := #[{ on := 4, ground := Ground.data }], guard := none }) (v := ?vp5) rfl (by kernel_rfl) (by kernel_rfl) (by kernel_rfl) (fun _ _ _ h => h) (Or.inl ⟨by rfl, ?hp5⟩) (by assumption) ?rp5
              case hp5 => (intro w0 hSw; (try dsimp only at hSw); go_simp; first | done | (with_reducible rfl) | (rw [if_pos (by omega)]; try (with_reducible rfl)) | (rw [if_neg (by omega)]; try (with_reducible rfl)))
              simp only [Act.put, List.setIfInBounds_toArray, List.set_cons_zero, List.set_cons_succ]
              refine wpAnyH_take (i := 6) (oi := { dst := some 76, op := Op.call { callee := Callee.builtin Builtin.len, args := #[Operand.tmp 75], argTypes := #[27] }, type := 3, pos := "rooms.go:23", after := #[{ on := 5, ground := Ground.data }], guard := none }) (v := ?vp6) rfl (by kernel_rfl) (by kernel_rfl) (by kernel_rfl) (fun _ _ _ h => h) (Or.inl ⟨by rfl, ?hp6⟩) (by assumption) ?rp6
              case hp6 => (intro w0 hSw; (try dsimp only at hSw); go_simp; first | done | (with_reducible rfl) | (rw [if_pos (by omega)]; try (with_reducible rfl)) | (rw [if_neg (by omega)]; try (with_reducible rfl)))
              simp only [Act.put, List.setIfInBounds_toArray, List.set_cons_zero, List.set_cons_succ]
              refine wpAnyH_take (i := 7) (oi := { dst := some 77, op := Op.slice 27 (Operand.tmp 73) none (some (Operand.tmp 76)) none, type := 27, pos := "rooms.go:23", after := #[{ on := 3, ground := Ground.data }, { on := 6, ground := Ground.data }], guard := none }) (v := ?vp7) rfl (by kernel_rfl) (by kernel_rfl) (by kernel_rfl) (fun _ _ _ h => h) (Or.inl ⟨by rfl, ?hp7⟩) (by assumption) ?rp7
              case hp7 => (intro w0 hSw; (try dsimp only at hSw); go_simp; first | done | (with_reducible rfl) | (rw [if_pos (by omega)]; try (with_reducible rfl)) | (rw [if_neg (by omega)]; try (with_reducible rfl)))
              simp only [Act.put, List.setIfInBounds_toArray, List.set_cons_zero, List.set_cons_succ]
              refine wpAnyH_take (i := 8) (oi := { dst := some 78, op := Op.move (Operand.tmp 8), type := 28, pos := "rooms.go:23", after := #[], guard := none }) (v := ?vp8) rfl (by kernel_rfl) (by kernel_rfl) (by kernel_rfl) (fun _ _ _ h => h) (Or.inl ⟨by rfl, ?hp8⟩) (by assumption) ?rp8
              case hp8 => (intro w0 hSw; (try dsimp only at hSw); go_simp; first | done | (with_reducible rfl) | (rw [if_pos (by omega)]; try (with_reducible rfl)) | (rw [if_neg (by omega)]; try (with_reducible rfl)))
              simp only [Act.put, List.setIfInBounds_toArray, List.set_cons_zero, List.set_cons_succ]
              refine wpAnyH_take (i := 9) (oi := { dst := some 79, op := Op.fieldAddr 32 (Operand.tmp 5) 2, type := 0, pos := "rooms.go:23", after := #[], guard := none }) (v := ?vp9) rfl (by kernel_rfl) (by kernel_rfl) (by kernel_rfl) (fun _ _ _ h => h) (Or.inl ⟨by rfl, ?hp9⟩) (by assumption) ?rp9
              case hp9 => (intro w0 hSw; (try dsimp only at hSw); go_simp; first | done | (with_reducible rfl) | (rw [if_pos (by omega)]; try (with_reducible rfl)) | (rw [if_neg (by omega)]; try (with_reducible rfl)))
              simp only [Act.put, List.setIfInBounds_toArray, List.set_cons_zero, List.set_cons_succ]
              refine wpAnyH_take (i := 10) (oi := { dst := some 80, op := Op.load 28 (Operand.tmp 79), type := 28, pos := "rooms.go:23", after := #[{ on := 9, ground := Ground.data }], guard := none }) (v := ?vp10) rfl (by kernel_rfl) (by kernel_rfl) (by kernel_rfl) (fun _ _ _ h => h) (Or.inl ⟨by rfl, ?hp10⟩) (by assumption) ?rp10
              case hp10 => (intro w0 hSw; (try dsimp only at hSw); go_simp; first | done | (with_reducible rfl) | (rw [if_pos (by omega)]; try (with_reducible rfl)) | (rw [if_neg (by omega)]; try (with_reducible rfl)))
              simp only [Act.put, List.setIfInBounds_toArray, List.set_cons_zero, List.set_cons_succ]
              refine wpAnyH_take (i := 11) (oi := { dst := some 81, op := Op.call { callee := Callee.builtin Builtin.len, args := #[Operand.tmp 80], argTypes := #[28] }, type := 3, pos := "rooms.go:23", after := #[{ on := 10, ground := Ground.data }], guard := none }) (v := ?vp11) rfl (by kernel_rfl) (by kernel_rfl) (by kernel_rfl) (fun _ _ _ h => h) (Or.inl ⟨by rfl, ?hp11⟩) (by assumption) ?rp11
              case hp11 => (intro w0 hSw; (try dsimp only at hSw); go_simp; first | done | (with_reducible rfl) | (rw [if_pos (by omega)]; try (with_reducible rfl)) | (rw [if_neg (by omega)]; try (with_reducible rfl)))
              simp only [Act.put, List.setIfInBounds_toArray, List.set_cons_zero, List.set_cons_succ]
              refine wpAnyH_take (i := 12) (oi := { dst := some 82, op := Op.slice 28 (Operand.tmp 78) none (some (Operand.tmp 81)) none, type := 28, pos := "rooms.go:23", after := #[{ on := 8, ground := Ground.data }, { on := 11, ground := Ground.data }], guard := none }) (v := ?vp12) rfl (by kernel_rfl) (by kernel_rfl) (by kernel_rfl) (fun _ _ _ h => h) (Or.inl ⟨by rfl, ?hp12⟩) (by assumption) ?rp12
              case hp12 => (intro w0 hSw; (try dsimp only at hSw); go_simp; first | done | (with_reducible rfl) | (rw [if_pos (by omega)]; try (with_reducible rfl)) | (rw [if_neg (by omega)]; try (with_reducible rfl)))
              simp only [Act.put, List.setIfInBounds_toArray, List.set_cons_zero, List.set_cons_succ]
              refine wpAnyH_take (i := 13) (oi := { dst := some 83, op := Op.fieldAddr 32 (Operand.tmp 5) 3, type := 0, pos := "rooms.go:23", after := #[], guard := none }) (v := ?vp13) rfl (by kernel_rfl) (by kernel_rfl) (by kernel_rfl) (fun _ _ _ h => h) (Or.inl ⟨by rfl, ?hp13⟩) (by assumption) ?rp13
              case hp13 => (intro w0 hSw; (try dsimp only at hSw); go_simp; first | done | (with_reducible rfl) | (rw [if_pos (by omega)]; try (with_reducible rfl)) | (rw [if_neg (by omega)]; try (with_reducible rfl)))
              simp only [Act.put, List.setIfInBounds_toArray, List.set_cons_zero, List.set_cons_succ]
              refine wpAnyH_take (i := 14) (oi := { dst := some 84, op := Op.load 30 (Operand.tmp 83), type := 30, pos := "rooms.go:23", after := #[{ on := 13, ground := Ground.data }], guard := none }) (v := ?vp14) rfl (by kernel_rfl) (by kernel_rfl) (by kernel_rfl) (fun _ _ _ h => h) (Or.inl ⟨by rfl, ?hp14⟩) (by assumption) ?rp14
              case hp14 => (intro w0 hSw; (try dsimp only at hSw); go_simp; first | done | (with_reducible rfl) | (rw [if_pos (by omega)]; try (with_reducible rfl)) | (rw [if_neg (by omega)]; try (with_reducible rfl)))
              simp only [Act.put, List.setIfInBounds_toArray, List.set_cons_zero, List.set_cons_succ]
              refine wpAnyH_take (i := 15) (oi := { dst := some 85, op := Op.build 32 #[(0, Operand.tmp 72), (1, Operand.tmp 77), (2, Operand.tmp 82), (3, Operand.tmp 84)], type := 32, pos := "rooms.go:23", after := #[{ on := 2, ground := Ground.data }, { on := 7, ground := Ground.data }, { on := 12, ground := Ground.data }, { on := 14, ground := Ground.data }], guard := none }) (v := ?vp15) rfl (by kernel_rfl) (by kernel_rfl) (by kernel_rfl) (fun _ _ _ h => h) (Or.inl ⟨by rfl, ?hp15⟩) (by assumption) ?rp15
              case hp15 => (intro w0 hSw; (try dsimp only at hSw); go_simp; first | done | (with_reducible rfl) | (rw [if_pos (by omega)]; try (with_reducible rfl)) | (rw [if_neg (by omega)]; try (with_reducible rfl)))
              simp only [Act.put, List.setIfInBounds_toArray, List.set_cons_zero, List.set_cons_succ]
              refine wpAnyH_ready (rs := [16]) (by kernel_rfl) (by simp) ?_
              refine AllReadyH.cons rfl (fun K hK => ?_) AllReadyH.nil
              go_simp
              refine hK.out _ _ ?_ (fun hHeld => ?_)
              · exact HYL.out
              clear hK K
              refine wpAnyH_ready (rs := [17]) (by kernel_rfl) (by simp) ?_
              refine AllReadyH.cons rfl (fun K hK => ?_) AllReadyH.nil
              refine step_append_eq rfl _ _ _ _ rfl _ _ _ _ rfl rfl hap7 ?_
              clear hap7
              refine hK.out _ _ ?_ (fun hHeld => ?_)
              · exact HYM.out
              clear hK K
              refine wpAnyH_take (i := 18) (oi := { dst := some 3, op := Op.assign (Operand.tmp 87), type := 22, pos := "rooms.go:23", after := #[{ on := 17, ground := Ground.data }, { on := 17, ground := Ground.chain }, { on := 0, ground := Ground.phase }, { on := 1, ground := Ground.phase }, { on := 2, ground := Ground.phase }, { on := 3, ground := Ground.phase }, { on := 4, ground := Ground.phase }, { on := 5, ground := Ground.phase }, { on := 6, ground := Ground.phase }, { on := 7, ground := Ground.phase }, { on := 8, ground := Ground.phase }, { on := 9, ground := Ground.phase }, { on := 10, ground := Ground.phase }, { on := 11, ground := Ground.phase }, { on := 12, ground := Ground.phase }, { on := 13, ground := Ground.phase }, { on := 14, ground := Ground.phase }, { on := 15, ground := Ground.phase }, { on := 16, ground := Ground.phase }, { on := 17, ground := Ground.phase }], guard := none }) (v := ?vp18) rfl (by kernel_rfl) (by kernel_rfl) (by kernel_rfl) (fun _ _ _ h => h) (Or.inl ⟨by rfl, ?hp18⟩) (by assumption) ?rp18
              case hp18 => (intro w0 hSw; (try dsimp only at hSw); go_simp; first | done | (with_reducible rfl) | (rw [if_pos (by omega)]; try (with_reducible rfl)) | (rw [if_neg (by omega)]; try (with_reducible rfl)))
              simp only [Act.put, List.setIfInBounds_toArray, List.set_cons_zero, List.set_cons_succ]
              refine wpAnyH_done (by kernel_rfl) ?_ _
              go_wp2
              exact ⟨⟨i + 1, a8, c8, rfl, rfl, hlt, HN7⟩, by simp only [intOf]; omega⟩
    · have e : i = n := by omega
      have hlt2 : L.take i = L := List.take_of_length_le (by rw [← HX.out.1]; omega)
      rw [hlt2] at hL'
      have hLl : L'.length = i := by
        have h1 := congrArg List.length hL'
        rw [List.length_map, List.length_map, ← HX.out.1] at h1; omega
      have bA : Below wr.heap.size wr (wr.alloc (.cells #[.int .i64 71, .slice none 0 0, .slice none 0 0, .int .i64 0, .int .i64 0, .int .i64 0, .int .i64 72, .slice none 0 0, .slice none 0 0, .int .i64 0, .int .i64 0, .int .i64 0] 32)) := (Below.refl _ wr).alloc (Nat.le_refl _) _
      have hTA := hT.below bA
      obtain ⟨v7, W7, hap7, r7, st7, ho7⟩ := app_some okEM (wr.alloc (.cells #[.int .i64 71, .slice none 0 0, .slice none 0 0, .int .i64 0, .int .i64 0, .int .i64 0, .int .i64 72, .slice none 0 0, .slice none 0 0, .int .i64 0, .int .i64 0, .int .i64 0] 32)) L' (.slice a0 i c0) hTA.row ⟨wr.heap.size, 0, none⟩ [xK 71, xK 72] 2 2 rfl (lit_at (E := EM) wr [xK 71, xK 72]) (by rw [hLl]; show i + 2 ≤ _; omega)
      have hsz7 : w.heap.size ≤ (wr.alloc (.cells #[.int .i64 71, .slice none 0 0, .slice none 0 0, .int .i64 0, .int .i64 0, .int .i64 0, .int .i64 72, .slice none 0 0, .slice none 0 0, .int .i64 0, .int .i64 0, .int .i64 0] 32)).heap.size := hTA.bl.size
      have hR7 : RW w W7 v7 (L' ++ [xK 71, xK 72]) L' := ⟨r7, fun x hx => (hTA.own x hx).kept st7 (fun a ha hf => by
        rcases ha with ha | ha
        · exact ((hTA.own x hx).nN a ha).2 hf
        · exact ((hTA.own x hx).nS a ha).2 hf) ho7, hTA.bl.trans (st7.toBelow (fun k hk hf => by have := hTA.vo k hf; omega) hsz7), fun k hk => by
        rcases ho7 k hk with h1 | h1
        · exact hTA.vo k h1
        · omega⟩
      have hlen7 : (L' ++ [xK 71, xK 72]).length = i + 2 := by rw [List.length_append, hLl]; rfl
      obtain ⟨b, c7, rfl, hc7⟩ : ∃ b c7, v7 = .slice (some ⟨b, 0, none⟩) (i + 2) c7 ∧ i + 2 ≤ c7 := by
        rcases r7.2 with ⟨_, h0⟩ | ⟨b, cap, cur, hv, _, _, hnc, _⟩
        · rw [hlen7] at h0; omega
        · rw [hlen7] at hv hnc
          exact ⟨b, cap, hv, hnc⟩
      have k7 : (i : Int) ≤ (c7 : Int) := by omega
      have k0 : (0 : Int) ≤ (i : Int) := by omega
      have HF := Hid.mk (And.intro hL' hR7)
      simp only [EM] at hap7
      clear hL' hT hlt2 HM hlt hLl bA hTA r7 st7 ho7 hsz7 hR7 hlen7 hmk
      subst e
      go_wp2_with (at_builtin; refine Rw.wpList_append_eq rfl _ _ _ _ rfl _ _ _ _ rfl rfl hap7 ?_; clear hap7)
      try go_wp2
      go_ret
      exact ⟨b, c7, L', rfl, HF.out.1, HF.out.2⟩
end Go.Proofs.YtojnlngpgbcimaaDoor
