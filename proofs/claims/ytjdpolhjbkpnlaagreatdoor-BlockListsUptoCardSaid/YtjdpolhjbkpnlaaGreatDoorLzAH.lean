/-
  DERIVED. BWrite, BCheck, as one text.
-/
import Derived.Test.YtjdpolhjbkpnlaaGreatDoorLzAG
import Derived.Test.YtjdpolhjbkpnlaaGreatDoorLzAD
import Derived.Test.YtjdpolhjbkpnlaaGreatDoorLzAE
set_option linter.unusedVariables false
set_option linter.unusedSimpArgs false
namespace Go.Proofs.YtjdpolhjbkpnlaaGreatDoor
open Go.RowKit Go.Shelf Go.Proofs.SealMath
attribute [local go_sem] Oper.semAt_some
set_option maxRecDepth 100000 in
set_option maxHeartbeats 1000000 in
theorem write_x (a b c d e : Nat) (x0 : Int) (l : List En) (la : Option Addr) (cap : Nat) (w : World) (ht : Tab w) (hok : ∀ e ∈ l, Ok e) (hn : l.length ≤ 2097152) (hcap : l.length ≤ cap) (hla : l ≠ [] → ∃ g off, la = some ⟨g, off, none⟩ ∧ RowAt w g off (l.flatMap enC))
    (ha : a < 9223372036854775808) (hb : b < 9223372036854775808) (hc : c < 9223372036854775808) (hd : d < 9223372036854775808) (he : e < 9223372036854775808) :
    Calls Tryz.prog 37 #[.agg #[.int .i64 a, .int .i64 b, .int .i64 c, .int .i64 d, .int .i64 e, .int .i64 x0], .slice la l.length cap] w fun r w' => r = .returned (.string ⟨(fileT ⟨a, b, c, d, e, x0⟩ l).toArray⟩) ∧ Below w.heap.size w w' := by
  obtain ⟨n, hnl⟩ : ∃ n, n = l.length := ⟨_, rfl⟩
  have hH := fun W => head_x a b c d e n W ha hb hc hd he (by omega) x0
  rw [← hnl]
  have HNL := Hid.mk hnl
  have hn' : n ≤ 2097152 := by omega
  clear hnl
  refine (callsIn_wide (n := 9)).1 ?_
  refine callsIn_of_wp_marks Tryz.func37 rfl trivial ?_ rfl
  simp only [Tryz.ntmps37, List.size_toArray, List.length_cons, List.length_nil, Nat.reduceAdd, Nat.reduceSub, Array.replicate_succ, Array.replicate_zero, List.push_toArray, List.append_toArray, List.nil_append, List.cons_append]
  gi_wp2_with fail
  obtain ⟨V, hV⟩ : ∃ V, V = ((w.alloc (.cells #[.int .i64 a, .int .i64 b, .int .i64 c, .int .i64 d, .int .i64 e, .int .i64 n] 31)).alloc (.cells #[.pointer none, .slice none 0 0] 121)).alloc (.cells #[.func (.func 65) #[] #[Pt (w.heap.size + 1)]] 127) := ⟨_, rfl⟩
  have vz : V.heap.size = w.heap.size + 3 := by rw [hV]; simp
  have vb : Below w.heap.size w V := by rw [hV]; exact (((Below.refl _ w).alloc (Nat.le_refl _) _).alloc (by simp) _).alloc (by simp; omega) _
  have vS : SAt V w.heap.size [.int .i64 a, .int .i64 b, .int .i64 c, .int .i64 d, .int .i64 e, .int .i64 n] := by
    rw [hV]
    exact ((SAt.new w [.int .i64 a, .int .i64 b, .int .i64 c, .int .i64 d, .int .i64 e, .int .i64 n] 31).below ((Below.refl _ _).alloc (Nat.le_refl _) _) (by simp)).below ((Below.refl _ _).alloc (Nat.le_refl _) _) (by simp; omega)
  have vB : Bd V (w.heap.size + 1) (.pointer none) (.slice none 0 0) [] := by
    rw [hV]
    have h1 := Bd.new (w.alloc (.cells #[.int .i64 a, .int .i64 b, .int .i64 c, .int .i64 d, .int .i64 e, .int .i64 n] 31))
    rw [World.size_alloc] at h1
    exact h1.kept (F := fun _ => False) (.below ((Below.refl _ _).alloc (Nat.le_refl _) _)) (fun e => e) (fun _ _ e => e)
  have vA : Boxed V (w.heap.size + 1 + 1) 127 (.func (.func 65) #[] #[Pt (w.heap.size + 1)]) := by
    rw [hV]
    have h1 := Boxed.new ((w.alloc (.cells #[.int .i64 a, .int .i64 b, .int .i64 c, .int .i64 d, .int .i64 e, .int .i64 n] 31)).alloc (.cells #[.pointer none, .slice none 0 0] 121)) 127 (.func (.func 65) #[] #[Pt (w.heap.size + 1)])
    rw [World.size_alloc, World.size_alloc] at h1
    exact h1
  have tV : Tab V := ht.lat vb
  rw [← hV]
  clear hV
  have dV := (Below.refl V.heap.size V).drew
  have S0 : V.drew.cell? ⟨w.heap.size + 1 + 1, 0, none⟩ = some (.func (.func 65) #[] #[Pt (w.heap.size + 1)]) ∧ SAt V.drew w.heap.size [.int .i64 a, .int .i64 b, .int .i64 c, .int .i64 d, .int .i64 e, .int .i64 n] := ⟨vA.cell, vS⟩
  refine region_heldP mixed 4 rfl (S := fun w' => w'.cell? ⟨w.heap.size + 1 + 1, 0, none⟩ = some (.func (.func 65) #[] #[Pt (w.heap.size + 1)]) ∧ SAt w' w.heap.size [.int .i64 a, .int .i64 b, .int .i64 c, .int .i64 d, .int .i64 e, .int .i64 n]) ?_
  refine AnyS.take (i := 0) (v := ?v0) (by kernel_rfl) rfl (by kernel_rfl) (by kernel_rfl) (by kernel_rfl) (fun _ _ _ h => h) ⟨Or.inl ⟨by rfl, fun w' hS => ?y0⟩, fun _ => rfl⟩ S0 ?_
  case y0 => have g1 := hS.1; clear hS; go_simp; rfl
  refine AnyS.take (i := 1) (v := .agg #[.int .i64 a, .int .i64 b, .int .i64 c, .int .i64 d, .int .i64 e, .int .i64 n]) (by kernel_rfl) rfl (by kernel_rfl) (by kernel_rfl) (by kernel_rfl) (fun _ _ _ h => h) ⟨Or.inl ⟨by rfl, fun w' hS => ?y1⟩, fun _ => rfl⟩ S0 ?_
  case y1 =>
    have g0 := hS.2 0 _ rfl
    have g1 := hS.2 1 _ rfl
    have g2 := hS.2 2 _ rfl
    have g3 := hS.2 3 _ rfl
    have g4 := hS.2 4 _ rfl
    have g5 := hS.2 5 _ rfl
    clear hS
    go_simp
  refine AnyS.one (i := 2) (by kernel_rfl) (wpOpIn_step rfl (fun K hK => ?_))
  go_simp
  refine ⟨trivial, (callsIn_wide.2 (hH _)).mono ?_⟩
  rintro r W1 ⟨X, rfl, hXs, HX, b1⟩
  have b1' : Below V.heap.size V W1 := below_d b1
  have S1 : W1.cell? ⟨w.heap.size + 1 + 1, 0, none⟩ = some (.func (.func 65) #[] #[Pt (w.heap.size + 1)]) ∧ SAt W1 w.heap.size [.int .i64 a, .int .i64 b, .int .i64 c, .int .i64 d, .int .i64 e, .int .i64 n] := ⟨cell_lat b1' vA.cell, vS.below b1' (by omega)⟩
  refine hK _ _ ⟨S1, ?_⟩
  clear hK K
  have B1 := vB.kept (F := fun _ => False) (.below b1') (fun e => e) (fun _ _ e => e)
  refine AnyS.one (i := 3) (by kernel_rfl) (wpOpIn_step rfl (fun K hK => ?_))
  have hadd := add_any 4 X W1 (tV.lat b1') B1 (by omega) (by omega) (by omega) (by simp; omega)
  go_simp
  refine ⟨trivial, (callsIn_wide.2 hadd).mono ?_⟩
  rintro r W2 ⟨rfl, v2, B2, wr2⟩
  rw [HX.out, List.nil_append] at B2
  have st2 : Stay (· = w.heap.size + 1) W1 W2 := wr2.stay.mono fun k _ e => e.elim (fun e => e) (fun e => by cases e)
  have A2 : Boxed W2 (w.heap.size + 1 + 1) 127 (.func (.func 65) #[] #[Pt (w.heap.size + 1)]) := box_stay ((b1'.block _ vA.lt).trans vA) st2 (by omega)
  have bV2 : Below w.heap.size w W2 := (vb.trans (b1'.mono (by omega))).trans (st2.toBelow (fun k hk e => by omega) (by have := b1'.size; omega))
  have S2 : SAt W2 w.heap.size [.int .i64 a, .int .i64 b, .int .i64 c, .int .i64 d, .int .i64 e, .int .i64 n] := fun j u hu => by
    have h1 := S1.2 j u hu
    have h2 : W2.heap[w.heap.size]? = W1.heap[w.heap.size]? := st2.block _ (World.block_lt_of_cell? W1 _ h1) (by omega)
    rw [← h1]; simp [World.cell?, h2]
  refine hK _ _ ⟨⟨A2.cell, S2⟩, AnyS.done (by kernel_rfl) ?_⟩
  rw [NP_normal]
  clear hK K hH hadd S1 S0 dV st2 S2
  have hlo2 : ∀ k, v2.ownBlock = some k → w.heap.size + 3 ≤ k := fun k hk => by
    rcases wr2.loc k hk with e | e
    · cases e
    · have := b1'.size; omega
  have z2 : w.heap.size + 3 ≤ W2.heap.size := by have := b1'.size; have := wr2.stay.size; omega
  have t2 : Tab W2 := ht.lat bV2
  clear wr2 b1' b1 B1 tV vA vB vS vb vz
  gi_wp2_with fail
  refine ⟨trivial, (callsIn_wide.2 (sum_any _ _ (t2.lat ((Below.refl _ W2).alloc (Nat.le_refl _) _)) (by decide))).mono ?_⟩
  rintro r W3 ⟨rfl, rfl⟩
  gi_wp2_with fail
  refine ⟨trivial, (callsIn_wide.2 (packedE_any _ _ _ _ _)).mono ?_⟩
  rintro r W4 ⟨rfl, rfl⟩
  gi_wp2_with fail
  obtain ⟨U, hU⟩ : ∃ U, U = (((W2.alloc (.cells #[.slice none 0 0] 129)).alloc (.cells #[.int .u32 (crc 0 [] : Nat)] 102)).alloc (.cells #[.slice la n cap] 34)).alloc (.cells #[.func (.func 71) #[] #[]] 97) := ⟨_, rfl⟩
  have uz : U.heap.size = W2.heap.size + 4 := by rw [hU]; simp
  have ub : Below W2.heap.size W2 U := by rw [hU]; exact ((((Below.refl _ W2).alloc (Nat.le_refl _) _).alloc (by simp) _).alloc (by simp; omega) _).alloc (by simp; omega) _
  have u1 : Boxed U W2.heap.size 129 (.slice none 0 0) := by rw [hU]; exact (((Boxed.new W2 129 (.slice none 0 0)).alloc _).alloc _).alloc _
  have u2 : Boxed U (W2.heap.size + 1) 102 (.int .u32 (crc 0 [] : Nat)) := by
    rw [hU]
    have h1 := Boxed.new (W2.alloc (.cells #[.slice none 0 0] 129)) 102 (.int .u32 (crc 0 [] : Nat))
    rw [World.size_alloc] at h1
    exact (h1.alloc _).alloc _
  have u3 : Boxed U (W2.heap.size + 1 + 1) 34 (.slice la n cap) := by
    rw [hU]
    have h1 := Boxed.new ((W2.alloc (.cells #[.slice none 0 0] 129)).alloc (.cells #[.int .u32 (crc 0 [] : Nat)] 102)) 34 (.slice la n cap)
    rw [World.size_alloc, World.size_alloc] at h1
    exact h1.alloc _
  have u4 : Boxed U (W2.heap.size + 1 + 1 + 1) 97 (.func (.func 71) #[] #[]) := by
    rw [hU]
    have h1 := Boxed.new (((W2.alloc (.cells #[.slice none 0 0] 129)).alloc (.cells #[.int .u32 (crc 0 [] : Nat)] 102)).alloc (.cells #[.slice la n cap] 34)) 97 (.func (.func 71) #[] #[])
    rw [World.size_alloc, World.size_alloc, World.size_alloc] at h1
    exact h1
  rw [← hU]
  clear hU
  have bU : Below w.heap.size w U := bV2.trans (ub.mono (by omega))
  have aU : Boxed U (w.heap.size + 1 + 1) 127 (.func (.func 65) #[] #[Pt (w.heap.size + 1)]) := (ub.block _ A2.lt).trans A2
  have fU : Bd U (w.heap.size + 1) (Pt (w.heap.size + 1)) v2 (hdF ⟨a, b, c, d, e, x0⟩ l) := by
    have h1 := B2.kept (F := fun _ => False) (.below ub) (fun e => e) (fun _ _ e => e)
    have e1 : hdF ⟨a, b, c, d, e, x0⟩ l = frL 4 (hdB ⟨a, b, c, d, e, x0⟩ n) := by unfold hdF; rw [HNL.out]
    rw [e1]; exact h1
  obtain ⟨Hh, hHh⟩ : ∃ Hh : Hd, Hh = ⟨a, b, c, d, e, x0⟩ := ⟨_, rfl⟩
  rw [← hHh] at fU
  obtain ⟨g, off, hgK, hseq, hrow⟩ : ∃ g off, (g < w.heap.size ∨ g = W2.heap.size + 1 + 1) ∧ SeqSt Fence.wide 8 Tryz.prog 97 #[Pt (W2.heap.size + 1 + 1), Pt (W2.heap.size + 1 + 1 + 1)] (encP enB g off 5 cap) (fun p x => p ++ [x] <+: pk enB l) TrB (KpB fun k => k = W2.heap.size + 1 + 1 ∨ k = W2.heap.size + 1 + 1 + 1 ∨ k = g) (fun p => p = pk enB l) (fun _ => True) none U ∧ (l ≠ [] → g < w.heap.size ∧ RowAt w g off (l.flatMap enC)) := by
    by_cases h0 : l = []
    · refine ⟨W2.heap.size + 1 + 1, 0, .inr rfl, ?_, fun h => absurd h0 h⟩
      have hn0 : n = 0 := by rw [HNL.out, h0]; rfl
      rw [h0]
      exact packE_nil la _ _ cap _ _ _ _ U (by have := u3; unfold Boxed at this; rw [hn0] at this; exact this)
    · obtain ⟨g, off, rfl, hr⟩ := hla h0
      have hg : g < w.heap.size := by
        obtain ⟨y, ys, rfl⟩ := List.exists_cons_of_ne_nil h0
        exact World.block_lt_of_cell? w ⟨g, off + 0, none⟩ (hr 0 _ (by simp [enC]; rfl))
      have hgb := bU.block g hg
      refine ⟨g, off, .inl hg, ?_, fun _ => ⟨hg, hr⟩⟩
      have hrU : RowAt U g off (l.flatMap enC) := fun j u hu => (bU.cell (p := ⟨g, off + j, none⟩) hg).trans (hr j u hu)
      rw [HNL.out] at u3
      refine packE_st l g off cap _ _ _ _ U u3 u4 hrU ⟨.inl rfl, .inr (.inl rfl), .inr (.inr rfl)⟩ ?_ hn hcap hok
      rintro k (rfl | rfl | rfl)
      · exact ⟨_, _, _, u3⟩
      · exact ⟨_, _, _, u4⟩
      · obtain ⟨y, ys, rfl⟩ := List.exists_cons_of_ne_nil h0
        have hc := hrU 0 (.int .i64 y.v) (by simp [enC])
        simp only [World.cell?] at hc
        split at hc
        · exact ⟨_, _, _, by assumption⟩
        · cases hc
  have wi0 : WI w (w.heap.size + 1) (w.heap.size + 1 + 1) W2.heap.size (W2.heap.size + 1) (fun k => k = W2.heap.size + 1 + 1 ∨ k = W2.heap.size + 1 + 1 + 1 ∨ k = g) (hdF Hh l ++ blkL enB 5 []) (lns (hdF Hh l).length []) (smP []) v2 (.slice none 0 0) none U := by
    refine ⟨by simpa [blkL] using fU, aU, u1, ⟨rfl, .inl ⟨rfl, rfl⟩⟩, u2, bU, ?_, ?_⟩
    · rintro k (h | h | h | h | h)
      · omega
      · omega
      · omega
      · have := hlo2 k h; omega
      · cases h
    · rintro k (hk | hk)
      · have hlt : ∀ j, v2.ownBlock = some j → w.heap.size + 3 ≤ j ∧ j < W2.heap.size := fun j hj => ⟨hlo2 j hj, row_lt B2.row hj⟩
        refine ⟨?_, by omega, by omega⟩
        rintro (h | h | h | h | h)
        · omega
        · omega
        · omega
        · have := hlt k h; omega
        · cases h
      · cases hk
  clear u1 u2 u3 u4 B2 A2 fU aU ub
  refine wpIn_rangeFunc_st rfl (by omega) (gf := 97) (lb := #[Pt (W2.heap.size + 1 + 1), Pt (W2.heap.size + 1 + 1 + 1)]) rfl trivial (enters_of Tryz.func97 (by kernel_rfl) rfl) hseq (fun _ _ _ _ h => h.others) KpB.trans (fun s A l o o' _ h ho _ => KpB.put s A l o o' h ho) (fun _ => rfl)
    (fun p s A => (∃ v lv, WI w (w.heap.size + 1) (w.heap.size + 1 + 1) W2.heap.size (W2.heap.size + 1) (fun k => k = W2.heap.size + 1 + 1 ∨ k = W2.heap.size + 1 + 1 + 1 ∨ k = g) (hdF Hh l ++ blkL enB 5 p) (lns (hdF Hh l).length p) (smP p) v lv s A) ∧ ∀ k, s = some k → w.heap.size ≤ k)
    (fun _ _ _ _ => False)
    (fun p s A s' B h ht => by
      obtain ⟨⟨v, lv, hw⟩, hs⟩ := h
      refine ⟨⟨v, lv, hw.tr ht hs⟩, fun k hk => ?_⟩
      rcases ht.loc k hk with h | h
      · exact hs k h
      · have := hw.bel.size; omega)
    (fun _ _ _ _ _ _ h _ => h.elim)
    (fun z A B row h hg hr => by
      obtain ⟨⟨v, lv, hw⟩, hs⟩ := h
      exact ⟨⟨v, lv, hw.own hg hr (by omega)⟩, hs⟩)
    (fun _ _ _ _ _ h _ _ => h)
    ⟨⟨v2, .slice none 0 0, wi0⟩, fun k hk => by cases hk⟩
    (fun x a' A => a' = { tmps := #[Value.agg #[Value.int IntKind.i64 ↑a, Value.int IntKind.i64 ↑b, Value.int IntKind.i64 ↑c, Value.int IntKind.i64 ↑d, Value.int IntKind.i64 ↑e, Value.int IntKind.i64 x0], Value.slice la n cap, Value.pointer (some { block := w.heap.size, off := 0 }), undef, Value.string { data := #[] }, Value.pointer (some { block := w.heap.size + 1, off := 0 }), Value.pointer (some { block := w.heap.size + 1 + 1, off := 0 }), Value.pointer (some { block := W2.heap.size, off := 0 }), Value.pointer (some { block := W2.heap.size + 1, off := 0 }), .slice (some ⟨g, off + x.1 * 5, none⟩) x.2.length (cap - x.1), .string ⟨(x.2.flatMap enB).toArray⟩, undef, undef, undef, Value.func (Fn.func 65) #[] #[Value.pointer (some { block := w.heap.size + 1, off := 0 })], Value.slice la n cap, Value.int IntKind.i64 ↑n, Value.pointer (some { block := w.heap.size, off := 5 }), Value.func (Fn.func 65) #[] #[Pt (w.heap.size + 1)], Value.agg #[Value.int IntKind.i64 ↑a, Value.int IntKind.i64 ↑b, Value.int IntKind.i64 ↑c, Value.int IntKind.i64 ↑d, Value.int IntKind.i64 ↑e, Value.int IntKind.i64 ↑n], Value.string X, Value.tuple #[], Value.int IntKind.u32 ↑(crc 0 []), Value.slice la n cap, Value.func (Fn.func 97) #[] #[Pt (W2.heap.size + 1 + 1), Pt (W2.heap.size + 1 + 1 + 1)], .slice (some ⟨g, off + x.1 * 5, none⟩) x.2.length (cap - x.1), .string ⟨(x.2.flatMap enB).toArray⟩, undef, undef, undef, undef, undef, undef, undef, undef, undef, undef, undef, undef, undef, undef, undef, undef, undef, undef, undef, undef, undef, undef, undef, undef, undef, undef, undef, undef, undef, undef, undef, undef, undef, undef, undef, undef, undef], defers := [] })
    (fun x a' s A B row h hg hr => h) ?assign ?body ?done ?stop
  case assign =>
    intro lp p x s A K hI hx hK
    simp only [encP]
    gi_wp2
    exact hK _ _ (KeepsFrom.refl _ _) ⟨Nat.le_refl _, fun _ _ _ _ _ h => h⟩ hI rfl
  case body =>
    rintro lp p x s a' A hlp ⟨rc, hrc⟩ ⟨⟨v, lv, hw⟩, hs⟩ rfl hx
    obtain ⟨hxl, hhd, hp0, hxe, hl4⟩ := part_first hx hok
    obtain ⟨hgl, hrw⟩ := hrow (fun h => by rw [h] at hxl; simp at hxl)
    have hln : ∀ q ∈ l, (enB q).length ≤ 153 := fun q hq => by have := (enB_len q).1; have := (hok q hq).c; omega
    have hpre : p <+: pk enB l := (List.prefix_append _ _).trans hx
    have hb5 := pre_len enB 5 153 l hln (by omega) p hpre
    have hpl : p.length ≤ 2097152 := by
      have h1 := hpre.length_le
      have h2 := pk_len enB l (fun q hq => Nat.le_trans (hln q hq) (by omega))
      omega
    have hF0 : (hdF Hh l ++ blkL enB 5 p).length ≤ 400000000 := by
      have : (hdF Hh l).length ≤ 74 := by unfold hdF; rw [frL_len]; have := hdB_len Hh l.length; omega
      rw [List.length_append]
      have : (153 + 14) * l.length ≤ 167 * 2097152 := Nat.mul_le_mul (by omega) hn
      omega
    have hsn := lns_snoc p (hdF Hh l).length x
    rw [← List.length_append] at hsn
    have hsm := smP_snoc p x
    have hbs := blkL_snoc enB 5 p x
    have hsl := smP_lt p
    have hLl : (lns (hdF Hh l).length p).length ≤ 2097152 := by rw [lns_len]; exact hpl
    obtain ⟨F0, eF0⟩ : ∃ F0, F0 = hdF Hh l ++ blkL enB 5 p := ⟨_, rfl⟩
    obtain ⟨LS, eLS⟩ : ∃ LS, LS = lns (hdF Hh l).length p := ⟨_, rfl⟩
    obtain ⟨sm, esm⟩ : ∃ sm, sm = smP p := ⟨_, rfl⟩
    obtain ⟨y, ey⟩ : ∃ y, y = l[x.1] := ⟨_, rfl⟩
    obtain ⟨pb, epb⟩ : ∃ pb, pb = x.2.flatMap enB := ⟨_, rfl⟩
    have hpbl : pb.length ≤ 4096 := by rw [epb]; exact hl4
    rw [← eF0] at hw hF0 hsn
    rw [← eLS] at hw hsn hLl
    rw [← esm] at hw hsm hsl
    rw [hhd, ← ey] at hsn
    rw [← epb] at hsm hbs
    have EQ := Hid.mk (And.intro hsn (And.intro hsm (And.intro hbs eF0)))
    clear hsn hsm hbs eF0 eLS esm hl4 hpre hb5 hpl hhd hln
    obtain ⟨qa, qc, hq, hqc⟩ := slice_form hw.row
    subst hq
    have hwd := hw.below ((Below.refl _ A).drew)
    obtain ⟨x0', x1, x2, x3, x4⟩ := row_en hrw (hwd.bel.block g hgl) x.1 hxl
    rw [← ey] at x0' x1 x2 x3 x4
    have S0 := And.intro hwd.line.cell (And.intro x0' (And.intro x1 (And.intro x2 (And.intro x3 x4))))
    have hgA : g < A.drew.heap.size := Nat.lt_of_lt_of_le hgl hwd.bel.size
    have hp0' : (0 : Int) < (x.2.length : Int) := by omega
    obtain ⟨lv', W5, hr5, ho5, st5, loc5⟩ := line_app A.drew LS _ hwd.row ⟨y, x.2.length, F0.length⟩ (by omega)
    have hlen := len_any _ hwd.file
    have Hw := Hid.mk (And.intro hw (And.intro hwd hs))
    have Ey := Hid.mk (And.intro ey epb)
    clear hw hwd hs x0' x1 x2 x3 x4 ey epb wi0 hseq
    gi_wp2_with fail
    refine region_late mixed 11 rfl (L := [10]) (S := fun w' => w'.cell? ⟨W2.heap.size, 0, none⟩ = some (.slice qa LS.length qc) ∧ w'.cell? ⟨g, off + x.1 * 5, none⟩ = some (.int .i64 y.v) ∧ w'.cell? ⟨g, off + x.1 * 5 + 1, none⟩ = some (.string y.c) ∧ w'.cell? ⟨g, off + x.1 * 5 + 2, none⟩ = some (.int .i64 y.i) ∧ w'.cell? ⟨g, off + x.1 * 5 + 3, none⟩ = some (.int .i64 y.s) ∧ w'.cell? ⟨g, off + x.1 * 5 + 4, none⟩ = some (.bool y.d)) ?_
    refine AnyL.take (i := 0) (v := ?f0) (by kernel_rfl) rfl (by kernel_rfl) (by kernel_rfl) (by kernel_rfl) (by kernel_rfl) (fun _ _ _ h => h) ⟨Or.inl ⟨by rfl, fun w' hS => ?z0⟩, fun _ => rfl⟩ S0 ?_
    case z0 => have g1 := hS.1; clear hS; go_simp; rfl
    refine AnyL.take (i := 1) (v := ?f1) (by kernel_rfl) rfl (by kernel_rfl) (by kernel_rfl) (by kernel_rfl) (by kernel_rfl) (fun _ _ _ h => h) ⟨Or.inl ⟨by rfl, fun w' hS => ?z1⟩, fun _ => rfl⟩ S0 ?_
    case z1 => go_simp; rfl
    refine AnyL.take (i := 2) (v := ?f2) (by kernel_rfl) rfl (by kernel_rfl) (by kernel_rfl) (by kernel_rfl) (by kernel_rfl) (fun _ _ _ h => h) ⟨Or.inl ⟨by rfl, fun w' hS => ?z2⟩, fun _ => rfl⟩ S0 ?_
    case z2 => go_simp; rfl
    refine AnyL.take (i := 3) (v := ?f3) (by kernel_rfl) rfl (by kernel_rfl) (by kernel_rfl) (by kernel_rfl) (by kernel_rfl) (fun _ _ _ h => h) ⟨Or.inl ⟨by rfl, fun w' hS => ?z3⟩, fun _ => rfl⟩ S0 ?_
    case z3 => obtain ⟨_, g0, g1, g2, g3, g4⟩ := hS; go_simp; rfl
    refine AnyL.take (i := 4) (v := ?f4) (by kernel_rfl) rfl (by kernel_rfl) (by kernel_rfl) (by kernel_rfl) (by kernel_rfl) (fun _ _ _ h => h) ⟨Or.inl ⟨by rfl, fun w' hS => ?z4⟩, fun _ => rfl⟩ S0 ?_
    case z4 => go_simp; rfl
    refine AnyL.take (i := 5) (v := ?f5) (by kernel_rfl) rfl (by kernel_rfl) (by kernel_rfl) (by kernel_rfl) (by kernel_rfl) (fun _ _ _ h => h) ⟨Or.inl ⟨by rfl, fun w' hS => ?z5⟩, fun _ => rfl⟩ S0 ?_
    case z5 => go_simp; rfl
    refine AnyL.one (i := 6) (by kernel_rfl) (wpOpIn_step rfl (fun K hK => ?_))
    go_simp
    refine ⟨trivial, (CallsIn.inRound lp (callsIn_wide.2 hlen)).mono ?_⟩
    rintro r W4 ⟨rfl, rfl⟩
    refine hK _ _ ⟨fun _ => S0, ?_⟩
    clear hK K hlen
    refine AnyL.take (i := 7) (v := ?f7) (by kernel_rfl) rfl (by kernel_rfl) (by kernel_rfl) (by kernel_rfl) (by kernel_rfl) (fun _ _ _ h => h) ⟨Or.inl ⟨by rfl, fun w' hS => ?z7⟩, fun _ => rfl⟩ S0 ?_
    case z7 => go_simp; rfl
    refine AnyL.one (i := 8) (by kernel_rfl) (wpOpIn_step rfl (fun K hK => ?_))
    go_simp
    have bA : Below A.drew.heap.size A.drew (A.drew.alloc (.cells (lnC ⟨y, x.2.length, F0.length⟩).toArray 135)) := (Below.refl _ _).alloc (Nat.le_refl _) _
    have S1 : (A.drew.alloc (.cells (lnC ⟨y, x.2.length, F0.length⟩).toArray 135)).cell? ⟨W2.heap.size, 0, none⟩ = some (.slice qa LS.length qc) ∧ (A.drew.alloc (.cells (lnC ⟨y, x.2.length, F0.length⟩).toArray 135)).cell? ⟨g, off + x.1 * 5, none⟩ = some (.int .i64 y.v) ∧ (A.drew.alloc (.cells (lnC ⟨y, x.2.length, F0.length⟩).toArray 135)).cell? ⟨g, off + x.1 * 5 + 1, none⟩ = some (.string y.c) ∧ (A.drew.alloc (.cells (lnC ⟨y, x.2.length, F0.length⟩).toArray 135)).cell? ⟨g, off + x.1 * 5 + 2, none⟩ = some (.int .i64 y.i) ∧ (A.drew.alloc (.cells (lnC ⟨y, x.2.length, F0.length⟩).toArray 135)).cell? ⟨g, off + x.1 * 5 + 3, none⟩ = some (.int .i64 y.s) ∧ (A.drew.alloc (.cells (lnC ⟨y, x.2.length, F0.length⟩).toArray 135)).cell? ⟨g, off + x.1 * 5 + 4, none⟩ = some (.bool y.d) :=
      ⟨cell_lat bA S0.1, cell_lat bA S0.2.1, cell_lat bA S0.2.2.1, cell_lat bA S0.2.2.2.1, cell_lat bA S0.2.2.2.2.1, cell_lat bA S0.2.2.2.2.2⟩
    refine hK _ _ ⟨fun _ => S1, ?_⟩
    clear hK K
    refine AnyL.one (i := 9) (by kernel_rfl) (wpOpIn_step rfl (fun K hK => stepIn_append_eq rfl _ _ _ _ rfl _ _ _ _ rfl rfl hr5 ?_))
    have hwd := Hw.out.2.1
    have nlb : Value.ownBlock (.slice qa LS.length qc) ≠ some W2.heap.size := fun e => by
      obtain ⟨c5, h5⟩ := row_block hwd.row e
      have h6 := hwd.line
      unfold Boxed at h6
      rw [h6] at h5; cases h5
    have ng : Value.ownBlock (.slice qa LS.length qc) ≠ some g := fun e => by have := hwd.lo g (.inr (.inr (.inr (.inr e)))); omega
    have hg5 : W5.heap[g]? = A.drew.heap[g]? := st5.block g hgA ng
    have hc5 : ∀ o, W5.cell? ⟨g, o, none⟩ = A.drew.cell? ⟨g, o, none⟩ := fun o => by simp only [World.cell?, hg5]
    have L5 := box_stay hwd.line st5 nlb
    refine hK _ _ ⟨fun _ => ⟨L5.cell, by rw [hc5]; exact S0.2.1, by rw [hc5]; exact S0.2.2.1, by rw [hc5]; exact S0.2.2.2.1, by rw [hc5]; exact S0.2.2.2.2.1, by rw [hc5]; exact S0.2.2.2.2.2⟩, ?_⟩
    clear hK K
    obtain ⟨hw6, st6⟩ := hwd.line' ho5 st5 loc5
    obtain ⟨ra, rc5, hra, -⟩ := slice_form ho5
    obtain ⟨n5, hn5⟩ : ∃ n5, n5 = (LS ++ [(⟨y, x.2.length, F0.length⟩ : Ln)]).length := ⟨_, rfl⟩
    rw [← hn5] at hra
    subst hra
    have c5 := L5.cell
    have z5 := L5.frozen
    have HN5 := Hid.mk hn5
    have Hw6 := Hid.mk (And.intro hw6 (And.intro st6 (And.intro ho5 loc5)))
    have Hst := Hid.mk (And.intro st5 (And.intro nlb (And.intro ng hg5)))
    have m6 := hw6.sum.cell
    have t6 : Tab (W5.setCell ⟨W2.heap.size, 0, none⟩ (.slice ra n5 rc5)) := ht.lat hw6.bel
    clear hn5 hw6 st6 ho5 loc5 st5 nlb ng hg5 hc5 S0 S1 L5 hr5 bA hwd
    refine AnyL.one (i := 10) (by kernel_rfl) (wpOpIn_step rfl (fun K hK => ?_))
    go_simp
    refine hK _ _ ⟨fun h => absurd (by simp) h, AnyL.done (by kernel_rfl) ?_⟩
    clear hK K c5 z5
    obtain ⟨W6, eW6⟩ : ∃ W6, W6 = W5.setCell ⟨W2.heap.size, 0, none⟩ (.slice ra n5 rc5) := ⟨_, rfl⟩
    rw [← eW6] at m6 t6 Hw6 ⊢
    clear eW6
    gi_wp2_with fail
    have hps : (⟨(x.2.flatMap enB).toArray⟩ : ByteArray).size ≤ 4096 := by show (x.2.flatMap enB).toArray.size ≤ 4096; rw [List.size_toArray, ← Ey.out.2]; exact hpbl
    refine ⟨trivial, (CallsIn.inRound lp (callsIn_wide.2 (on_any sm _ W6 t6 hsl (by omega)))).mono ?_⟩
    rintro r W7 ⟨rfl, rfl⟩
    have z6 := Hw6.out.1.sum.frozen
    obtain ⟨hw7, st7⟩ := Hw6.out.1.sum' (crc sm (x.2.flatMap enB))
    have a7 := hw7.add.cell
    have t7 : Tab (W7.setCell ⟨W2.heap.size + 1, 0, none⟩ (.int .u32 (crc sm (x.2.flatMap enB) : Nat))) := ht.lat hw7.bel
    have hadd := add_any 5 ⟨(x.2.flatMap enB).toArray⟩ _ t7 hw7.file (by omega) (by omega) (by omega) (by omega)
    have Hw7 := Hid.mk (And.intro hw7 st7)
    clear hw7 st7
    gi_wp2_with fail
    refine ⟨trivial, (CallsIn.inRound lp (callsIn_wide.2 hadd)).mono ?_⟩
    rintro r W8 ⟨rfl, v8, B8, wr8⟩
    obtain ⟨hw8, st8⟩ := Hw7.out.1.file' B8 wr8
    have stA : Stay (WC (w.heap.size + 1) W2.heap.size (W2.heap.size + 1) v (.slice qa LS.length qc)) A.drew W8 :=
      (Hw6.out.2.1.andThen Hw7.out.2 (WC_mono (fun k h => .inl h) Hw6.out.2.2.2)).andThen st8 (WC_mono (fun k h => .inl h) Hw6.out.2.2.2)
    obtain ⟨kp, ko⟩ := Hw.out.1.kp stA.undrew
    have e1 : F0 ++ frL 5 (x.2.flatMap enB) = hdF Hh l ++ blkL enB 5 (p ++ [x]) := by rw [EQ.out.2.2.1, EQ.out.2.2.2, ← Ey.out.2, List.append_assoc]
    have e2 : crc sm (x.2.flatMap enB) = smP (p ++ [x]) := by rw [EQ.out.2.1, ← Ey.out.2]
    rw [← EQ.out.1, e2] at hw8
    have hw9 : WI w (w.heap.size + 1) (w.heap.size + 1 + 1) W2.heap.size (W2.heap.size + 1) (fun k => k = W2.heap.size + 1 + 1 ∨ k = W2.heap.size + 1 + 1 + 1 ∨ k = g) (hdF Hh l ++ blkL enB 5 (p ++ [x])) (lns (hdF Hh l).length (p ++ [x])) (smP (p ++ [x])) v8 (.slice ra n5 rc5) s W8 := by
      rw [← e1]; exact hw8
    have HE := Hid.mk (And.intro (ko.from U.heap.size) (And.intro kp (And.intro hw9 Hw.out.2.2)))
    clear hw8 hw9 st8 stA kp ko B8 wr8 hadd a7 z6
    gi_wp2_with fail
    exact ⟨HE.out.1, HE.out.2.1, ⟨v8, _, HE.out.2.2.1⟩, HE.out.2.2.2⟩
  case done =>
    rintro D p s A hD rfl ⟨⟨v, lv, hw⟩, hs⟩ hK
    obtain ⟨hHBl, hIl, hIok⟩ := hbT_len Hh l hok hn
    have eHB : hdF Hh l ++ blkL enB 5 (pk enB l) = hbT Hh l := rfl
    have eI : lns (hdF Hh l).length (pk enB l) = idx Hh l := rfl
    rw [eHB, eI, smP_all] at hw
    have hsl : crc 0 (l.flatMap enB) < 4294967296 := crc_lt _ (by omega)
    have hpk : (pk enB l).length = (idx Hh l).length := by unfold idx; rw [lns_len]
    obtain ⟨HB, eHBv⟩ : ∃ HB, HB = hbT Hh l := ⟨_, rfl⟩
    obtain ⟨LS, eLS⟩ : ∃ LS, LS = idx Hh l := ⟨_, rfl⟩
    obtain ⟨sm, esm⟩ : ∃ sm, sm = crc 0 (l.flatMap enB) := ⟨_, rfl⟩
    rw [← eHBv] at hw hHBl
    rw [← eLS] at hw hIl hIok hpk
    rw [← esm] at hw hsl
    have hFT : Hid (fileT Hh l = HB ++ blkL lnB 6 (pk lnB LS) ++ frL 7 (pvL 9 LS.length ++ (pvL 9 HB.length ++ fixL sm 4))) := by
      show _ = _
      unfold fileT ftB
      rw [← eHBv, ← eLS, ← esm, hpk]
    clear eHB eI hpk eHBv eLS esm wi0 hseq
    obtain ⟨qa, qc, hq, hqc⟩ := slice_form hw.row
    subst hq
    have hlen := len_any _ hw.file
    have cl := hw.line.cell
    have Hw := Hid.mk (And.intro hw hs)
    have HK := Hid.mk hK
    clear hw hs hK
    gi_wp2_with fail
    refine ⟨trivial, (callsIn_wide.2 hlen).mono ?_⟩
    rintro r A1 ⟨rfl, rfl⟩
    gi_wp2_with fail
    refine ⟨trivial, (callsIn_wide.2 (packedL_any _ _ _ _ _)).mono ?_⟩
    rintro r A2 ⟨rfl, rfl⟩
    gi_wp2_with fail
    obtain ⟨Z, hZ⟩ : ∃ Z, Z = (A1.alloc (.cells #[.slice qa LS.length qc] 129)).alloc (.cells #[.func (.func 74) #[] #[]] 139) := ⟨_, rfl⟩
    have zz : Z.heap.size = A1.heap.size + 2 := by rw [hZ]; simp
    have zb : Below A1.heap.size A1 Z := by rw [hZ]; exact ((Below.refl _ A1).alloc (Nat.le_refl _) _).alloc (by simp) _
    have z1 : Boxed Z A1.heap.size 129 (.slice qa LS.length qc) := by rw [hZ]; exact (Boxed.new A1 129 (.slice qa LS.length qc)).alloc _
    have z2 : Boxed Z (A1.heap.size + 1) 139 (.func (.func 74) #[] #[]) := by
      rw [hZ]
      have h1 := Boxed.new (A1.alloc (.cells #[.slice qa LS.length qc] 129)) 139 (.func (.func 74) #[] #[])
      rw [World.size_alloc] at h1
      exact h1
    rw [← hZ]
    clear hZ
    have hw := Hw.out.1
    have hDl : D < A1.heap.size := (Array.getElem?_eq_some_iff.1 HK.out).1
    have hUA : U.heap.size ≤ A1.heap.size := by omega
    obtain ⟨g2, hgK, hseq2⟩ : ∃ g2, (¬ (g2 = w.heap.size + 1 ∨ v.ownBlock = some g2) ∧ g2 < Z.heap.size) ∧ SeqSt Fence.wide 8 Tryz.prog 99 #[Pt A1.heap.size, Pt (A1.heap.size + 1)] (encP lnB g2 0 7 qc) (fun p x => p ++ [x] <+: pk lnB LS) TrB (KpB (fun k => k = A1.heap.size ∨ k = A1.heap.size + 1 ∨ k = g2)) (fun p => p = pk lnB LS) (fun _ => True) none Z := by
      by_cases h0 : LS = []
      · refine ⟨A1.heap.size, ⟨fun e => ?_, by omega⟩, ?_⟩
        · have := hw.lt (k := A1.heap.size) (e.elim .inl (fun e => .inr (.inr (.inr (.inl e))))); omega
        · rw [h0]
          exact packL_nil qa _ _ qc _ _ _ _ Z (by have h1 := z1; unfold Boxed at h1; rw [h0] at h1; exact h1)
      · rcases hw.row.2 with ⟨h1, h2⟩ | ⟨g2, cap2, cur2, h1, h2, h3, h4, h5⟩
        · exact absurd (List.eq_nil_of_length_eq_zero h2) h0
        · simp only [Value.slice.injEq] at h1
          obtain ⟨rfl, -, rfl⟩ := h1
          have hg2 : g2 < A1.heap.size := (Array.getElem?_eq_some_iff.1 h3).1
          refine ⟨g2, ⟨fun e => ?_, by omega⟩, ?_⟩
          · rcases e with e | e
            · rw [e, hw.file.cells] at h3; cases h3
            · obtain ⟨c5, h6⟩ := row_block hw.file.row e; rw [h6] at h3; cases h3
          · refine packL_st LS g2 0 qc _ _ _ _ Z z1 z2 (fun j u hu => ?_) ⟨.inl rfl, .inr (.inl rfl), .inr (.inr rfl)⟩ ?_ (by omega) hqc hIok
            · have h7 := hw.row.cells (g := g2) rfl j u hu
              have h8 : (⟨g2, 0, none⟩ : Addr).add j = ⟨g2, 0 + j, none⟩ := by unfold Addr.add; split <;> simp_all
              rw [h8] at h7
              exact cell_lat zb h7
            · rintro k (rfl | rfl | rfl)
              · exact ⟨_, _, _, z1⟩
              · exact ⟨_, _, _, z2⟩
              · exact ⟨_, _, _, (zb.block _ hg2).trans h3⟩
    have hwz := hw.below zb
    have wj0 : WJ w (w.heap.size + 1) (w.heap.size + 1 + 1) W2.heap.size (W2.heap.size + 1) D (fun k => k = A1.heap.size ∨ k = A1.heap.size + 1 ∨ k = g2) (HB ++ blkL lnB 6 []) sm v (.slice qa LS.length qc) none Z := by
      refine ⟨by simpa [blkL] using hwz.file, hwz.add, hwz.line, hwz.sum, hwz.bel, (zb.block D hDl).trans HK.out, fun k hk => hwz.lo k (hk.elim .inl (fun e => .inr (.inr (.inr (.inl e))))), ?_, fun k hk => by cases hk⟩
      rintro k (rfl | rfl | rfl)
      · refine ⟨fun e => ?_, by omega⟩
        have := hw.lt (k := A1.heap.size) (e.elim .inl (fun e => .inr (.inr (.inr (.inl e))))); omega
      · refine ⟨fun e => ?_, by omega⟩
        have := hw.lt (k := A1.heap.size + 1) (e.elim .inl (fun e => .inr (.inr (.inr (.inl e))))); omega
      · exact hgK
    have hwb := hw.bel.size
    clear hw hwz z1 z2 Hw HK hlen cl
    refine wpIn_rangeFunc_st rfl (by omega) (gf := 99) (lb := #[Pt A1.heap.size, Pt (A1.heap.size + 1)]) rfl trivial (enters_of Tryz.func99 (by kernel_rfl) rfl) hseq2 (fun _ _ _ _ h => h.others) KpB.trans (fun s A l o o' _ h ho _ => KpB.put s A l o o' h ho) (fun _ => rfl)
      (fun p s A => (∃ v, WJ w (w.heap.size + 1) (w.heap.size + 1 + 1) W2.heap.size (W2.heap.size + 1) D (fun k => k = A1.heap.size ∨ k = A1.heap.size + 1 ∨ k = g2) (HB ++ blkL lnB 6 p) sm v (.slice qa LS.length qc) s A) ∧ ∀ k, s = some k → w.heap.size ≤ k)
      (fun _ _ _ _ => False)
      (fun p s A s' B h ht => by
        obtain ⟨⟨v, hw⟩, hs⟩ := h
        refine ⟨⟨v, hw.tr ht hs⟩, fun k hk => ?_⟩
        rcases ht.loc k hk with h | h
        · exact hs k h
        · have := hw.bel.size; omega)
      (fun _ _ _ _ _ _ h _ => h.elim)
      (fun z A B row h hg hr => by
        obtain ⟨⟨v, hw⟩, hs⟩ := h
        exact ⟨⟨v, hw.own hg hr (by omega) (by omega)⟩, hs⟩)
      (fun _ _ _ _ _ h _ _ => h)
      ⟨⟨v, wj0⟩, fun k hk => by cases hk⟩
      (fun x a' A => a' = { tmps := #[Value.agg #[Value.int IntKind.i64 ↑a, Value.int IntKind.i64 ↑b, Value.int IntKind.i64 ↑c, Value.int IntKind.i64 ↑d, Value.int IntKind.i64 ↑e, Value.int IntKind.i64 x0], Value.slice la n cap, Value.pointer (some { block := w.heap.size, off := 0 }), undef, Value.string { data := #[] }, Value.pointer (some { block := w.heap.size + 1, off := 0 }), Value.pointer (some { block := w.heap.size + 1 + 1, off := 0 }), Value.pointer (some { block := W2.heap.size, off := 0 }), Value.pointer (some { block := W2.heap.size + 1, off := 0 }), undef, undef, Value.int IntKind.i64 ↑HB.length, undef, .string ⟨(x.2.flatMap lnB).toArray⟩, Value.func (Fn.func 65) #[] #[Value.pointer (some { block := w.heap.size + 1, off := 0 })], Value.slice la n cap, Value.int IntKind.i64 ↑n, Value.pointer (some { block := w.heap.size, off := 5 }), Value.func (Fn.func 65) #[] #[Pt (w.heap.size + 1)], Value.agg #[Value.int IntKind.i64 ↑a, Value.int IntKind.i64 ↑b, Value.int IntKind.i64 ↑c, Value.int IntKind.i64 ↑d, Value.int IntKind.i64 ↑e, Value.int IntKind.i64 ↑n], Value.string X, Value.tuple #[], Value.int IntKind.u32 ↑(crc 0 []), Value.slice la n cap, Value.func (Fn.func 97) #[] #[Pt (W2.heap.size + 1 + 1), Pt (W2.heap.size + 1 + 1 + 1)], undef, undef, undef, undef, undef, undef, undef, undef, undef, undef, undef, undef, undef, undef, undef, undef, undef, undef, Value.int IntKind.i64 ↑HB.length, Value.slice qa LS.length qc, Value.func (Fn.func 99) #[] #[Pt A1.heap.size, Pt (A1.heap.size + 1)], .slice (some ⟨g2, x.1 * 7, none⟩) x.2.length (qc - x.1), .string ⟨(x.2.flatMap lnB).toArray⟩, undef, undef, undef, undef, undef, undef, undef, undef, undef, undef, undef, undef, undef, undef, undef, undef], defers := [] })
      (fun x a' s A B row h hg hr => h) ?assign2 ?body2 ?done2 ?stop2
    case assign2 =>
      intro lp p x s A K hI hx hK
      simp only [encP]
      gi_wp2
      exact hK _ _ (KeepsFrom.refl _ _) ⟨Nat.le_refl _, fun _ _ _ _ _ h => h⟩ hI rfl
    case body2 =>
      rintro lp p x s a' A hlp ⟨rc, hrc⟩ ⟨⟨v, hw⟩, hs⟩ rfl hx
      have hm : x ∈ pk lnB LS := hx.subset (by simp)
      have hln : ∀ q ∈ LS, (lnB q).length ≤ 162 := fun q hq => by have := (lnB_len q).1; have := (hIok q hq).e.c; omega
      have hl4 : (x.2.flatMap lnB).length ≤ 4096 := (pk_spec lnB LS (fun q hq => Nat.le_trans (hln q hq) (by omega)) x hm).2.1
      have hb6 := pre_len lnB 6 162 LS hln (by omega) p ((List.prefix_append _ _).trans hx)
      have hb7 : (162 + 14) * LS.length ≤ 176 * 2097152 := Nat.mul_le_mul (by omega) (by omega)
      have hps : (⟨(x.2.flatMap lnB).toArray⟩ : ByteArray).size ≤ 4096 := by show (x.2.flatMap lnB).toArray.size ≤ 4096; rw [List.size_toArray]; exact hl4
      have hbs := blkL_snoc lnB 6 p x
      have a7 := hw.add.cell
      have t7 : Tab A := ht.lat hw.bel
      have hadd := add_any 6 ⟨(x.2.flatMap lnB).toArray⟩ _ t7 hw.file (by omega) (by omega) (by omega) (by rw [List.length_append]; omega)
      have Hw := Hid.mk (And.intro hw (And.intro hs hbs))
      clear hw hs hbs hm hln hb6 hb7 hl4 wj0 hseq2
      gi_wp2_with fail
      refine ⟨trivial, (CallsIn.inRound lp (callsIn_wide.2 hadd)).mono ?_⟩
      rintro r W8 ⟨rfl, v8, B8, wr8⟩
      have hw8 := Hw.out.1.file' B8 wr8
      obtain ⟨kp, ko⟩ := Hw.out.1.kp wr8.stay
      rw [List.append_assoc] at hw8
      have hw9 : WJ w (w.heap.size + 1) (w.heap.size + 1 + 1) W2.heap.size (W2.heap.size + 1) D (fun k => k = A1.heap.size ∨ k = A1.heap.size + 1 ∨ k = g2) (HB ++ blkL lnB 6 (p ++ [x])) sm v8 (.slice qa LS.length qc) s W8 := by
        rw [Hw.out.2.2]; exact hw8
      have HE := Hid.mk (And.intro (ko.from Z.heap.size) (And.intro kp (And.intro hw9 Hw.out.2.1)))
      clear hw8 hw9 kp ko B8 wr8 hadd a7
      gi_wp2_with fail
      exact ⟨HE.out.1, HE.out.2.1, ⟨v8, HE.out.2.2.1⟩, HE.out.2.2.2⟩
    case done2 =>
      rintro D2 p s A hD2 rfl ⟨⟨v, hw⟩, hs⟩ hK2
      have hln : ∀ q ∈ LS, (lnB q).length ≤ 162 := fun q hq => by have := (lnB_len q).1; have := (hIok q hq).e.c; omega
      have hb6 := pre_len lnB 6 162 LS hln (by omega) (pk lnB LS) (List.prefix_refl _)
      have hb7 : (162 + 14) * LS.length ≤ 176 * 2097152 := Nat.mul_le_mul (by omega) (by omega)
      have hwd := hw.below ((Below.refl _ A).drew)
      have hLn : LS.length < 9223372036854775808 := by omega
      have hHn : HB.length < 9223372036854775808 := by omega
      have S0 := And.intro hwd.add.cell (And.intro hwd.line.cell hwd.sum.cell)
      have hsw : IntKind.u64.wrap (sm : Int) = sm := by rw [IntKind.wrap_u64]; omega
      have hDD : D ≠ D2 := by omega
      have Hw := Hid.mk (And.intro hw (And.intro hwd hb6))
      have HK2 := Hid.mk hK2
      clear hw hwd hs hK2 hb6 hln wj0 hseq2
      gi_wp2_with fail
      refine region_heldP mixed 12 rfl (S := fun w' => w'.cell? ⟨w.heap.size + 1 + 1, 0, none⟩ = some (.func (.func 65) #[] #[Pt (w.heap.size + 1)]) ∧ w'.cell? ⟨W2.heap.size, 0, none⟩ = some (.slice qa LS.length qc) ∧ w'.cell? ⟨W2.heap.size + 1, 0, none⟩ = some (.int .u32 sm)) ?_
      refine AnyS.take (i := 0) (v := ?k0) (by kernel_rfl) rfl (by kernel_rfl) (by kernel_rfl) (by kernel_rfl) (fun _ _ _ h => h) ⟨Or.inl ⟨by rfl, fun w' hS => ?j0⟩, fun _ => rfl⟩ S0 ?_
      case j0 => have g1 := hS.1; clear hS; go_simp; rfl
      refine AnyS.take (i := 1) (v := ?k1) (by kernel_rfl) rfl (by kernel_rfl) (by kernel_rfl) (by kernel_rfl) (fun _ _ _ h => h) ⟨Or.inl ⟨by rfl, fun w' hS => ?j1⟩, fun _ => rfl⟩ S0 ?_
      case j1 => have g1 := hS.2.1; clear hS; go_simp; rfl
      refine AnyS.take (i := 2) (v := ?k2) (by kernel_rfl) rfl (by kernel_rfl) (by kernel_rfl) (by kernel_rfl) (fun _ _ _ h => h) ⟨Or.inl ⟨by rfl, fun w' hS => ?j2⟩, fun _ => rfl⟩ S0 ?_
      case j2 => go_simp; rfl
      refine AnyS.take (i := 4) (v := ?k4) (by kernel_rfl) rfl (by kernel_rfl) (by kernel_rfl) (by kernel_rfl) (fun _ _ _ h => h) ⟨Or.inl ⟨by rfl, fun w' hS => ?j4⟩, fun _ => rfl⟩ S0 ?_
      case j4 => go_simp; rfl
      refine AnyS.take (i := 7) (v := ?k7) (by kernel_rfl) rfl (by kernel_rfl) (by kernel_rfl) (by kernel_rfl) (fun _ _ _ h => h) ⟨Or.inl ⟨by rfl, fun w' hS => ?j7⟩, fun _ => rfl⟩ S0 ?_
      case j7 => have g1 := hS.2.2; clear hS; go_simp; rfl
      refine AnyS.take (i := 8) (v := ?k8) (by kernel_rfl) rfl (by kernel_rfl) (by kernel_rfl) (by kernel_rfl) (fun _ _ _ h => h) ⟨Or.inl ⟨by rfl, fun w' hS => ?j8⟩, fun _ => rfl⟩ S0 ?_
      case j8 => go_simp; rfl
      refine AnyS.one (i := 3) (by kernel_rfl) (wpOpIn_step rfl (fun K hK => ?_))
      go_simp
      refine ⟨trivial, (callsIn_wide.2 (number_x LS.length _ hLn)).mono ?_⟩
      rintro r A3 ⟨X1, rfl, hX1, HX1, b3⟩
      have S3 := And.intro (cell_lat b3 S0.1) (And.intro (cell_lat b3 S0.2.1) (cell_lat b3 S0.2.2))
      refine hK _ _ ⟨S3, ?_⟩
      clear hK K
      refine AnyS.one (i := 5) (by kernel_rfl) (wpOpIn_step rfl (fun K hK => ?_))
      go_simp
      refine ⟨trivial, (callsIn_wide.2 (number_x HB.length _ hHn)).mono ?_⟩
      rintro r A4 ⟨X2, rfl, hX2, HX2, b4⟩
      have S4 := And.intro (cell_lat b4 S3.1) (And.intro (cell_lat b4 S3.2.1) (cell_lat b4 S3.2.2))
      refine hK _ _ ⟨S4, ?_⟩
      clear hK K
      have q1 : ¬ (9223372036854775807 < X1.size + X2.size) := by omega
      refine AnyS.take (i := 6) (v := .string (X1 ++ X2)) (by kernel_rfl) rfl (by kernel_rfl) (by kernel_rfl) (by kernel_rfl) (fun _ _ _ h => h) ⟨Or.inl ⟨by rfl, fun w' hS => ?j6⟩, fun _ => rfl⟩ S4 ?_
      case j6 => clear hS; go_simp
      refine AnyS.one (i := 9) (by kernel_rfl) (wpOpIn_step rfl (fun K hK => ?_))
      go_simp
      refine ⟨trivial, (callsIn_wide.2 (fixed_x sm _ hsl)).mono ?_⟩
      rintro r A5 ⟨X3, rfl, hX3, HX3, b5⟩
      have S5 := And.intro (cell_lat b5 S4.1) (And.intro (cell_lat b5 S4.2.1) (cell_lat b5 S4.2.2))
      refine hK _ _ ⟨S5, ?_⟩
      clear hK K
      have q2 : ¬ (9223372036854775807 < X1.size + X2.size + X3.size) := by omega
      refine AnyS.take (i := 10) (v := .string (X1 ++ X2 ++ X3)) (by kernel_rfl) rfl (by kernel_rfl) (by kernel_rfl) (by kernel_rfl) (fun _ _ _ h => h) ⟨Or.inl ⟨by rfl, fun w' hS => ?j10⟩, fun _ => rfl⟩ S5 ?_
      case j10 => clear hS; go_simp
      have hw5 := ((Hw.out.2.1.below b3).below b4).below b5
      have hadd := add_any 7 (X1 ++ X2 ++ X3) A5 (ht.lat hw5.bel) hw5.file (by omega) (by omega) (by simp only [ByteArray.size_append]; omega) (by have := Hw.out.2.2; simp only [ByteArray.size_append, List.length_append]; omega)
      refine AnyS.one (i := 11) (by kernel_rfl) (wpOpIn_step rfl (fun K hK => ?_))
      go_simp
      refine ⟨trivial, (callsIn_wide.2 hadd).mono ?_⟩
      rintro r A6 ⟨rfl, v6, B6, wr6⟩
      have hw6 := hw5.file' B6 wr6
      refine hK _ _ ⟨⟨hw6.add.cell, hw6.line.cell, hw6.sum.cell⟩, AnyS.done (by kernel_rfl) ?_⟩
      rw [NP_normal]
      have d5 : A5.heap[D2]? = some (.deferred (some [])) := by
        have h1 : A.drew.heap[D2]? = some (.deferred (some [])) := HK2.out
        have h2 := (b3.block D2 (Array.getElem?_eq_some_iff.1 h1).1).trans h1
        have h3 := (b4.block D2 (Array.getElem?_eq_some_iff.1 h2).1).trans h2
        exact (b5.block D2 (Array.getElem?_eq_some_iff.1 h3).1).trans h3
      have d6 : A6.heap[D2]? = some (.deferred (some [])) := (wr6.stay.block D2 (Array.getElem?_eq_some_iff.1 d5).1 (fun e => by
        obtain ⟨c5, t5, h1, _⟩ := hw5.cells D2 e
        rw [d5] at h1; cases h1)).trans d5
      have hstr := string_any A6 hw6.file (by simp [frL, hdL])
      have e6 : HB ++ blkL lnB 6 (pk lnB LS) ++ frL 7 (X1 ++ X2 ++ X3).data.toList = fileT Hh l := by
        rw [hFT.out]
        congr 2
        simp [HX1.out, HX2.out, HX3.out]
      rw [e6, hHh] at hstr
      have nv : ∀ k, (k < w.heap.size ∨ k = D ∨ k = D2) → ¬ v6.ownBlock = some k := fun k hk e => by
        obtain ⟨c5, h1⟩ := row_block hw6.file.row e
        rcases hk with hk | rfl | rfl
        · have := hw6.lo k (.inr e); omega
        · rw [hw6.dfr] at h1; cases h1
        · rw [d6] at h1; cases h1
      have Hf := Hid.mk (And.intro hw6 (And.intro d6 nv))
      clear hK K S0 S3 S4 S5 hw5 hw6 d5 d6 nv hadd B6 wr6 b3 b4 b5 e6
      gi_wp2_with fail
      refine ⟨trivial, (callsIn_wide.2 hstr).mono ?_⟩
      rintro r A7 ⟨rfl, s7⟩
      have d1 : A7.heap[D]? = some (.deferred (some [])) := (s7.block D (Array.getElem?_eq_some_iff.1 Hf.out.1.dfr).1 (Hf.out.2.2 D (.inr (.inl rfl)))).trans Hf.out.1.dfr
      have d2 : A7.heap[D2]? = some (.deferred (some [])) := (s7.block D2 (Array.getElem?_eq_some_iff.1 Hf.out.2.1).1 (Hf.out.2.2 D2 (.inr (.inr rfl)))).trans Hf.out.2.1
      have b7 : Below w.heap.size w A7 := Hf.out.1.bel.trans (s7.toBelow (fun k hk => Hf.out.2.2 k (.inl hk)) Hf.out.1.bel.size)
      have HR := Hid.mk (And.intro d1 (And.intro d2 b7))
      clear d1 d2 b7 s7 hstr
      gi_wp2_with fail
      have h2 := HR.out.2.1
      have h1 : (A7.putObj D2 (.deferred none)).heap[D]? = some (.deferred (some [])) := (World.putObj_heap_other (by omega)).trans HR.out.1
      refine ⟨by simp, .inl ⟨_, _, rfl, run_takeDeferred h2, ?_⟩⟩
      refine ⟨by simp, .inl ⟨_, _, rfl, run_takeDeferred h1, ?_⟩⟩
      exact ⟨_, results_tmp rfl _ _ _, rfl, (HR.out.2.2.trans (belowK_b (w := w) (Nat.le_refl _) A7 D2 _ _ (by omega) h2 rfl rfl)).trans (belowK_b (w := w) (Nat.le_refl _) _ D _ _ (by omega) h1 rfl rfl)⟩
    case stop2 =>
      rintro D2 c p s A _ _ h _
      exact h.elim
  case stop =>
    rintro D c p s A _ _ h _
    exact h.elim
end Go.Proofs.YtjdpolhjbkpnlaaGreatDoor
set_option linter.unusedVariables false
set_option linter.unusedSimpArgs false
namespace Go.Proofs.YtjdpolhjbkpnlaaGreatDoor
open Go.RowKit Go.Proofs.SealMath
theorem hdE10 {h : Hd} (hw : isW h.w = false) : hdE h = 10 := by unfold hdE; rw [hw]; rfl
set_option maxHeartbeats 1000000 in
set_option maxRecDepth 100000 in
theorem checkHead_any (h : Hd) (w : World) :
    Calls Tryz.prog 35 #[.agg (hdC h).toArray] w fun r w' => r = .returned (.int .i64 (hdE h)) ∧ Below w.heap.size w w' := by
  obtain ⟨wd, t, b, lo, hi, n⟩ := h
  have bA : Below w.heap.size w (w.alloc (.cells #[.int .i64 wd, .int .i64 t, .int .i64 b, .int .i64 lo, .int .i64 hi, .int .i64 n] 31)) := (Below.refl _ w).alloc (Nat.le_refl _) _
  have hc : ∀ W, Calls Tryz.prog 64 #[.int .i64 wd, .string ⟨#[]⟩] W fun e w' => e = .returned (.int .i64 (chk wd 0)) ∧ w' = W := fun W => bcheck_any wd ⟨#[]⟩ W
  unfold hdE
  simp only [hdC]
  cases hW : isW wd
  · have h10 : chk wd 0 = 10 := chk10 hW
    rw [h10] at hc
    clear hW h10
    go_enter Tryz.func35, Tryz.ntmps35
    go_wp2_with (go_at_call 64; refine (hc _).mono ?_; rintro e w' ⟨rfl, rfl⟩)
    go_ret
    exact ⟨rfl, bA⟩
  · have h10 : chk wd 0 = 10 ↔ False := by rw [chk_w, hW]; simp
    have h11 : (chk wd 0 == 10) = false := by simp [h10]
    obtain ⟨q, hq⟩ : ∃ q, q = chk wd 0 := ⟨_, rfl⟩
    rw [← hq] at hc h11
    clear hW h10 hq
    rw [if_pos rfl]
    go_enter Tryz.func35, Tryz.ntmps35
    go_wp2_with (go_at_call 64; refine (hc _).mono ?_; rintro e w' ⟨rfl, rfl⟩)
    all_goals go_ret
    all_goals refine ⟨ret_int ?_, bA⟩
    all_goals first | rfl | (rw [if_pos (by omega)]) | (rw [if_neg (by omega)])
theorem shl_pow (b : Nat) (hb : b ≤ 32) : IntKind.i64.wrap (1 * 2 ^ b) = 2 ^ b ∧ (2 : Int) ^ b ≤ 4294967296 ∧ (0 : Int) < 2 ^ b := by
  have h1 : (2 : Nat) ^ b ≤ 2 ^ 32 := Nat.pow_le_pow_right (by omega) hb
  have h2 : (((2 : Nat) ^ b : Nat) : Int) = (2 : Int) ^ b := by rw [Int.natCast_pow]; rfl
  have h3 : 0 < (2 : Nat) ^ b := Nat.two_pow_pos b
  have h4 : (2 : Int) ^ b ≤ 4294967296 := by rw [← h2]; omega
  have h5 : (0 : Int) < 2 ^ b := by rw [← h2]; omega
  refine ⟨?_, h4, h5⟩
  rw [Int.one_mul, IntKind.wrap_i64]
  omega
set_option maxHeartbeats 1000000 in
set_option maxRecDepth 100000 in
theorem checkEntry_any (h : Hd) (e : En) (w : World) (hw : isW h.w = true) (hb : 1 ≤ h.b ∧ h.b ≤ 32) :
    Calls Tryz.prog 36 #[.agg (hdC h).toArray, .agg (enC e).toArray] w fun r w' => r = .returned (.int .i64 (enE h e)) ∧ Below w.heap.size w w' := by
  obtain ⟨wd, t, b, lo, hi, n⟩ := h
  obtain ⟨v, c, i, s, d⟩ := e
  dsimp only at hw hb
  have bA : Below w.heap.size w ((w.alloc (.cells #[.int .i64 wd, .int .i64 t, .int .i64 b, .int .i64 lo, .int .i64 hi, .int .i64 n] 31)).alloc (.cells #[.int .i64 v, .string c, .int .i64 i, .int .i64 s, .bool d] 38)) := ((Below.refl _ w).alloc (Nat.le_refl _) _).alloc (by simp) _
  have hc : ∀ W, Calls Tryz.prog 64 #[.int .i64 wd, .string c] W fun e w' => e = .returned (.int .i64 (chk wd c.size)) ∧ w' = W := fun W => bcheck_any wd c W
  obtain ⟨B, rfl⟩ : ∃ B : Nat, b = B := ⟨b.toNat, by omega⟩
  obtain ⟨p1, p2, p3⟩ := shl_pow B (by omega)
  unfold enE
  simp only [hdC, enC, Int.toNat_natCast]
  by_cases hs : (c.size : Int) = wd / 8
  · have h0 : chk wd c.size = 0 := chk_ok.2 ⟨hw, hs⟩
    rw [if_pos hs]
    rw [h0] at hc
    clear h0 hs hw
    obtain ⟨Q, hQ⟩ : ∃ Q : Int, Q = 2 ^ B := ⟨_, rfl⟩
    go_enter Tryz.func36, Tryz.ntmps36
    go_wp2_with (go_at_call 64; refine (hc _).mono ?_; rintro e w' ⟨rfl, rfl⟩)
    have hB : (0 : Int) ≤ (B : Int) := by omega
    by_cases hv : v < 0
    · go_quiet (fail)
      go_wp2
      go_ret
      exact ⟨ret_int (by first | rfl | rw [if_neg (by omega)]), bA.trans (Drew.below ⟨_, rfl⟩ _)⟩
    · have hv' : 0 ≤ v := by omega
      go_region
      go_wp2
      all_goals go_ret
      all_goals refine ⟨ret_int ?_, bA.drew⟩
      all_goals first
        | rfl
        | rw [if_neg (by omega)]
        | (rw [if_pos (by omega), if_neg (by omega)])
        | (rw [if_pos (by omega), if_pos (by omega), if_neg (by omega)])
        | (rw [if_pos (by omega), if_pos (by omega), if_pos (by omega)])
  · have h0 : (chk wd c.size != 0) = true := by
      have : ¬ chk wd c.size = 0 := fun e => hs (chk_ok.1 e).2
      simpa using this
    rw [if_neg hs]
    obtain ⟨q, hq⟩ : ∃ q, q = chk wd c.size := ⟨_, rfl⟩
    rw [← hq] at hc h0
    clear hq hs hw
    go_enter Tryz.func36, Tryz.ntmps36
    go_wp2_with (go_at_call 64; refine (hc _).mono ?_; rintro e w' ⟨rfl, rfl⟩)
    go_ret
    exact ⟨rfl, bA⟩
/-- How two entries stand. -/
def cpE (a b : En) : Int := if a.v = b.v then (if Lib.compareBytes a.c.data.toList b.c.data.toList = 0 then Lib.compareInt a.i b.i else Lib.compareBytes a.c.data.toList b.c.data.toList) else Lib.compareInt a.v b.v
theorem cmpI (a b : Int) : (Lib.compareInt a b < 0 ↔ a < b) ∧ (Lib.compareInt a b = 0 ↔ a = b) ∧ (0 < Lib.compareInt a b ↔ b < a) := by
  unfold Lib.compareInt
  split
  · omega
  · split <;> omega
theorem cpE_ls (a b : En) : cpE a b < 0 ↔ lsB a b = true := by
  unfold cpE lsB
  by_cases h1 : a.v = b.v
  · rw [if_pos h1, if_pos h1]
    by_cases h2 : a.c = b.c
    · rw [if_pos h2, if_pos ((cmp_zero _ _).2 (by rw [h2])), (cmpI _ _).1]; simp
    · have h3 : ¬ Lib.compareBytes a.c.data.toList b.c.data.toList = 0 := fun h => h2 (ba_ext ((cmp_zero _ _).1 h))
      rw [if_neg h2, if_neg h3, bytesLess_cmp]; simp
  · rw [if_neg h1, if_neg h1, (cmpI _ _).1]; simp
set_option maxHeartbeats 1000000 in
set_option maxRecDepth 100000 in
theorem compare_any (a b : En) (w : World) :
    Calls Tryz.prog 30 #[.agg (enC a).toArray, .agg (enC b).toArray] w fun r w' => r = .returned (.int .i64 (cpE a b)) ∧ Below w.heap.size w w' := by
  obtain ⟨v, c, i, s, d⟩ := a
  obtain ⟨v', c', i', s', d'⟩ := b
  have bA : Below w.heap.size w ((w.alloc (.cells #[.int .i64 v, .string c, .int .i64 i, .int .i64 s, .bool d] 38)).alloc (.cells #[.int .i64 v', .string c', .int .i64 i', .int .i64 s', .bool d'] 38)) := ((Below.refl _ w).alloc (Nat.le_refl _) _).alloc (by simp) _
  have k1 := fun W => Tryz.cmp_Compare_int v v' W
  have k2 := fun W => Tryz.strings_Compare c c' W
  have k3 := fun W => Tryz.cmp_Compare_int i i' W
  unfold cpE
  simp only [enC]
  by_cases h1 : v = v'
  · rw [if_pos h1]
    have h1' : (v != v') = false := by simp [h1]
    by_cases h2 : Lib.compareBytes c.data.toList c'.data.toList = 0
    · rw [if_pos h2]
      have h2' : (Lib.compareBytes c.data.toList c'.data.toList != 0) = false := by simp [h2]
      obtain ⟨q, hq⟩ : ∃ q, q = Lib.compareBytes c.data.toList c'.data.toList := ⟨_, rfl⟩
      rw [← hq] at k2 h2'
      clear h2 hq k1 h1
      go_enter Tryz.func30, Tryz.ntmps30
      go_wp2_with first
        | (go_at_call 57; refine (k2 _).mono ?_; rintro e w' ⟨rfl, rfl⟩)
        | (go_at_call 56; refine (k3 _).mono ?_; rintro e w' ⟨rfl, rfl⟩)
      go_ret
      exact ⟨rfl, bA⟩
    · rw [if_neg h2]
      have h2' : (Lib.compareBytes c.data.toList c'.data.toList != 0) = true := by simpa using h2
      obtain ⟨q, hq⟩ : ∃ q, q = Lib.compareBytes c.data.toList c'.data.toList := ⟨_, rfl⟩
      rw [← hq] at k2 h2' ⊢
      clear h2 hq k1 h1 k3
      go_enter Tryz.func30, Tryz.ntmps30
      go_wp2_with (go_at_call 57; refine (k2 _).mono ?_; rintro e w' ⟨rfl, rfl⟩)
      go_ret
      exact ⟨rfl, bA⟩
  · rw [if_neg h1]
    have h1' : (v != v') = true := by simpa using h1
    clear h1 k2 k3
    go_enter Tryz.func30, Tryz.ntmps30
    go_wp2_with (go_at_call 56; refine (k1 _).mono ?_; rintro e w' ⟨rfl, rfl⟩)
    go_ret
    exact ⟨rfl, bA⟩
end Go.Proofs.YtjdpolhjbkpnlaaGreatDoor
