/-
  DERIVED. JOpenU, JGone, JLiv0, as one text.
-/
import Derived.Test.YtcamnalmcghjfaaGreatDoorTzAT
import Derived.Deep.Slices
import Derived.WideShapes
import Derived.ChangeShapes
import Derived.SizedLaws
import Derived.ChangeSlices
import Derived.Test.YtcamnalmcghjfaaGreatDoorTzAV
set_option linter.unusedVariables false
set_option linter.unusedSimpArgs false
namespace Go.Proofs.YtcamnalmcghjfaaGreatDoor
open Go.RowKit Go.ChangeShapes Go.WideShapes Go.Deep
theorem add_plain (b off j : Nat) : (⟨b, off, none⟩ : Addr).add j = ⟨b, off + j, none⟩ := by unfold Addr.add; split <;> simp_all
theorem cells3 : Tryz.prog.cellsOf 3 = 1 := by kernel_rfl
theorem cells9 : Tryz.prog.cellsOf 9 = 1 := by kernel_rfl
theorem cellsUp : Tryz.prog.cellsOf 32 = 4 := by kernel_rfl
theorem laidOut : laidOutB Tryz.prog = true := by kernel_rfl
theorem bytesUp : Tryz.prog.bytesOf 32 = 40 := by kernel_rfl
abbrev I64 (n : Int) : Prop := -9223372036854775808 ≤ n ∧ n < 9223372036854775808
theorem i64_wf {n : Int} (h : (Lit.int .i64 n).wf = true) : I64 n := by
  have e1 : IntKind.i64.min = -9223372036854775808 := rfl
  have e2 : IntKind.i64.max = 9223372036854775807 := rfl
  simp [Lit.wf, e1, e2] at h
  exact ⟨h.1, by omega⟩
theorem weights_in {H : Type} {P : Program} {e : TypeId} : ∀ {ds : List (DataW H)} {d : DataW H} {n : Nat}, d ∈ ds → n ∈ d.weights P e → n ∈ DataW.weightsAll P e ds
  | d' :: ds, d, n, hd, hn => by
    unfold DataW.weightsAll
    rcases List.mem_cons.1 hd with rfl | h
    · exact List.mem_append_left _ hn
    · exact List.mem_append_right _ (weights_in h hn)
set_option maxRecDepth 100000 in
theorem uq_trod {H : Type} {enc : TypeId × Value → H} {W : World} {base : Nat} {spare : Nat → Bool} {held : Bool} {fuel : Nat} {cs : List Value} {x : DataW H × List MemPlace}
    (h : DataW.trod enc Tryz.prog W base spare held fuel 32 cs = some x) : ∃ e : Uq, cs = EU.f e ∧ I64 e.2.1 ∧ I64 e.2.2.1 ∧ ∃ y0 y1 y2, x.1 = .agg [y0, y1, y2, .lit (.string e.2.2.2.data.toList)] := by
  obtain ⟨xs, k, hk, hxy, hlen, hxl, hf⟩ := DataW.trod_struct Tryz.underlying32 h
  rw [cellsUp] at hlen
  match xs, hxl, cs, hlen with
  | [y0, y1, y2, y3], _, [v0, v1, v2, v3], _ =>
    have g0 := hf 0 _ rfl
    have g1 := hf 1 _ rfl
    have g2 := hf 2 _ rfl
    have g3 := hf 3 _ rfl
    simp [cells3] at g0 g1 g2
    simp [cells9] at g3
    obtain ⟨z0, hz0, _, w0⟩ := DataW.trod_int Tryz.underlying3 g0
    obtain ⟨z1, hz1, _, w1⟩ := DataW.trod_int Tryz.underlying3 g1
    obtain ⟨z2, hz2, _, w2⟩ := DataW.trod_int Tryz.underlying3 g2
    obtain ⟨z3, hz3, hd3, _⟩ := DataW.trod_string Tryz.underlying9 g3
    simp at hz0 hz1 hz2 hz3
    subst hz0 hz1 hz2 hz3
    exact ⟨(z0, z1, z2, z3), rfl, i64_wf w1, i64_wf w2, y0.1, y1.1, y2.1, by rw [hxy]; simp [hd3]⟩
theorem flat_to4 {W : World} {b off : Nat} {l : List Uq} (h : ∀ i (hi : i < l.length) j v, (EU.f l[i])[j]? = some v → W.cell? ⟨b, off + (i * 4 + j), none⟩ = some v) : ∀ j x, (l.flatMap EU.f)[j]? = some x → W.cell? ⟨b, off + j, none⟩ = some x := fun j x hx => by
  have hj : j < l.length * 4 := by
    have h1 := Rw.El.Ok.len okEU l
    have h2 := (List.getElem?_eq_some_iff.1 hx).1
    rw [h1] at h2
    exact h2
  have hi : j / 4 < l.length := by omega
  have hr : j % 4 < 4 := by omega
  have e : j / 4 * 4 + j % 4 = j := by omega
  have h1 := Rw.flat_at EU.f 4 (fun _ => rfl) l (j / 4) (j % 4) hi hr
  rw [e, hx] at h1
  have h2 := h (j / 4) hi (j % 4) x h1.symm
  rw [e] at h2
  exact h2
set_option maxRecDepth 100000 in
theorem open_uqs {H : Type} {enc : TypeId × Value → H} {W : World} {base : Nat} {spare : Nat → Bool} {held : Bool} {fuel : Nat} {a0 : Option Addr} {len cap : Nat} {d : DataW H} {ps : List MemPlace}
    (h : DataW.trod enc Tryz.prog W base spare held fuel 33 [.slice a0 len cap] = some (d, ps)) (hsz : ∀ n ∈ d.weights Tryz.prog 33, n ≤ reachBytes) :
    ∃ l : List Uq, l.length = len ∧ EU.At W a0 l ∧ l.length ≤ 3518437208780 ∧ (∀ e ∈ l, I64 e.2.1 ∧ I64 e.2.2.1 ∧ e.2.2.2.size ≤ 140737488351232) ∧ len ≤ cap := by
  rcases open_slice Tryz.underlying33 h with ⟨hcs, _⟩ | ⟨a, len', cap', m, n, D, Pl, hcs, _, hlc, _, hm, hx, hel⟩
  · simp at hcs
    obtain ⟨rfl, rfl, rfl⟩ := hcs
    exact ⟨[], rfl, ⟨fun h => absurd rfl h⟩, by simp, fun e he => (by cases he), Nat.le_refl _⟩
  · simp at hcs
    obtain ⟨rfl, rfl, rfl⟩ := hcs
    have hlm : len ≤ m := by rw [hm]; split <;> omega
    simp only [Prod.mk.injEq] at hx
    obtain ⟨hd, hps⟩ := hx
    have each : ∀ i, i < len → ∃ e : Uq, (∀ j v, (EU.f e)[j]? = some v → W.cell? ((a.add (i * 4)).add j) = some v) ∧ (I64 e.2.1 ∧ I64 e.2.2.1 ∧ e.2.2.2.size ≤ 140737488351232) := by
      intro i hi
      obtain ⟨cs', h1, h2⟩ := hel i (by omega)
      rw [cellsUp] at h1
      obtain ⟨_, hlen, hcell⟩ := World.cells?_some h1
      obtain ⟨e, rfl, i1, i2, y0, y1, y2, hD⟩ := uq_trod h2
      refine ⟨e, fun j v hv => ?_, i1, i2, ?_⟩
      · have hj : j < 4 := by have := (List.getElem?_eq_some_iff.1 hv).1; simpa [EU] using this
        rw [hcell j hj, hv]
      · have hw := hsz e.2.2.2.data.toList.length (by
          rw [hd]
          unfold DataW.weights
          rw [Tryz.underlying33]
          refine List.mem_cons_of_mem _ (List.mem_append_left _ (weights_in (d := D i) (List.mem_map.2 ⟨i, List.mem_range.2 hi, rfl⟩) ?_))
          have hD' : D i = .agg [y0, y1, y2, .lit (.string e.2.2.2.data.toList)] := hD
          rw [hD']
          unfold DataW.weights
          rw [Tryz.underlying32]
          show _ ∈ DataW.weightsEach Tryz.prog (3 :: 3 :: 3 :: 9 :: _) (y0 :: y1 :: y2 :: .lit (.string e.2.2.2.data.toList) :: _)
          unfold DataW.weightsEach
          refine List.mem_append_right _ ?_
          unfold DataW.weightsEach
          refine List.mem_append_right _ ?_
          unfold DataW.weightsEach
          refine List.mem_append_right _ ?_
          unfold DataW.weightsEach
          refine List.mem_append_left _ ?_
          unfold DataW.weights
          exact List.mem_singleton.2 rfl)
        have e1 : e.2.2.2.size = e.2.2.2.data.toList.length := by simp
        have : reachBytes = 140737488351232 := by decide
        omega
    haveI : Inhabited Uq := ⟨(0, 0, 0, ⟨#[]⟩)⟩
    obtain ⟨F, hF⟩ := choose_lt each
    have hlen : len ≤ 3518437208780 := by
      have hw := hsz ((((List.range len).map D).length + ((List.range (m - len)).map fun j => D (len + j)).length) * Tryz.prog.bytesOf 32) (by
        rw [hd]
        unfold DataW.weights
        rw [Tryz.underlying33]
        exact List.mem_cons_self)
      rw [bytesUp] at hw
      simp at hw
      have : reachBytes = 140737488351232 := by decide
      omega
    refine ⟨(List.range len).map F, by simp, ⟨fun hne => ?_⟩, by simpa using hlen, fun e he => ?_, hlc⟩
    · have hl0 : 0 < len := by
        rcases Nat.eq_zero_or_pos len with h0 | h0
        · subst h0; simp at hne
        · exact h0
      obtain ⟨b, off, spot⟩ := a
      have hsp : spot = none := by
        have := World.cell?_spot ((hF 0 hl0).1 0 _ rfl)
        simpa [Addr.add] using this
      subst hsp
      refine ⟨b, off, rfl, flat_to4 fun i hi j v hv => ?_⟩
      have hi' : i < len := by simpa using hi
      have h1 := (hF i hi').1 j v (by simpa using hv)
      rw [add_plain, add_plain, Nat.add_assoc] at h1
      exact h1
    · obtain ⟨i, hi, rfl⟩ := List.mem_map.1 he
      exact (hF i (List.mem_range.1 hi)).2
end Go.Proofs.YtcamnalmcghjfaaGreatDoor
set_option linter.unusedVariables false
set_option linter.unusedSimpArgs false
namespace Go.Proofs.YtcamnalmcghjfaaGreatDoor
open Go.RowKit Go.Proofs.SealMath Go.Proofs.DiskMath
set_option maxHeartbeats 4000000 in
set_option maxRecDepth 100000 in
theorem app_gone {w : World} {p mb j : Nat} {es : List Ent} {c : Dk.Ctl} {age sy la : Int} {u : Up} (h : Dk.DK w p mb es c) (ho : c.off = false) (hne : c.age ≠ age) (hj : w.heap[j]? = some (.cells (jV p age la sy) 72 (0, 0))) :
    Calls Tryz.prog 10 #[Pt j, .agg (upV u)] w fun r w' => r = .returned (.int .i64 45) ∧ Below w.heap.size w w' := by
  obtain ⟨V, hV⟩ : ∃ V, V = (w.alloc (.cells #[Pt j] 26)).alloc (.cells (upV u) 32) := ⟨_, rfl⟩
  have b0 : Below w.heap.size w (w.alloc (.cells #[Pt j] 26)) := (Below.refl _ w).alloc (Nat.le_refl _) _
  have bV : Below w.heap.size w V := hV ▸ b0.alloc b0.size _
  have hjV := (bV.block j (Array.getElem?_eq_some_iff.1 hj).1).trans hj
  have ha := att_gone V (h.below bV) ho hne hjV 29 #[Pt (w.heap.size + 1), Pt w.heap.size]
  have HB := Hid.mk (And.intro bV hV)
  clear hjV b0 bV ho hj h hne
  dsimp only [upV] at HB ⊢
  go_enter Tryz.func10, Tryz.ntmps10
  go_wp2_with fail
  rw [← HB.out.2]
  refine ha.mono ?_
  clear ha
  rintro r w5 ⟨rfl, b5⟩
  have HF := Hid.mk (HB.out.1.trans (b5.mono HB.out.1.size))
  clear b5
  go_wp2
  go_ret
  exact ⟨rfl, HF.out⟩
set_option maxRecDepth 100000 in
/-- A list copied behind nothing. -/
theorem copy_any (W : World) (X : List Uq) (a : Option Addr) (n cp : Nat) (h : EU.Row W (.slice a n cp) X) (hn : n = X.length) (hb : X.length ≤ 1099511627776) :
    ∃ a' cp' W', (Builtin.append_ #[33, 33] 33 #[.slice none 0 0, .slice a n cp]).run Tryz.prog W = .ok (.slice a' n cp') W' ∧ EU.Row W' (.slice a' n cp') X ∧ (∀ k, (Value.slice a' n cp').ownBlock = some k → W.heap.size ≤ k) ∧ Below W.heap.size W W' := by
  subst hn
  rcases h.2 with ⟨hv, h0⟩ | ⟨g, cap, cur, hv, -⟩
  · simp only [Value.slice.injEq] at hv
    obtain ⟨rfl, h1, rfl⟩ := hv
    have hX : X = [] := List.length_eq_zero_iff.1 h1
    subst hX
    exact ⟨none, 0, W, by kernel_rfl, Rw.El.Row.nil EU W, fun k hk => (by cases hk), Below.refl _ _⟩
  · simp only [Value.slice.injEq] at hv
    obtain ⟨rfl, -, rfl⟩ := hv
    obtain ⟨i0, hi, hz0, hz1, hz2⟩ := info_parts okEU.info
    have hc := Rw.El.Row.lat h
    obtain ⟨a2, c2, e2, hat⟩ := hc
    simp only [Value.slice.injEq] at e2
    obtain ⟨rfl, -, rfl⟩ := e2
    obtain ⟨v', W', hap, ho, hg, -, hloc⟩ := run_append_own_at (P := Tryz.prog) W 0 33 33 32 i0 _ 4 40 okEU.und hi hz0 hz1 hz2 okEU.zs (by decide) (.slice none 0 0) 0 [] ⟨rfl, .inl ⟨rfl, rfl⟩⟩ ⟨g, 0, none⟩ X.length cp (X.flatMap EU.f) (Rw.El.Ok.len okEU X) (fun j u hu => by
      obtain ⟨g', off, e3, hr⟩ := hat.at' (fun e => by rw [e] at hu; simp at hu)
      simp only [Option.some.injEq, Addr.mk.injEq] at e3
      obtain ⟨rfl, rfl, -⟩ := e3
      have := hr j u hu
      have e4 : (⟨g, 0, none⟩ : Addr).add j = ⟨g, 0 + j, none⟩ := by unfold Addr.add; split <;> simp_all
      rw [e4]; exact this) (Rw.El.Ok.ones okEU X) (by unfold maxLen; omega) (by omega) (Nat.zero_le _)
    have hrow : EU.Row W' v' X := by
      show W'.ownsRow 0 32 4 v' X.length _
      rw [Nat.zero_add, List.nil_append] at ho
      exact ho
    obtain ⟨a5, c5, e5, -⟩ := hrow.form
    subst e5
    refine ⟨a5, c5, W', hap, hrow, fun k hk => ?_, (Stay.grown (F := fun _ => False) hg (fun k hk => by cases hk)).toBelow (fun _ _ h => h) (Nat.le_refl _)⟩
    rcases hloc with h8 | h8
    · rw [h8] at hk; cases hk
    · rw [h8] at hk; cases hk; exact Nat.le_refl _
section
variable {W : World} {p mb : Nat} {e : Ent} {c : Dk.Ctl} {D : List UInt8}
theorem arm_one (h : JS W p mb e c D) (n : Int) (hn : n < 9223372036854775808) (hn0 : -9223372036854775808 ≤ n) :
    Calls Tryz.prog 24 #[Pt p, .int .i64 n, .bool false] W fun r W' => r = .returned (.tuple #[]) ∧ JS W' p mb e (Dk.armC c n false) D ∧ Stay (Dk.Foot p mb [e]) W W' := by
  refine Dk.arm_any n false W h.dk hn hn0 _ (fun W' hs => ⟨rfl, ⟨hs.dk, h.nm, h.da, by unfold Dk.armC; split <;> exact h.cap⟩, hs.stay⟩)
/-- A power cut of which so much of the file's bytes is kept. -/
theorem crash_one (h : JS W p mb e c D) (a : Option Addr) (cap : Nat) (keep : Int) (sp : UInt8) (hk : -9223372036854775808 ≤ keep ∧ keep < 9223372036854775808) (hcs : ∀ V, Stay (Dk.Foot p mb [e]) W V → Dk.CutsAt V a [(⟨#[106, 57]⟩, keep, sp)]) :
    Calls Tryz.prog 9 #[Pt p, .slice a 1 cap] W fun r W' => r = .returned (.tuple #[]) ∧ Stay (Dk.Foot p mb [e]) W W' ∧ ∃ e', JS W' p mb e' (Dk.crashC c) (Dk.loseL D e.du (min keep.toNat (D.length - e.du)) sp) ∧ e'.du = e.du + min keep.toNat (D.length - e.du) ∧ ∀ k, Dk.Foot p mb [e'] k → Dk.Foot p mb [e] k ∨ W.heap.size ≤ k := by
  have hdu : e.du ≤ D.length := by rw [← h.da]; exact (h.dk.hf e (by simp)).du
  refine Dk.crash_any a [(⟨#[106, 57]⟩, keep, sp)] cap W h.dk hcs (by simp) (fun j hj => ?_) _ (fun W' es' hs hes => ?_)
  · have : j = 0 := by simp at hj; omega
    subst this
    exact ⟨by show (2 : Nat) ≤ maxLen; unfold maxLen; omega, hk.1, hk.2⟩
  · have hl := congrArg List.length hes
    simp only [List.length_map, List.length_singleton] at hl
    obtain ⟨e', rfl⟩ : ∃ e', es' = [e'] := List.length_eq_one_iff.1 hl
    have hnm : ([106, 57] : List UInt8) = e.nm := by rw [h.nm, nm9b]
    simp only [List.map_cons, List.map_nil, List.cons.injEq, and_true] at hes
    have hcf : Dk.cutF [(⟨#[106, 57]⟩, keep, sp)] (Dk.fl e) = Dk.loseF (Dk.fl e) keep sp := by
      unfold Dk.cutF
      simp only [List.foldl_cons, List.foldl_nil]
      rw [if_pos (by show ([106, 57] : List UInt8) = e.nm; exact hnm)]
    rw [hcf] at hes
    obtain ⟨K, hK⟩ : ∃ K, K = min keep.toNat (D.length - e.du) := ⟨_, rfl⟩
    have hKl : e.du + K ≤ D.length := by omega
    have e1 : Dk.loseF (Dk.fl e) keep sp = ⟨e.nm, Dk.loseL D e.du K sp, e.du + K⟩ := by
      unfold Dk.loseF Dk.fl
      dsimp only
      rw [h.da, ← hK]
    have e2 : Dk.loseF (⟨e.nm, Dk.loseL D e.du K sp, e.du + K⟩ : Dk.Fl) 0 0 = ⟨e.nm, Dk.loseL D e.du K sp, e.du + K⟩ := by
      unfold Dk.loseF
      dsimp only
      have e3 : min (0 : Int).toNat ((Dk.loseL D e.du K sp).length - (e.du + K)) = 0 := by
        have : (0 : Int).toNat = 0 := rfl
        omega
      rw [e3, Nat.add_zero]
      have e4 : Dk.loseL (Dk.loseL D e.du K sp) (e.du + K) 0 0 = Dk.loseL D e.du K sp := by
        have e5 := Dk.loseL_len D e.du K sp hKl
        obtain ⟨Q, hQ⟩ : ∃ Q, Q = Dk.loseL D e.du K sp := ⟨_, rfl⟩
        rw [← hQ] at e5 ⊢
        unfold Dk.loseL
        rw [if_pos rfl, ← e5, List.take_length]
      rw [e4]
    rw [e1, e2] at hes
    have f1 : e'.nm = e.nm := congrArg Dk.Fl.nm hes
    have f2 : e'.da = Dk.loseL D e.du K sp := congrArg Dk.Fl.da hes
    have f3 : e'.du = e.du + K := congrArg Dk.Fl.du hes
    rw [← hK]
    exact ⟨rfl, hs.stay, e', ⟨hs.dk, by rw [f1, h.nm], f2, h.cap⟩, f3, hs.foot⟩
end
end Go.Proofs.YtcamnalmcghjfaaGreatDoor
set_option linter.unusedVariables false
set_option linter.unusedSimpArgs false
namespace Go.Proofs.YtcamnalmcghjfaaGreatDoor
open Go.RowKit Go.Proofs.SealMath Go.Proofs.DiskMath
/-- What stands of the disk, of what was appended (L), of what is durable (the first s), of their lists. -/
structure LV0 (w W : World) (p mb j n b9 : Nat) (A : Int) (rv : Array Value) (e0 e : Ent) (c : Dk.Ctl) (L : List Up) (s : Nat) (va vs : Value) : Prop where
  js : JS W p mb e c (flU L)
  age : c.age = A
  du : e.du = (flU (L.take s)).length
  sl : s ≤ L.length
  gn : GN n L
  jh : ∃ la sy, W.heap[j]? = some (.cells (jV p A la sy) 72 (0, 0))
  bx : W.heap[b9]? = some (.cells rv 35 (0, 0))
  b9w : w.heap.size ≤ b9
  jw : j < w.heap.size
  jf : ¬ Dk.Foot p mb [e0] j
  bf : ¬ Dk.Foot p mb [e] b9
  ra : EU.Row W va (L.map upQ)
  rs : EU.Row W vs ((L.take s).map upQ)
  ka : ∀ k, va.ownBlock = some k → w.heap.size ≤ k ∧ ¬ Dk.Foot p mb [e] k ∧ k ≠ b9
  ks : ∀ k, vs.ownBlock = some k → w.heap.size ≤ k ∧ ¬ Dk.Foot p mb [e] k ∧ k ≠ b9
  aps : ∀ k, va.ownBlock = some k → vs.ownBlock ≠ some k
  st : Stay (fun k => Dk.Foot p mb [e0] k ∨ k = j) w W
  ft : ∀ k, Dk.Foot p mb [e] k → Dk.Foot p mb [e0] k ∨ w.heap.size ≤ k
/-- .. and the journal lives. -/
structure LV (w W : World) (p mb j n b9 : Nat) (A cut : Int) (rv : Array Value) (e0 e : Ent) (c : Dk.Ctl) (L : List Up) (s : Nat) (va vs : Value) : Prop where
  v : LV0 w W p mb j n b9 A rv e0 e c L s va vs
  off : c.off = false
  arm : c.left ≠ 0 → 0 < cut
  jl : ∃ sy, W.heap[j]? = some (.cells (jV p A (n + L.length : Nat) sy) 72 (0, 0))
section
variable {w W W1 W2 : World} {p mb j n b9 s : Nat} {A cut : Int} {rv : Array Value} {e0 e e' : Ent} {c : Dk.Ctl} {L : List Up} {va vs va' vs' : Value} {u : Up}
theorem LV0.jfe (h : LV0 w W p mb j n b9 A rv e0 e c L s va vs) : ¬ Dk.Foot p mb [e] j := fun hf => by
  rcases h.ft j hf with h1 | h1
  · exact h.jf h1
  · have := h.jw; omega
theorem LV0.below (h : LV0 w W p mb j n b9 A rv e0 e c L s va vs) (b : Below W.heap.size W W1) : LV0 w W1 p mb j n b9 A rv e0 e c L s va vs :=
  { h with
    js := h.js.below b
    jh := by
      obtain ⟨la, sy, h1⟩ := h.jh
      exact ⟨la, sy, (b.block j (Array.getElem?_eq_some_iff.1 h1).1).trans h1⟩
    bx := (b.block b9 (Array.getElem?_eq_some_iff.1 h.bx).1).trans h.bx
    ra := h.ra.below b
    rs := h.rs.below b
    st := h.st.trans (.below b) }
theorem LV.below (h : LV w W p mb j n b9 A cut rv e0 e c L s va vs) (b : Below W.heap.size W W1) : LV w W1 p mb j n b9 A cut rv e0 e c L s va vs :=
  ⟨h.v.below b, h.off, h.arm, by
    obtain ⟨sy, h1⟩ := h.jl
    exact ⟨sy, (b.block j (Array.getElem?_eq_some_iff.1 h1).1).trans h1⟩⟩
/-- Behind Append and the list's append. -/
theorem LV.app (h : LV w W p mb j n b9 A cut rv e0 e c L s va vs) (hu : Gu u) (hs : u.s = n + L.length + 1) (hJ : JS W1 p mb e' (Dk.tick c) (flU L ++ frU u)) (hd : e'.du = e.du) (hf : ∀ k, Dk.Foot p mb [e'] k → Dk.Foot p mb [e] k ∨ W.heap.size ≤ k) {la sy : Int} (hj : W1.heap[j]? = some (.cells (jV p A la sy) 72 (0, 0))) (st1 : Stay (fun k => Dk.Foot p mb [e] k ∨ k = j) W W1)
    (hr : EU.Row W2 va' (L.map upQ ++ [upQ u])) (st2 : Stay (fun k => va.ownBlock = some k) W1 W2) (ho : ∀ k, va'.ownBlock = some k → va.ownBlock = some k ∨ W1.heap.size ≤ k) :
    LV0 w W2 p mb j n b9 A rv e0 e' (Dk.tick c) (L ++ [u]) s va' vs ∧ W2.heap[j]? = some (.cells (jV p A la sy) 72 (0, 0)) := by
  have hv := h.v
  have jlt := hv.jw
  have sw : w.heap.size ≤ W.heap.size := hv.st.size
  have s1 : W.heap.size ≤ W1.heap.size := st1.size
  have hvf : ∀ k, va.ownBlock = some k → ¬ Dk.Foot p mb [e'] k := fun k hk hk2 => by
    rcases hf k hk2 with h1 | h1
    · exact (hv.ka k hk).2.1 h1
    · have := row_lt hv.ra hk; omega
  have hj2 : W2.heap[j]? = some (.cells (jV p A la sy) 72 (0, 0)) := (st2.block j (Array.getElem?_eq_some_iff.1 hj).1 (fun hk => by have := (hv.ka j hk).1; omega)).trans hj
  have bx1 : W1.heap[b9]? = _ := (st1.block b9 (Array.getElem?_eq_some_iff.1 hv.bx).1 (fun hk => by
    rcases hk with h1 | h1
    · exact hv.bf h1
    · have := hv.b9w; omega)).trans hv.bx
  have bx2 : W2.heap[b9]? = _ := (st2.block b9 (Array.getElem?_eq_some_iff.1 bx1).1 (fun hk => (hv.ka b9 hk).2.2 rfl)).trans bx1
  have tk : (L ++ [u]).take s = L.take s := List.take_append_of_le_length hv.sl
  refine ⟨{ js := ?_, age := hv.age, du := by rw [tk, hd]; exact hv.du, sl := by rw [List.length_append]; have := hv.sl; omega, gn := hv.gn.snoc hu hs, jh := ⟨la, sy, hj2⟩, bx := bx2, b9w := hv.b9w, jw := hv.jw, jf := hv.jf, bf := ?_, ra := by rw [List.map_append]; exact hr, rs := ?_, ka := ?_, ks := ?_, aps := ?_, st := ?_, ft := ?_ }, hj2⟩
  · have h1 := hJ.keep st2 (fun k hk hk2 => hvf k hk2 hk)
    rw [flU_one]; exact h1
  · intro hk
    rcases hf b9 hk with h1 | h1
    · exact hv.bf h1
    · have := (Array.getElem?_eq_some_iff.1 hv.bx).1; omega
  · rw [tk]
    refine row_kept (row_kept hv.rs st1 (fun k hk hk2 => ?_)) st2 (fun k hk hk2 => hv.aps k hk2 hk)
    rcases hk2 with h1 | h1
    · exact (hv.ks k hk).2.1 h1
    · have := (hv.ks k hk).1; omega
  · intro k hk
    rcases ho k hk with h1 | h1
    · exact ⟨(hv.ka k h1).1, hvf k h1, (hv.ka k h1).2.2⟩
    · refine ⟨by omega, fun h2 => ?_, fun h2 => ?_⟩
      · have := hJ.dk.lt h2; omega
      · have := (Array.getElem?_eq_some_iff.1 bx1).1; omega
  · intro k hk
    refine ⟨(hv.ks k hk).1, fun h2 => ?_, (hv.ks k hk).2.2⟩
    rcases hf k h2 with h1 | h1
    · exact (hv.ks k hk).2.1 h1
    · have := row_lt hv.rs hk; omega
  · intro k hk hk2
    rcases ho k hk with h1 | h1
    · exact hv.aps k h1 hk2
    · have := row_lt hv.rs hk2; omega
  · refine (hv.st.andThen st1 (fun k hk h2 => ?_)).andThen st2 (fun k hk h2 => ?_)
    · rcases h2 with h1 | h1
      · rcases hv.ft k h1 with h3 | h3
        · exact .inl h3
        · omega
      · exact .inr h1
    · have := (hv.ka k h2).1; omega
  · intro k hk
    rcases hf k hk with h1 | h1
    · exact hv.ft k h1
    · exact .inr (by omega)
/-- .. and the journal lives on, where the power is on. -/
theorem LV.app_on (h : LV w W p mb j n b9 A cut rv e0 e c L s va vs) (hE : Dk.okE c = 0) {sy : Int} (hs : u.s = n + L.length + 1) (h0 : LV0 w W2 p mb j n b9 A rv e0 e' (Dk.tick c) (L ++ [u]) s va' vs) (hj : W2.heap[j]? = some (.cells (jV p A (u.s : Int) sy) 72 (0, 0))) : LV w W2 p mb j n b9 A cut rv e0 e' (Dk.tick c) (L ++ [u]) s va' vs := by
  have hl : c.left ≠ 1 := fun e => by
    unfold Dk.okE at hE
    rw [if_pos e] at hE; cases hE
  refine ⟨h0, ?_, fun hne => h.arm (fun e => hne (by show c.left - 1 = 0; omega)), ⟨sy, ?_⟩⟩
  · show (c.left == 1) = false
    simpa using hl
  · rw [hj, hs, List.length_append, List.length_singleton, ← Nat.add_assoc]
/-- Behind Sync, where the power went. -/
theorem LV.sync_off (h : LV w W p mb j n b9 A cut rv e0 e c L s va vs) (hJ : JS W1 p mb e' (Dk.tick c) (flU L)) (hd : e'.du = e.du) (hf : ∀ k, Dk.Foot p mb [e'] k → Dk.Foot p mb [e] k ∨ W.heap.size ≤ k) {la sy : Int} (hj : W1.heap[j]? = some (.cells (jV p A la sy) 72 (0, 0))) (st1 : Stay (fun k => Dk.Foot p mb [e] k ∨ k = j) W W1) :
    LV0 w W1 p mb j n b9 A rv e0 e' (Dk.tick c) L s va vs := by
  have hv := h.v
  have jlt := hv.jw
  have sw : w.heap.size ≤ W.heap.size := hv.st.size
  have hkk : ∀ (v : Value) (X : List Uq), EU.Row W v X → (∀ k, v.ownBlock = some k → w.heap.size ≤ k ∧ ¬ Dk.Foot p mb [e] k ∧ k ≠ b9) → EU.Row W1 v X ∧ ∀ k, v.ownBlock = some k → w.heap.size ≤ k ∧ ¬ Dk.Foot p mb [e'] k ∧ k ≠ b9 := fun v X hr hk => by
    refine ⟨row_kept hr st1 (fun k h1 h2 => ?_), fun k h1 => ⟨(hk k h1).1, fun h2 => ?_, (hk k h1).2.2⟩⟩
    · rcases h2 with h3 | h3
      · exact (hk k h1).2.1 h3
      · have := (hk k h1).1; omega
    · rcases hf k h2 with h3 | h3
      · exact (hk k h1).2.1 h3
      · have := row_lt hr h1; omega
  have k1 := hkk va _ hv.ra hv.ka
  have k2 := hkk vs _ hv.rs hv.ks
  have bx1 : W1.heap[b9]? = _ := (st1.block b9 (Array.getElem?_eq_some_iff.1 hv.bx).1 (fun hk => by
    rcases hk with h1 | h1
    · exact hv.bf h1
    · have := hv.b9w; omega)).trans hv.bx
  have hbf : ¬ Dk.Foot p mb [e'] b9 := fun hk => by
    rcases hf b9 hk with h1 | h1
    · exact hv.bf h1
    · have := (Array.getElem?_eq_some_iff.1 hv.bx).1; omega
  have hst : Stay (fun k => Dk.Foot p mb [e0] k ∨ k = j) w W1 := hv.st.andThen st1 (fun k hk h2 => by
    rcases h2 with h1 | h1
    · rcases hv.ft k h1 with h3 | h3
      · exact .inl h3
      · omega
    · exact .inr h1)
  have hft : ∀ k, Dk.Foot p mb [e'] k → Dk.Foot p mb [e0] k ∨ w.heap.size ≤ k := fun k hk => by
    rcases hf k hk with h1 | h1
    · exact hv.ft k h1
    · exact .inr (by omega)
  exact { js := hJ, age := hv.age, du := by rw [hd]; exact hv.du, sl := hv.sl, gn := hv.gn, jh := ⟨la, sy, hj⟩, bx := bx1, b9w := hv.b9w, jw := hv.jw, jf := hv.jf, bf := hbf, ra := k1.1, rs := k2.1, ka := k1.2, ks := k2.2, aps := hv.aps, st := hst, ft := hft }
/-- Behind Sync and the copy, where the power is on. -/
theorem LV.sync_on (h : LV w W p mb j n b9 A cut rv e0 e c L s va vs) (hE : Dk.okE c = 0) (hJ : JS W1 p mb e' (Dk.tick c) (flU L)) (hd : e'.du = (flU L).length) (hf : ∀ k, Dk.Foot p mb [e'] k → Dk.Foot p mb [e] k ∨ W.heap.size ≤ k) {sy : Int} (hj : W1.heap[j]? = some (.cells (jV p A (n + L.length : Nat) sy) 72 (0, 0))) (st1 : Stay (fun k => Dk.Foot p mb [e] k ∨ k = j) W W1)
    (hr : EU.Row W2 vs' (L.map upQ)) (ho : ∀ k, vs'.ownBlock = some k → W1.heap.size ≤ k) (b2 : Below W1.heap.size W1 W2) :
    LV w W2 p mb j n b9 A cut rv e0 e' (Dk.tick c) L L.length va vs' := by
  have hl : c.left ≠ 1 := fun e => by
    unfold Dk.okE at hE
    rw [if_pos e] at hE; cases hE
  have sw : w.heap.size ≤ W.heap.size := h.v.st.size
  have s1 : W.heap.size ≤ W1.heap.size := st1.size
  have hv := h.v
  have hkk : ∀ k, va.ownBlock = some k → w.heap.size ≤ k ∧ ¬ Dk.Foot p mb [e'] k ∧ k ≠ b9 := fun k h1 => ⟨(hv.ka k h1).1, fun h2 => by
    rcases hf k h2 with h3 | h3
    · exact (hv.ka k h1).2.1 h3
    · have := row_lt hv.ra h1; omega, (hv.ka k h1).2.2⟩
  have jlt := hv.jw
  have bx1 : W1.heap[b9]? = _ := (st1.block b9 (Array.getElem?_eq_some_iff.1 hv.bx).1 (fun hk => by
      rcases hk with h1 | h1
      · exact hv.bf h1
      · have := hv.b9w; omega)).trans hv.bx
  have ra1 : EU.Row W1 va (L.map upQ) := row_kept hv.ra st1 (fun k h1 h2 => by
    rcases h2 with h3 | h3
    · exact (hv.ka k h1).2.1 h3
    · have := (hv.ka k h1).1; omega)
  have hj2 := (b2.block j (Array.getElem?_eq_some_iff.1 hj).1).trans hj
  have hbf : ¬ Dk.Foot p mb [e'] b9 := fun hk => by
    rcases hf b9 hk with h1 | h1
    · exact hv.bf h1
    · have := (Array.getElem?_eq_some_iff.1 hv.bx).1; omega
  have hst : Stay (fun k => Dk.Foot p mb [e0] k ∨ k = j) w W2 := (hv.st.andThen st1 (fun k hk h2 => by
    rcases h2 with h1 | h1
    · rcases hv.ft k h1 with h3 | h3
      · exact .inl h3
      · omega
    · exact .inr h1)).trans (.below b2)
  have hft : ∀ k, Dk.Foot p mb [e'] k → Dk.Foot p mb [e0] k ∨ w.heap.size ≤ k := fun k hk => by
    rcases hf k hk with h1 | h1
    · exact hv.ft k h1
    · exact .inr (by omega)
  have hks : ∀ k, vs'.ownBlock = some k → w.heap.size ≤ k ∧ ¬ Dk.Foot p mb [e'] k ∧ k ≠ b9 := fun k hk => by
    have h8 := ho k hk
    refine ⟨by omega, fun h2 => ?_, fun h2 => ?_⟩
    · have := hJ.dk.lt h2; omega
    · have := (Array.getElem?_eq_some_iff.1 bx1).1; omega
  have hap : ∀ k, va.ownBlock = some k → vs'.ownBlock ≠ some k := fun k hk hk2 => by have := row_lt ra1 hk; have := ho k hk2; omega
  have hrt : EU.Row W2 vs' ((L.take L.length).map upQ) := by rw [List.take_length]; exact hr
  have hdu : e'.du = (flU (L.take L.length)).length := by rw [List.take_length]; exact hd
  refine ⟨{ js := hJ.below b2, age := hv.age, du := hdu, sl := Nat.le_refl _, gn := hv.gn, jh := ⟨_, sy, hj2⟩, bx := (b2.block b9 (Array.getElem?_eq_some_iff.1 bx1).1).trans bx1, b9w := hv.b9w, jw := hv.jw, jf := hv.jf, bf := hbf, ra := ra1.below b2, rs := hrt, ka := hkk, ks := hks, aps := hap, st := hst, ft := hft }, ?_, fun hne => h.arm (fun e => hne (by show c.left - 1 = 0; omega)), ⟨sy, hj2⟩⟩
  show (c.left == 1) = false
  simpa using hl
end
end Go.Proofs.YtcamnalmcghjfaaGreatDoor
