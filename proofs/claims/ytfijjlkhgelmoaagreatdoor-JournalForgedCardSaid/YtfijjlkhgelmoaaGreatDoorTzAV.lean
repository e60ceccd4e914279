/-
  DERIVED. JFor3, JOpenU, as one text.
-/
import Derived.Test.YtfijjlkhgelmoaaGreatDoorTzAU
import Derived.Deep.Slices
import Derived.WideShapes
import Derived.ChangeShapes
import Derived.SizedLaws
import Derived.ChangeSlices
set_option linter.unusedVariables false
set_option linter.unusedSimpArgs false
namespace Go.Proofs.YtfijjlkhgelmoaaGreatDoor
open Go.RowKit Go.Proofs.SealMath Go.Proofs.DiskMath
/-- A frame that does not go behind n updates. -/
def Bad (n : Nat) (t : ByteArray) : Prop := ∃ kb q, 1 ≤ kb ∧ kb ≤ 255 ∧ q.length ≤ 60 ∧ t.data.toList = frL kb q ∧ (unA kb ⟨q.toArray⟩ 64).1.s ≠ n + 1
theorem pv_le (n : Nat) : (pvL 9 n).length ≤ 10 := (pvL_len 9 n).2
theorem Bad.mk' {n kb : Nat} {q : List UInt8} {Q : ByteArray} (hQ : Q.data.toList = q) (h1 : 1 ≤ kb) (h2 : kb ≤ 255) (hq : q.length ≤ 60) (hs : (unA kb ⟨q.toArray⟩ 64).1.s ≠ n + 1) : Bad n ⟨(frL kb Q.data.toList).toArray⟩ :=
  ⟨kb, q, h1, h2, hq, by rw [hQ], hs⟩
theorem up_data {A B : ByteArray} {s i : Nat} (hA : A.data.toList = pvL 9 s) (hB : B.data.toList = pvL 9 i) : (A ++ B).data.toList = upP s i [] := by
  unfold upP
  rw [← hA, ← hB]; simp
theorem up_data2 {A B C : ByteArray} {s i : Nat} (hA : A.data.toList = pvL 9 s) (hB : B.data.toList = pvL 9 i) : (A ++ B ++ C).data.toList = upP s i C.data.toList := by
  unfold upP
  rw [← hA, ← hB]; simp
theorem bad_0 {n : Nat} {A B : ByteArray} (hA : A.data.toList = pvL 9 (n + 1)) (hB : B.data.toList = pvL 9 5) : Bad n ⟨(frL 3 (A ++ B).data.toList).toArray⟩ :=
  Bad.mk' (up_data hA hB) (by omega) (by omega) (by have := upP_len (n + 1) 5 []; simp at this; omega) (bad_zero (bad_kind _))
theorem bad_1 {n : Nat} {A B : ByteArray} (hn : n ≤ 1000) (hA : A.data.toList = pvL 9 (n + 2)) (hB : B.data.toList = pvL 9 5) : Bad n ⟨(frL 2 (A ++ B).data.toList).toArray⟩ :=
  Bad.mk' (up_data hA hB) (by omega) (by omega) (by have := upP_len (n + 2) 5 []; simp at this; omega) (bad_seq n (by omega))
theorem bad_2 {n : Nat} {A B : ByteArray} (hn : n ≤ 1000) (hA : A.data.toList = pvL 9 (n + 1)) (hB : B.data.toList = pvL 9 5) : Bad n ⟨(frL 1 (A ++ B ++ ⟨#[49, 50, 51, 52, 53, 54, 55]⟩).data.toList).toArray⟩ :=
  Bad.mk' (up_data2 hA hB) (by omega) (by omega) (by have := upP_len (n + 1) 5 [49, 50, 51, 52, 53, 54, 55]; simp at this; simpa using (by omega : (upP (n + 1) 5 [49, 50, 51, 52, 53, 54, 55]).length ≤ 60)) (bad_zero (bad_short n _ rfl (by omega)))
theorem bad_3 {n : Nat} {A B : ByteArray} (hn : n ≤ 1000) (hA : A.data.toList = pvL 9 (n + 1)) (hB : B.data.toList = pvL 9 5) : Bad n ⟨(frL 2 (A ++ B ++ ⟨#[120]⟩).data.toList).toArray⟩ :=
  Bad.mk' (up_data2 hA hB) (by omega) (by omega) (by have := upP_len (n + 1) 5 [120]; simp at this; simpa using (by omega : (upP (n + 1) 5 [120]).length ≤ 60)) (bad_zero (bad_behind n 120 (by omega)))
theorem bad_4 {n : Nat} {A B : ByteArray} (hn : n ≤ 1000) (hA : A.data.toList = pvL 9 (n + 1)) (hB : B.data.toList = pvL 9 281474976710657) : Bad n ⟨(frL 2 (A ++ B).data.toList).toArray⟩ :=
  Bad.mk' (up_data hA hB) (by omega) (by omega) (by have := upP_len (n + 1) 281474976710657 []; simp at this; omega) (bad_zero (bad_id n (by omega)))
theorem bad_5 {n : Nat} {A : ByteArray} (hn : n ≤ 1000) (hA : A.data.toList = pvL 9 (n + 1)) : Bad n ⟨(frL 2 A.data.toList).toArray⟩ :=
  Bad.mk' hA (by omega) (by omega) (by have := pv_le (n + 1); omega) (bad_zero (bad_none n (by omega)))
theorem Bad.size {n : Nat} {t : ByteArray} (h : Bad n t) : t.size ≤ 74 := by
  obtain ⟨kb, q, -, -, h3, h4, -⟩ := h
  rw [ba_len, h4, frL_len]; omega
/-- The first so many updates that the law writes. -/
def fL (In : List Uq) (i : Nat) : List Up := (List.range i).map fun j => goU (In.getD j (0, 0, 0, ⟨#[]⟩)).2.1 (In.getD j (0, 0, 0, ⟨#[]⟩)).2.2.1 (In.getD j (0, 0, 0, ⟨#[]⟩)).2.2.2 (j + 1)
theorem fL_len (In : List Uq) (i : Nat) : (fL In i).length = i := by simp [fL]
theorem fL_succ (In : List Uq) (i : Nat) (h : i < In.length) : fL In (i + 1) = fL In i ++ [goU In[i].2.1 In[i].2.2.1 In[i].2.2.2 (i + 1)] := by
  unfold fL
  rw [List.range_succ, List.map_append, List.map_singleton]
  simp [h]
theorem go_good (k i : Int) (c : ByteArray) (s : Nat) (hs : 1 ≤ s ∧ s ≤ 1000) : Gu (goU k i c s) := by
  have hl := codeL_len c
  by_cases h : k % 2 = 0
  · have e : goU k i c s = ⟨s, 1, (i % 281474976710657).toNat, codeL c⟩ := by unfold goU; rw [if_pos h, h]; rfl
    rw [e]
    exact ⟨.inl rfl, ⟨hs.1, by show s ≤ _; omega⟩, by show (i % 281474976710657).toNat ≤ _; omega, by show (codeL c).length ≤ 8; omega, by show fitB 1 (codeL c).length 64 = true; rw [hl]; decide⟩
  · have h1 : k % 2 = 1 := by omega
    have e : goU k i c s = ⟨s, 2, (i % 281474976710657).toNat, []⟩ := by unfold goU; rw [if_neg h, h1]; rfl
    rw [e]
    exact ⟨.inr rfl, ⟨hs.1, by show s ≤ _; omega⟩, by show (i % 281474976710657).toNat ≤ _; omega, by show (0 : Nat) ≤ 8; omega, by show fitB 2 0 64 = true; decide⟩
theorem fL_good (In : List Uq) (i : Nat) (hi : i ≤ 900) : GL (fL In i) := by
  refine ⟨fun u hu => ?_, fun j u hj => ?_⟩
  · obtain ⟨j, hj, rfl⟩ := List.mem_map.1 hu
    exact go_good _ _ _ _ ⟨by omega, by have := List.mem_range.1 hj; omega⟩
  · unfold fL at hj
    rw [List.getElem?_map] at hj
    have hlt : j < i := by
      rcases Nat.lt_or_ge j i with h | h
      · exact h
      · rw [List.getElem?_eq_none (by simpa using h)] at hj; cases hj
    rw [List.getElem?_range hlt] at hj
    simp only [Option.map_some, Option.some.injEq] at hj
    rw [← hj]; rfl
theorem flU_snoc (L : List Up) (u : Up) : flU (L ++ [u]) = flU L ++ frU u := by simp [flU]
theorem flU_le {L : List Up} (h : ∀ u ∈ L, Gu u) : (flU L).length ≤ 42 * L.length := by
  induction L with
  | nil => simp [flU]
  | cons u L ih =>
    have h1 := (frU_len (h u (by simp))).2
    have h2 := ih (fun v hv => h v (by simp [hv]))
    simp only [flU, List.flatMap_cons, List.length_append, List.length_cons] at h2 ⊢
    omega
/-- What Write makes of an update that goes. -/
theorem wr_good {u : Up} (h : Gu u) : wE u.s u.k u.i (⟨u.c.toArray⟩ : ByteArray).size = 0 ∧ wT u.s u.k u.i ⟨u.c.toArray⟩ = frU u := by
  have hsz : (⟨u.c.toArray⟩ : ByteArray).size = u.c.length := by rw [ba_len]
  have hf : (u.k = 1 ∧ 8 ≤ u.c.length ∧ u.c.length ≤ 128 ∧ u.c.length % 8 = 0) ∨ (u.k = 2 ∧ u.c.length = 0) := (fit_n h.k (by decide) h.f).1
  have e0 : wE u.s u.k u.i (⟨u.c.toArray⟩ : ByteArray).size = 0 := by rw [hsz]; exact wE_up h.k h.s h.i hf
  exact ⟨e0, by unfold wT; rw [if_pos e0]; rfl⟩
end Go.Proofs.YtfijjlkhgelmoaaGreatDoor
set_option linter.unusedVariables false
set_option linter.unusedSimpArgs false
namespace Go.Proofs.YtfijjlkhgelmoaaGreatDoor
open Go.RowKit Go.ChangeShapes Go.WideShapes Go.Deep
theorem add_plain (b off j : Nat) : (⟨b, off, none⟩ : Addr).add j = ⟨b, off + j, none⟩ := by unfold Addr.add; split <;> simp_all
theorem cells3 : Tryz.prog.cellsOf 3 = 1 := by kernel_rfl
theorem cells9 : Tryz.prog.cellsOf 9 = 1 := by kernel_rfl
theorem cellsUp : Tryz.prog.cellsOf 30 = 4 := by kernel_rfl
theorem laidOut : laidOutB Tryz.prog = true := by kernel_rfl
theorem bytesUp : Tryz.prog.bytesOf 30 = 40 := by kernel_rfl
abbrev I64 (n : Int) : Prop := -9223372036854775808 ≤ n ∧ n < 9223372036854775808
theorem i64_wf {n : Int} (h : (Lit.int .i64 n).wf = true) : I64 n := by
  have e1 : IntKind.i64.min = -9223372036854775808 := rfl
  have e2 : IntKind.i64.max = 9223372036854775807 := rfl
  simp [Lit.wf, e1, e2] at h
  exact ⟨h.1, by omega⟩
theorem weights_in {H : Type} {P : Program} {e : TypeId} : ∀ {ds : List (DataW H)} {d : DataW H} {n : Nat}, d ∈ ds → n ∈ d.weights P e → n ∈ DataW.weightsAll P e ds
  | d' :: ds, d, n, hd, hn => by
    unfold DataW.weightsAll
    rcases List.mem_cons.1 hd with rfl | h
    · exact List.mem_append_left _ hn
    · exact List.mem_append_right _ (weights_in h hn)
set_option maxRecDepth 100000 in
theorem uq_trod {H : Type} {enc : TypeId × Value → H} {W : World} {base : Nat} {spare : Nat → Bool} {held : Bool} {fuel : Nat} {cs : List Value} {x : DataW H × List MemPlace}
    (h : DataW.trod enc Tryz.prog W base spare held fuel 30 cs = some x) : ∃ e : Uq, cs = EU.f e ∧ I64 e.2.1 ∧ I64 e.2.2.1 ∧ ∃ y0 y1 y2, x.1 = .agg [y0, y1, y2, .lit (.string e.2.2.2.data.toList)] := by
  obtain ⟨xs, k, hk, hxy, hlen, hxl, hf⟩ := DataW.trod_struct Tryz.underlying30 h
  rw [cellsUp] at hlen
  match xs, hxl, cs, hlen with
  | [y0, y1, y2, y3], _, [v0, v1, v2, v3], _ =>
    have g0 := hf 0 _ rfl
    have g1 := hf 1 _ rfl
    have g2 := hf 2 _ rfl
    have g3 := hf 3 _ rfl
    simp [cells3] at g0 g1 g2
    simp [cells9] at g3
    obtain ⟨z0, hz0, _, w0⟩ := DataW.trod_int Tryz.underlying3 g0
    obtain ⟨z1, hz1, _, w1⟩ := DataW.trod_int Tryz.underlying3 g1
    obtain ⟨z2, hz2, _, w2⟩ := DataW.trod_int Tryz.underlying3 g2
    obtain ⟨z3, hz3, hd3, _⟩ := DataW.trod_string Tryz.underlying9 g3
    simp at hz0 hz1 hz2 hz3
    subst hz0 hz1 hz2 hz3
    exact ⟨(z0, z1, z2, z3), rfl, i64_wf w1, i64_wf w2, y0.1, y1.1, y2.1, by rw [hxy]; simp [hd3]⟩
theorem flat_to4 {W : World} {b off : Nat} {l : List Uq} (h : ∀ i (hi : i < l.length) j v, (EU.f l[i])[j]? = some v → W.cell? ⟨b, off + (i * 4 + j), none⟩ = some v) : ∀ j x, (l.flatMap EU.f)[j]? = some x → W.cell? ⟨b, off + j, none⟩ = some x := fun j x hx => by
  have hj : j < l.length * 4 := by
    have h1 := Rw.El.Ok.len okEU l
    have h2 := (List.getElem?_eq_some_iff.1 hx).1
    rw [h1] at h2
    exact h2
  have hi : j / 4 < l.length := by omega
  have hr : j % 4 < 4 := by omega
  have e : j / 4 * 4 + j % 4 = j := by omega
  have h1 := Rw.flat_at EU.f 4 (fun _ => rfl) l (j / 4) (j % 4) hi hr
  rw [e, hx] at h1
  have h2 := h (j / 4) hi (j % 4) x h1.symm
  rw [e] at h2
  exact h2
set_option maxRecDepth 100000 in
theorem open_uqs {H : Type} {enc : TypeId × Value → H} {W : World} {base : Nat} {spare : Nat → Bool} {held : Bool} {fuel : Nat} {a0 : Option Addr} {len cap : Nat} {d : DataW H} {ps : List MemPlace}
    (h : DataW.trod enc Tryz.prog W base spare held fuel 22 [.slice a0 len cap] = some (d, ps)) (hsz : ∀ n ∈ d.weights Tryz.prog 22, n ≤ reachBytes) :
    ∃ l : List Uq, l.length = len ∧ EU.At W a0 l ∧ l.length ≤ 3518437208780 ∧ (∀ e ∈ l, I64 e.2.1 ∧ I64 e.2.2.1 ∧ e.2.2.2.size ≤ 140737488351232) ∧ len ≤ cap := by
  rcases open_slice Tryz.underlying22 h with ⟨hcs, _⟩ | ⟨a, len', cap', m, n, D, Pl, hcs, _, hlc, _, hm, hx, hel⟩
  · simp at hcs
    obtain ⟨rfl, rfl, rfl⟩ := hcs
    exact ⟨[], rfl, ⟨fun h => absurd rfl h⟩, by simp, fun e he => (by cases he), Nat.le_refl _⟩
  · simp at hcs
    obtain ⟨rfl, rfl, rfl⟩ := hcs
    have hlm : len ≤ m := by rw [hm]; split <;> omega
    simp only [Prod.mk.injEq] at hx
    obtain ⟨hd, hps⟩ := hx
    have each : ∀ i, i < len → ∃ e : Uq, (∀ j v, (EU.f e)[j]? = some v → W.cell? ((a.add (i * 4)).add j) = some v) ∧ (I64 e.2.1 ∧ I64 e.2.2.1 ∧ e.2.2.2.size ≤ 140737488351232) := by
      intro i hi
      obtain ⟨cs', h1, h2⟩ := hel i (by omega)
      rw [cellsUp] at h1
      obtain ⟨_, hlen, hcell⟩ := World.cells?_some h1
      obtain ⟨e, rfl, i1, i2, y0, y1, y2, hD⟩ := uq_trod h2
      refine ⟨e, fun j v hv => ?_, i1, i2, ?_⟩
      · have hj : j < 4 := by have := (List.getElem?_eq_some_iff.1 hv).1; simpa [EU] using this
        rw [hcell j hj, hv]
      · have hw := hsz e.2.2.2.data.toList.length (by
          rw [hd]
          unfold DataW.weights
          rw [Tryz.underlying22]
          refine List.mem_cons_of_mem _ (List.mem_append_left _ (weights_in (d := D i) (List.mem_map.2 ⟨i, List.mem_range.2 hi, rfl⟩) ?_))
          have hD' : D i = .agg [y0, y1, y2, .lit (.string e.2.2.2.data.toList)] := hD
          rw [hD']
          unfold DataW.weights
          rw [Tryz.underlying30]
          show _ ∈ DataW.weightsEach Tryz.prog (3 :: 3 :: 3 :: 9 :: _) (y0 :: y1 :: y2 :: .lit (.string e.2.2.2.data.toList) :: _)
          unfold DataW.weightsEach
          refine List.mem_append_right _ ?_
          unfold DataW.weightsEach
          refine List.mem_append_right _ ?_
          unfold DataW.weightsEach
          refine List.mem_append_right _ ?_
          unfold DataW.weightsEach
          refine List.mem_append_left _ ?_
          unfold DataW.weights
          exact List.mem_singleton.2 rfl)
        have e1 : e.2.2.2.size = e.2.2.2.data.toList.length := by simp
        have : reachBytes = 140737488351232 := by decide
        omega
    haveI : Inhabited Uq := ⟨(0, 0, 0, ⟨#[]⟩)⟩
    obtain ⟨F, hF⟩ := choose_lt each
    have hlen : len ≤ 3518437208780 := by
      have hw := hsz ((((List.range len).map D).length + ((List.range (m - len)).map fun j => D (len + j)).length) * Tryz.prog.bytesOf 30) (by
        rw [hd]
        unfold DataW.weights
        rw [Tryz.underlying22]
        exact List.mem_cons_self)
      rw [bytesUp] at hw
      simp at hw
      have : reachBytes = 140737488351232 := by decide
      omega
    refine ⟨(List.range len).map F, by simp, ⟨fun hne => ?_⟩, by simpa using hlen, fun e he => ?_, hlc⟩
    · have hl0 : 0 < len := by
        rcases Nat.eq_zero_or_pos len with h0 | h0
        · subst h0; simp at hne
        · exact h0
      obtain ⟨b, off, spot⟩ := a
      have hsp : spot = none := by
        have := World.cell?_spot ((hF 0 hl0).1 0 _ rfl)
        simpa [Addr.add] using this
      subst hsp
      refine ⟨b, off, rfl, flat_to4 fun i hi j v hv => ?_⟩
      have hi' : i < len := by simpa using hi
      have h1 := (hF i hi').1 j v (by simpa using hv)
      rw [add_plain, add_plain, Nat.add_assoc] at h1
      exact h1
    · obtain ⟨i, hi, rfl⟩ := List.mem_map.1 he
      exact (hF i (List.mem_range.1 hi)).2
end Go.Proofs.YtfijjlkhgelmoaaGreatDoor
