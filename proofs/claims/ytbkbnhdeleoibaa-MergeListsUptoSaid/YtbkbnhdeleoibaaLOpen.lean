/-
  DERIVED. Lists of lists of entries that came in, opened; what their bulk bounds.
-/
import Derived.Test.YtbkbnhdeleoibaaMOpen
import Derived.Test.YtbkbnhdeleoibaaLLs
import Derived.SizedLaws
import Derived.ChangeSlices
set_option linter.unusedVariables false
set_option linter.unusedSimpArgs false
namespace Go.Proofs.Ytbkbnhdeleoibaa
open Go.RowKit Go.ChangeShapes Go.WideShapes Go.Deep
set_option maxRecDepth 100000 in
/-- What an entry reads as, with its data. -/
theorem en_trod2 {H : Type} {enc : TypeId × Value → H} {W : World} {base : Nat} {spare : Nat → Bool} {held : Bool} {fuel : Nat} {cs : List Value} {x : DataW H × List MemPlace}
    (h : DataW.trod enc Try.prog W base spare held fuel 36 cs = some x) : ∃ e : En, cs = enC e ∧ ∃ y0 y2 y3 y4, x.1 = .agg [y0, .lit (.string e.c.data.toList), y2, y3, y4] := by
  obtain ⟨xs, k, hk, hxy, hlen, hxl, hf⟩ := DataW.trod_struct Try.underlying36 h
  rw [cellsEn] at hlen
  match xs, hxl, cs, hlen with
  | [y0, y1, y2, y3, y4], _, [v0, v1, v2, v3, v4], _ =>
    have g0 := hf 0 _ rfl
    have g1 := hf 1 _ rfl
    have g2 := hf 2 _ rfl
    have g3 := hf 3 _ rfl
    have g4 := hf 4 _ rfl
    simp [cells3] at g0 g2 g3
    simp [cells9] at g1
    simp [cells4] at g4
    obtain ⟨z0, hz0, _⟩ := DataW.trod_int Try.underlying3 g0
    obtain ⟨z1, hz1, hd1, _⟩ := DataW.trod_string Try.underlying9 g1
    obtain ⟨z2, hz2, _⟩ := DataW.trod_int Try.underlying3 g2
    obtain ⟨z3, hz3, _⟩ := DataW.trod_int Try.underlying3 g3
    obtain ⟨z4, hz4, _⟩ := DataW.trod_bool Try.underlying4 g4
    simp at hz0 hz1 hz2 hz3 hz4
    subst hz0 hz1 hz2 hz3 hz4
    exact ⟨⟨z0, z1, z2, z3, z4⟩, rfl, y0.1, y2.1, y3.1, y4.1, by rw [hxy]; simp [hd1]⟩
theorem weights_in {H : Type} {P : Program} {e : TypeId} : ∀ {ds : List (DataW H)} {d : DataW H} {n : Nat}, d ∈ ds → n ∈ d.weights P e → n ∈ DataW.weightsAll P e ds
  | d' :: ds, d, n, hd, hn => by
    unfold DataW.weightsAll
    rcases List.mem_cons.1 hd with rfl | h
    · exact List.mem_append_left _ hn
    · exact List.mem_append_right _ (weights_in h hn)
set_option maxRecDepth 100000 in
theorem open_ens2 {H : Type} {enc : TypeId × Value → H} {W : World} {base : Nat} {spare : Nat → Bool} {held : Bool} {fuel : Nat} {a0 : Option Addr} {len cap : Nat} {d : DataW H} {ps : List MemPlace}
    (h : DataW.trod enc Try.prog W base spare held fuel 24 [.slice a0 len cap] = some (d, ps)) (hsz : ∀ n ∈ d.weights Try.prog 24, n ≤ reachBytes) :
    ∃ l : List En, l.length = len ∧ LAt W a0 l ∧ l.length < 4611686018427387904 ∧ ∀ e ∈ l, e.c.size ≤ 281474976710656 := by
  rcases open_slice Try.underlying24 h with ⟨hcs, _⟩ | ⟨a, len', cap', m, n, D, Pl, hcs, _, _, _, hm, hx, hel⟩
  · simp at hcs
    obtain ⟨rfl, rfl, rfl⟩ := hcs
    exact ⟨[], rfl, ⟨fun h => absurd rfl h⟩, by simp, fun e he => by cases he⟩
  · simp at hcs
    obtain ⟨rfl, rfl, rfl⟩ := hcs
    have hlm : len ≤ m := by rw [hm]; split <;> omega
    simp only [Prod.mk.injEq] at hx
    obtain ⟨hd, hps⟩ := hx
    have each : ∀ i, i < len → ∃ e : En, (∀ j v, (enC e)[j]? = some v → W.cell? ((a.add (i * 5)).add j) = some v) ∧ e.c.size ≤ 281474976710656 := by
      intro i hi
      obtain ⟨cs', h1, h2⟩ := hel i (by omega)
      rw [cellsEn] at h1
      obtain ⟨_, hlen, hcell⟩ := World.cells?_some h1
      obtain ⟨e, rfl, y0, y2, y3, y4, hD⟩ := en_trod2 h2
      refine ⟨e, fun j v hv => ?_, ?_⟩
      · have hj : j < 5 := by have := (List.getElem?_eq_some_iff.1 hv).1; simpa [enC] using this
        rw [hcell j hj, hv]
      · have hw := hsz e.c.data.toList.length (by
          rw [hd]
          unfold DataW.weights
          rw [Try.underlying24]
          refine List.mem_cons_of_mem _ (List.mem_append_left _ (weights_in (d := D i) (List.mem_map.2 ⟨i, List.mem_range.2 hi, rfl⟩) ?_))
          have hD' : D i = .agg [y0, .lit (.string e.c.data.toList), y2, y3, y4] := hD
          rw [hD']
          unfold DataW.weights
          rw [Try.underlying36]
          show _ ∈ DataW.weightsEach Try.prog (3 :: 9 :: _) (y0 :: .lit (.string e.c.data.toList) :: _)
          unfold DataW.weightsEach
          refine List.mem_append_right _ ?_
          unfold DataW.weightsEach
          refine List.mem_append_left _ ?_
          unfold DataW.weights
          exact List.mem_singleton.2 rfl)
        rw [nm_size] at hw
        have : reachBytes = 140737488351232 := by decide
        omega
    haveI : Inhabited En := ⟨e0⟩
    obtain ⟨F, hF⟩ := choose_lt each
    have hlen : len < 4611686018427387904 := by
      have hw := hsz ((((List.range len).map D).length + ((List.range (m - len)).map fun j => D (len + j)).length) * Try.prog.bytesOf 36) (by
        rw [hd]
        unfold DataW.weights
        rw [Try.underlying24]
        exact List.mem_cons_self)
      rw [bytesEn] at hw
      simp at hw
      have : reachBytes = 140737488351232 := by decide
      omega
    refine ⟨(List.range len).map F, by simp, ⟨fun hne => ?_⟩, by simpa using hlen, fun e he => ?_⟩
    · have hl0 : 0 < len := by
        rcases Nat.eq_zero_or_pos len with h0 | h0
        · subst h0; simp at hne
        · exact h0
      obtain ⟨b, off, spot⟩ := a
      have hsp : spot = none := by
        have := World.cell?_spot ((hF 0 hl0).1 0 _ rfl)
        simpa [Addr.add] using this
      subst hsp
      refine ⟨b, off, rfl, flat_to fun i hi j v hv => ?_⟩
      have hi' : i < len := by simpa using hi
      have h1 := (hF i hi').1 j v (by simpa using hv)
      rw [add_plain, add_plain, Nat.add_assoc] at h1
      exact h1
    · obtain ⟨i, hi, rfl⟩ := List.mem_map.1 he
      exact (hF i (List.mem_range.1 hi)).2
theorem cellsEns : Try.prog.cellsOf 24 = 1 := by kernel_rfl
theorem bulk_pos {H : Type} (d : DataW H) : 1 ≤ Rows.uptoBulk d := by
  cases d with
  | lit l => cases l <;> simp [Rows.uptoBulk]
  | nil => simp [Rows.uptoBulk]
  | ptr d => simp [Rows.uptoBulk]
  | slice e s => simp [Rows.uptoBulk]
  | agg p => simp [Rows.uptoBulk]
  | iface t d => simp [Rows.uptoBulk]
  | map e => simp [Rows.uptoBulk]
  | held h => simp [Rows.uptoBulk]
theorem bulk_len {H : Type} : ∀ l : List (DataW H), l.length ≤ Rows.uptoBulkAll l
  | [] => Nat.zero_le _
  | d :: l => by
    have h1 := bulk_pos d
    have h2 := bulk_len l
    simp only [Rows.uptoBulkAll, List.length_cons]; omega
theorem bulk_flat {H : Type} : ∀ (R : List (List En)) (ds : List (DataW H)), R.length = ds.length → (∀ (i : Nat) (r : List En) (d : DataW H), R[i]? = some r → ds[i]? = some d → r.length ≤ Rows.uptoBulk d) → R.flatten.length ≤ Rows.uptoBulkAll ds
  | [], ds, _, _ => by simp
  | r :: R, [], h, _ => by simp at h
  | r :: R, d :: ds, h, hh => by
    have h1 := hh 0 r d rfl rfl
    have h2 := bulk_flat R ds (by simpa using h) (fun i r' d' hr hd => hh (i + 1) r' d' (by simpa using hr) (by simpa using hd))
    simp only [Rows.uptoBulkAll, List.flatten_cons, List.length_append]; omega
theorem open_len {H : Type} {enc : TypeId × Value → H} {W : World} {base : Nat} {spare : Nat → Bool} {held : Bool} {fuel : Nat} {a0 : Option Addr} {len cap : Nat} {d : DataW H} {ps : List MemPlace}
    (h : DataW.trod enc Try.prog W base spare held fuel 24 [.slice a0 len cap] = some (d, ps)) : len ≤ Rows.uptoBulk d := by
  rcases open_slice Try.underlying24 h with ⟨hcs, _⟩ | ⟨a, len', cap', m, n, D, Pl, hcs, _, _, _, hm, hx, hel⟩
  · simp at hcs; omega
  · simp at hcs
    obtain ⟨rfl, rfl, rfl⟩ := hcs
    simp only [Prod.mk.injEq] at hx
    rw [hx.1]
    have := bulk_len ((List.range len).map D)
    simp only [Rows.uptoBulk]
    simp at this
    omega
set_option maxRecDepth 100000 in
theorem open_lists {H : Type} {enc : TypeId × Value → H} {W : World} {base : Nat} {spare : Nat → Bool} {held : Bool} {fuel : Nat} {a0 : Option Addr} {len cap : Nat} {d : DataW H} {ps : List MemPlace}
    (h : DataW.trod enc Try.prog W base spare held fuel 22 [.slice a0 len cap] = some (d, ps)) (hsz : ∀ n ∈ d.weights Try.prog 22, n ≤ reachBytes) :
    ∃ R : List (List En), R.length = len ∧ LL W a0 R ∧ (∀ r ∈ R, ∀ x ∈ r, x.c.size ≤ 281474976710656) ∧ R.length ≤ Rows.uptoBulk d ∧ R.flatten.length ≤ Rows.uptoBulk d ∧ R.length ≤ cap := by
  rcases open_slice1 Try.underlying22 cellsEns h with ⟨hcs, _⟩ | ⟨a, len', cap', m, n, V, D, Pl, hcs, _, hlc, _, hm, hx, hel⟩
  · simp at hcs
    obtain ⟨rfl, rfl, rfl⟩ := hcs
    exact ⟨[], rfl, ⟨fun i r hr => by simp at hr⟩, fun r hr => by simp at hr, Nat.zero_le _, by simp, Nat.zero_le _⟩
  · simp at hcs
    obtain ⟨rfl, rfl, rfl⟩ := hcs
    have hlm : len ≤ m := by rw [hm]; split <;> omega
    simp only [Prod.mk.injEq] at hx
    obtain ⟨hd, hps⟩ := hx
    have each : ∀ i, i < len → ∃ r : List En, (∃ ai ci, W.cell? (a.add i) = some (.slice ai r.length ci) ∧ r.length ≤ ci ∧ LAt W ai r ∧ r.length < 4611686018427387904) ∧ (∀ x ∈ r, x.c.size ≤ 281474976710656) ∧ r.length ≤ Rows.uptoBulk (D i) := by
      intro i hi
      obtain ⟨h1, h2⟩ := hel i (by omega)
      have hsh : ∃ ai li ci, V i = .slice ai li ci ∧ li ≤ ci := by
        rcases open_slice Try.underlying24 h2 with ⟨hcs, _⟩ | ⟨b, l', c', _, _, _, _, hcs, _, hlc', _⟩
        · simp at hcs; exact ⟨none, 0, 0, hcs, Nat.le_refl _⟩
        · simp at hcs; exact ⟨some b, l', c', hcs, hlc'⟩
      obtain ⟨ai, li, ci, hV, hlci⟩ := hsh
      rw [hV] at h1 h2
      obtain ⟨l, hl, hL, hl62, hW⟩ := open_ens2 h2 (fun n hn => hsz n (by
        rw [hd]
        unfold DataW.weights
        rw [Try.underlying22]
        exact List.mem_cons_of_mem _ (List.mem_append_left _ (weights_in (d := D i) (List.mem_map.2 ⟨i, List.mem_range.2 hi, rfl⟩) hn))))
      exact ⟨l, ⟨ai, ci, by rw [hl]; exact h1, by rw [hl]; exact hlci, hL, hl62⟩, hW, by rw [hl]; exact open_len h2⟩
    obtain ⟨F, hF⟩ := choose_lt each
    refine ⟨(List.range len).map F, by simp, ⟨fun i r hr => ?_⟩, fun r hr x hx => ?_, ?_, ?_, by simpa using hlc⟩
    · obtain ⟨h1, h2⟩ := List.getElem?_eq_some_iff.1 hr
      have hi : i < len := by simpa using h1
      have hr' : F i = r := by simpa using h2
      obtain ⟨⟨ai, ci, hc, hcp, hL, h62⟩, -, -⟩ := hF i hi
      obtain ⟨⟨aj, cj, hc0, -, -⟩, -, -⟩ := hF 0 (by omega)
      rw [hr'] at hc hL hcp h62
      obtain ⟨b, off, spot⟩ := a
      have hsp : spot = none := by
        have := World.cell?_spot hc0
        simpa [Addr.add] using this
      subst hsp
      rw [add_plain] at hc
      exact ⟨b, off, ai, ci, rfl, hc, hcp, hL, h62⟩
    · obtain ⟨i, hi, rfl⟩ := List.mem_map.1 hr
      exact (hF i (List.mem_range.1 hi)).2.1 x hx
    · rw [hd]
      have := bulk_len ((List.range len).map D)
      simp only [Rows.uptoBulk]
      simp at this ⊢
      omega
    · rw [hd]
      have := bulk_flat ((List.range len).map F) ((List.range len).map D) (by simp) (fun i r dd hr hdd => by
        obtain ⟨h1, h2⟩ := List.getElem?_eq_some_iff.1 hr
        obtain ⟨h3, h4⟩ := List.getElem?_eq_some_iff.1 hdd
        have hi : i < len := by simpa using h1
        have e1 : F i = r := by simpa using h2
        have e2 : D i = dd := by simpa using h4
        have := (hF i hi).2.2
        rw [e1, e2] at this
        exact this)
      simp only [Rows.uptoBulk]
      omega
end Go.Proofs.Ytbkbnhdeleoibaa
