/-
  DERIVED. Lists of lists that came in, opened; what their bulk bounds.
-/
import Derived.Test.YtecddamjolekmaaEOpen
import Derived.Test.YtecddamjolekmaaEParts0
set_option linter.unusedVariables false
set_option linter.unusedSimpArgs false
namespace Go.Proofs.Ytecddamjolekmaa
open Go.RowKit Go.ChangeShapes Go.WideShapes Go.Deep
theorem cellsHs : Try.prog.cellsOf 24 = 1 := by kernel_rfl
theorem bulk_pos {H : Type} (d : DataW H) : 1 ≤ Rows.uptoBulk d := by
  cases d with
  | lit l => cases l <;> simp [Rows.uptoBulk]
  | nil => simp [Rows.uptoBulk]
  | ptr d => simp [Rows.uptoBulk]
  | slice e s => simp [Rows.uptoBulk]
  | agg p => simp [Rows.uptoBulk]
  | iface t d => simp [Rows.uptoBulk]
  | map e => simp [Rows.uptoBulk]
  | held h => simp [Rows.uptoBulk]
theorem bulk_len {H : Type} : ∀ l : List (DataW H), l.length ≤ Rows.uptoBulkAll l
  | [] => Nat.zero_le _
  | d :: l => by
    have h1 := bulk_pos d
    have h2 := bulk_len l
    simp only [Rows.uptoBulkAll, List.length_cons]; omega
theorem bulk_flat {H : Type} : ∀ (R : List (List Ht)) (ds : List (DataW H)), R.length = ds.length → (∀ (i : Nat) (r : List Ht) (d : DataW H), R[i]? = some r → ds[i]? = some d → r.length ≤ Rows.uptoBulk d) → R.flatten.length ≤ Rows.uptoBulkAll ds
  | [], ds, _, _ => by simp
  | r :: R, [], h, _ => by simp at h
  | r :: R, d :: ds, h, hh => by
    have h1 := hh 0 r d rfl rfl
    have h2 := bulk_flat R ds (by simpa using h) (fun i r' d' hr hd => hh (i + 1) r' d' (by simpa using hr) (by simpa using hd))
    simp only [Rows.uptoBulkAll, List.flatten_cons, List.length_append]; omega
theorem open_len {H : Type} {enc : TypeId × Value → H} {W : World} {base : Nat} {spare : Nat → Bool} {held : Bool} {fuel : Nat} {a0 : Option Addr} {len cap : Nat} {d : DataW H} {ps : List MemPlace}
    (h : DataW.trod enc Try.prog W base spare held fuel 24 [.slice a0 len cap] = some (d, ps)) : len ≤ Rows.uptoBulk d := by
  rcases open_slice Try.underlying24 h with ⟨hcs, _⟩ | ⟨a, len', cap', m, n, D, Pl, hcs, _, _, _, hm, hx, hel⟩
  · simp at hcs; omega
  · simp at hcs
    obtain ⟨rfl, rfl, rfl⟩ := hcs
    simp only [Prod.mk.injEq] at hx
    rw [hx.1]
    have := bulk_len ((List.range len).map D)
    simp only [Rows.uptoBulk]
    simp at this
    omega
set_option maxRecDepth 100000 in
theorem open_lists {H : Type} {enc : TypeId × Value → H} {W : World} {base : Nat} {spare : Nat → Bool} {held : Bool} {fuel : Nat} {a0 : Option Addr} {len cap : Nat} {d : DataW H} {ps : List MemPlace}
    (h : DataW.trod enc Try.prog W base spare held fuel 22 [.slice a0 len cap] = some (d, ps)) (hsz : ∀ n ∈ d.weights Try.prog 22, n ≤ reachBytes) :
    ∃ R : List (List Ht), R.length = len ∧ LL W a0 R ∧ (∀ r ∈ R, ∀ x ∈ r, HtW x) ∧ R.length ≤ Rows.uptoBulk d ∧ R.flatten.length ≤ Rows.uptoBulk d ∧ R.length ≤ cap := by
  rcases open_slice1 Try.underlying22 cellsHs h with ⟨hcs, _⟩ | ⟨a, len', cap', m, n, V, D, Pl, hcs, _, hlc, _, hm, hx, hel⟩
  · simp at hcs
    obtain ⟨rfl, rfl, rfl⟩ := hcs
    exact ⟨[], rfl, ⟨fun i r hr => by simp at hr⟩, fun r hr => by simp at hr, Nat.zero_le _, by simp, Nat.zero_le _⟩
  · simp at hcs
    obtain ⟨rfl, rfl, rfl⟩ := hcs
    have hlm : len ≤ m := by rw [hm]; split <;> omega
    simp only [Prod.mk.injEq] at hx
    obtain ⟨hd, hps⟩ := hx
    have each : ∀ i, i < len → ∃ r : List Ht, (∃ ai ci, W.cell? (a.add i) = some (.slice ai r.length ci) ∧ LAt W ai r) ∧ (∀ x ∈ r, HtW x) ∧ r.length ≤ Rows.uptoBulk (D i) := by
      intro i hi
      obtain ⟨h1, h2⟩ := hel i (by omega)
      have hsh : ∃ ai li ci, V i = .slice ai li ci := by
        rcases open_slice Try.underlying24 h2 with ⟨hcs, _⟩ | ⟨b, l', c', _, _, _, _, hcs, _⟩
        · simp at hcs; exact ⟨none, 0, 0, hcs⟩
        · simp at hcs; exact ⟨some b, l', c', hcs⟩
      obtain ⟨ai, li, ci, hV⟩ := hsh
      rw [hV] at h1 h2
      obtain ⟨l, hl, hL, -, hW⟩ := open_ens2 h2 (fun n hn => hsz n (by
        rw [hd]
        unfold DataW.weights
        rw [Try.underlying22]
        exact List.mem_cons_of_mem _ (List.mem_append_left _ (weights_in (d := D i) (List.mem_map.2 ⟨i, List.mem_range.2 hi, rfl⟩) hn))))
      exact ⟨l, ⟨ai, ci, by rw [hl]; exact h1, hL⟩, hW, by rw [hl]; exact open_len h2⟩
    obtain ⟨F, hF⟩ := choose_lt each
    refine ⟨(List.range len).map F, by simp, ⟨fun i r hr => ?_⟩, fun r hr x hx => ?_, ?_, ?_, by simpa using hlc⟩
    · obtain ⟨h1, h2⟩ := List.getElem?_eq_some_iff.1 hr
      have hi : i < len := by simpa using h1
      have hr' : F i = r := by simpa using h2
      obtain ⟨⟨ai, ci, hc, hL⟩, -, -⟩ := hF i hi
      obtain ⟨⟨aj, cj, hc0, -⟩, -, -⟩ := hF 0 (by omega)
      rw [hr'] at hc hL
      obtain ⟨b, off, spot⟩ := a
      have hsp : spot = none := by
        have := World.cell?_spot hc0
        simpa [Addr.add] using this
      subst hsp
      rw [add_plain] at hc
      exact ⟨b, off, ai, ci, rfl, hc, hL⟩
    · obtain ⟨i, hi, rfl⟩ := List.mem_map.1 hr
      exact (hF i (List.mem_range.1 hi)).2.1 x hx
    · rw [hd]
      have := bulk_len ((List.range len).map D)
      simp only [Rows.uptoBulk]
      simp at this ⊢
      omega
    · rw [hd]
      have := bulk_flat ((List.range len).map F) ((List.range len).map D) (by simp) (fun i r dd hr hdd => by
        obtain ⟨h1, h2⟩ := List.getElem?_eq_some_iff.1 hr
        obtain ⟨h3, h4⟩ := List.getElem?_eq_some_iff.1 hdd
        have hi : i < len := by simpa using h1
        have e1 : F i = r := by simpa using h2
        have e2 : D i = dd := by simpa using h4
        have := (hF i hi).2.2
        rw [e1, e2] at this
        exact this)
      simp only [Rows.uptoBulk]
      omega
end Go.Proofs.Ytecddamjolekmaa
