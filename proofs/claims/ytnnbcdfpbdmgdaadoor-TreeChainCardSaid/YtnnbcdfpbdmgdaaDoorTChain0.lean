/-
  DERIVED. Trees of codes of one bit: what Drop leaves, what the searches answer.
-/
import Derived.Test.YtnnbcdfpbdmgdaaDoorTBit
set_option linter.unusedVariables false
set_option linter.unusedSimpArgs false
namespace Go.Proofs.YtnnbcdfpbdmgdaaDoor
open Go.RowKit Go.Maps Go.Sort Go.Proofs.BitMath Go.Proofs.TreeMath
/-- A tree of some of the first m codes. -/
structure Few {n : Nat} (m : Nat) (T : List (Nd (Cd n))) : Prop where
  le : T.length ≤ m
  of : ∀ c ∈ T.map Nd.code, ∃ j, j < m ∧ c = bitC n j
theorem lives_sub {n : Nat} {T : List (Nd (Cd n))} {c : Cd n} (h : c ∈ lives T) : c ∈ T.map Nd.code := by
  obtain ⟨j, nd, h1, -, rfl⟩ := mem_lives.1 h
  exact List.mem_map.2 ⟨nd, List.mem_of_getElem? h1, rfl⟩
theorem setLive_codes {n : Nat} {T : List (Nd (Cd n))} {j : Nat} {b : Bool} {c : Cd n} (h : c ∈ (setLive T j b).map Nd.code) : c ∈ T.map Nd.code := by
  obtain ⟨nd, h1, rfl⟩ := List.mem_map.1 h
  obtain ⟨i, hi, rfl⟩ := List.getElem_of_mem h1
  obtain ⟨m, h2, h3, -⟩ := setLive_at (List.getElem?_eq_getElem hi)
  exact List.mem_map.2 ⟨m, List.mem_of_getElem? h2, h3.symm⟩
theorem drop_few {n : Nat} {W0 wr w' : World} {t wd m : Nat} {T : List (Nd (Cd n))} {bs : List Nat} {ms : List (Option Nat)} {x : Num} {s : ByteArray} {r : Ending} (h : OT W0 wr t wd T bs ms x) (hf : Few m T) (hd : DropO wr t wd T bs ms x s r w') :
    ∃ (T' : List (Nd (Cd n))) (bs' : List Nat) (ms' : List (Option Nat)) (x' : Num) (y : Bool), r = .returned (.bool y) ∧ OT W0 w' t wd T' bs' ms' x' ∧ Few m T' ∧ (lives T').length + (if y then 1 else 0) = (lives T).length := by
  rcases hd with ⟨-, h1, h2⟩ | ⟨j, nd, hj, hc, hl, h1, (⟨-, h2⟩ | ⟨-, cs, hp, -, h2⟩)⟩
  · obtain ⟨bs', ms', x', h3, -⟩ := h.moved h2
    exact ⟨T, bs', ms', x', false, h1, h3, hf, rfl⟩
  · obtain ⟨bs', ms', x', h3, -⟩ := h.moved h2
    refine ⟨_, bs', ms', x', true, h1, h3, ⟨by rw [setLive_len]; exact hf.le, fun c hc => hf.of c (setLive_codes hc)⟩, ?_⟩
    have := lives_len T j nd false hj
    rw [hl] at this
    simpa using this
  · obtain ⟨bs', ms', x', h3, -⟩ := h.moved h2
    have hlen := lives_len T j nd false hj
    rw [hl] at hlen
    have hwf : WF dC (setLive T j false) := h.tr.wf.setLive j false
    have hnd : cs.Nodup := hp.nodup_iff.2 hwf.lives_nodup
    obtain ⟨w1, w2, w3⟩ := hangs_wf (d := dC) (fun a b => dC_zero a b) cs [] (WF.nil _) (by simpa using hnd)
    have hco := hangs_codes (d := dC) (fun a b => dC_zero a b) cs [] (WF.nil _) (by simpa using hnd)
    have hcl := hp.length_eq
    have hle : (lives T).length ≤ T.length := by
      unfold lives
      rw [List.length_map]
      exact List.length_filter_le _ _
    refine ⟨_, bs', ms', x', true, h1, h3, ⟨?_, fun c hc => ?_⟩, ?_⟩
    · have h5 := hf.le
      have h6 : (hangs dC [] cs).length = cs.length := by simpa using w3
      have h7 : (lives (setLive T j false)).length + 1 = (lives T).length := by simpa using hlen
      have h8 : cs.length ≤ T.length := by rw [hcl]; exact Nat.le_trans (Nat.le_of_lt (Nat.lt_of_succ_le (Nat.le_of_eq h7))) hle
      exact Nat.le_trans (Nat.le_of_eq h6) (Nat.le_trans h8 h5)
    · rw [hco] at hc
      exact hf.of c (setLive_codes (lives_sub (hp.mem_iff.1 (by simpa using hc))))
    · have h9 : (lives (hangs dC [] cs)).length = cs.length := by rw [w2]; rfl
      rw [h9, hcl]
      simpa using hlen
theorem ans_snd {n : Nat} {k b0 : Nat} {q : Cd n} {A : List (Cd n)} (hA : A.Nodup) (hall : ∀ c ∈ A, dC c q ≤ bdM k b0 q A) : (ansL k b0 q A).length = A.length := by
  have hs := ansL_sorted k b0 q hA
  have hnd : ((ansL k b0 q A).map Prod.snd).Nodup := by
    unfold List.Nodup
    rw [List.pairwise_map]
    refine (List.Pairwise.imp_of_mem ?_ hs)
    intro a b ha hb h e
    have h1 := (mem_ansL.1 ha).2.1
    have h2 := (mem_ansL.1 hb).2.1
    rw [e] at h1
    rcases h with h | h
    · omega
    · rw [e] at h
      exact List.lt_irrefl _ h.2
  have hp : ((ansL k b0 q A).map Prod.snd).Perm A := (List.perm_ext_iff_of_nodup hnd hA).2 fun c => by
    rw [List.mem_map]
    constructor
    · rintro ⟨y, hy, rfl⟩
      exact (mem_ansL.1 hy).1
    · intro hc
      exact ⟨(dC c q, c), mem_ansL.2 ⟨hc, rfl, hall c hc⟩, rfl⟩
  have := hp.length_eq
  simpa using this
theorem ans_first {n : Nat} {k b0 : Nat} {q : Cd n} {A : List (Cd n)} (hA : A.Nodup) (hq : q ∈ A) : ∃ l, ansL k b0 q A = (0, q) :: l := by
  have hs := ansL_sorted k b0 q hA
  have hm : (0, q) ∈ ansL k b0 q A := mem_ansL.2 ⟨hq, dC_self q, Nat.zero_le _⟩
  have hmem := fun x => (mem_ansL (k := k) (b0 := b0) (q := q) (A := A) (x := x)).1
  generalize ansL k b0 q A = L at *
  cases L with
  | nil => cases hm
  | cons y l =>
    rcases List.mem_cons.1 hm with e | e
    · exact ⟨l, by rw [e]⟩
    · exfalso
      have h1 := (List.pairwise_cons.1 hs).1 _ e
      rcases h1 with h1 | h1
      · exact absurd h1 (Nat.not_lt_zero _)
      · have h2 := (hmem y (by simp)).2.1
        rw [h1.1] at h2
        have h3 := dC_zero _ _ h2
        rw [h3] at h1
        exact List.lt_irrefl _ h1.2
theorem bdM_one {n : Nat} {b0 : Nat} {q : Cd n} {A : List (Cd n)} (hq : q ∈ A) : bdM 1 b0 q A = 0 := by
  unfold bdM
  have h0 : 0 < lc (dqs q A) 1 := by
    unfold lc
    rw [List.countP_pos_iff]
    exact ⟨0, List.mem_map.2 ⟨q, hq, dC_self q⟩, by simp⟩
  exact lower_one (Nat.le_refl 1) (Nat.zero_le _) (by rw [lc_zero]; omega) (.inr h0)
theorem near_one {n : Nat} {b0 : Nat} {q : Cd n} {A : List (Cd n)} (hA : A.Nodup) (hq : q ∈ A) : ansL 1 b0 q A = [(0, q)] := by
  refine ansL_eq hA (by simp) fun x => ?_
  rw [bdM_one hq, List.mem_singleton]
  constructor
  · rintro rfl
    exact ⟨hq, dC_self q, Nat.le_refl _⟩
  · rintro ⟨h1, h2, h3⟩
    have e : x.1 = 0 := by omega
    rw [e] at h2
    exact Prod.ext e (dC_zero _ _ h2)
theorem with_all {n m : Nat} {q : Nat} {T : List (Nd (Cd n))} (hf : Few m T) (hwf : WF dC T) (hm : m ≤ 8 * n) (hq : q < m) (hT : T.length < 9223372036854775807) : (ansL 9223372036854775807 2 (bitC n q) (lives T)).length = (lives T).length := by
  have hle : (lives T).length ≤ T.length := by
    unfold lives
    rw [List.length_map]
    exact List.length_filter_le _ _
  refine ans_snd hwf.lives_nodup fun c hc => ?_
  rw [bdM_all _ _ _ (by omega)]
  obtain ⟨j, hj, rfl⟩ := hf.of c (lives_sub hc)
  by_cases e : j = q
  · subst e
    rw [dC_self]
    omega
  · rw [bit_two (by omega) (by omega) e]
    exact Nat.le_refl _
theorem few_chn {n m : Nat} : Few m (chn n m) := ⟨by rw [chn_len]; exact Nat.le_refl _, fun c hc => by
  rw [chn_codes] at hc
  obtain ⟨j, hj, rfl⟩ := List.mem_map.1 hc
  exact ⟨j, List.mem_range.1 hj, rfl⟩⟩
/-- The chain's depth. -/
theorem chn_depth {n i : Nat} {W : World} {t wd : Nat} {bs : List Nat} {ms : List (Option Nat)} {x : Num} (h : TR W t wd (chn n (i + 1)) bs ms x) : x.dep = i + 1 := by
  have h1 := h.dep i (by rw [chn_len]; omega)
  have h2 := h.depT
  rw [chn_dep h.wf i (by omega)] at h1
  rw [chn_len] at h2
  omega
/-- One code more. -/
theorem chn_add {n i : Nat} {W : World} {t wd : Nat} {bs : List Nat} {ms : List (Option Nat)} {x : Num} (h : TR W t wd (chn n i) bs ms x) (ht : Tab W) (hW0 : 0 < W.heap.size) (hi : i < 8 * n) (hn : n ≤ 128) : Calls Tryd.prog 11 #[.pointer (some ⟨t, 0, none⟩), .string (bitC n i).1] W (fun r w' => r = .returned (.tuple #[.bool true, .int .i64 0]) ∧ Moved W w' t wd (chn n (i + 1)) bs ms x) := by
  rw [← chn_hang hi h.wf]
  refine add_fresh (bitC n i) W h ht hW0 (by rw [chn_len]; omega) (fun hc => ?_)
  rw [chn_codes] at hc
  obtain ⟨j, hj, e⟩ := List.mem_map.1 hc
  have hj := List.mem_range.1 hj
  have := bitC_inj (by omega) hi e
  omega
theorem hits_form {n : Nat} {w : World} {B : Nat} {v : Value} {A : List (Nat × Cd n)} (h : w.ownsRow B 36 3 v A.length (A.flatMap hV)) : ∃ a c, v = .slice a A.length c ∧ ∀ (hi : 0 < A.length), ∃ g, a = some ⟨g, 0, none⟩ ∧ B ≤ g ∧ w.cell? ⟨g, 0, none⟩ = some (.int .i64 (A[0].1 : Nat)) ∧ w.cell? ⟨g, 2, none⟩ = some (.string A[0].2.1) := by
  have h' := h
  rcases h.2 with ⟨h2, h3⟩ | ⟨g, cap, cur, h2, h3, h4, h5, h6, h7, h8⟩
  · exact ⟨none, 0, by rw [h2, h3], fun hi => by omega⟩
  · refine ⟨_, cap, h2, fun hi => ⟨g, rfl, h3, ?_⟩⟩
    obtain ⟨g', cap', e, c0, -, c2⟩ := hit_cell h' 0 hi
    rw [h2] at e
    simp at e
    obtain ⟨rfl, -⟩ := e
    simp at c0 c2
    exact ⟨c0, c2⟩
theorem with_bit {n : Nat} {W0 wr w' : World} {t wd m q : Nat} {T : List (Nd (Cd n))} {bs : List Nat} {ms : List (Option Nat)} {x : Num} {e : Ending} (h : OT W0 wr t wd T bs ms x) (hf : Few m T) (hm : m ≤ wd) (hq : q < m) (hd : WithO wr t wd T bs ms x (bitC n q).1 2 e w') :
    ∃ a c x', e = .returned (.tuple #[.slice a (lives T).length c, .int .i64 0]) ∧ OT W0 w' t wd T bs ms x' ∧ (bitC n q ∈ lives T → ∃ g, a = some ⟨g, 0, none⟩ ∧ g ≠ t ∧ w'.cell? ⟨g, 2, none⟩ = some (.string (bitC n q).1)) := by
  have h8 := h.tr.eight
  have hbd := isW_bd h.tr.wid
  have htl : t < wr.heap.size := h.tr.lt (.inl rfl)
  have hsm := h.tr.small
  rcases hd with ⟨h1, -⟩ | ⟨-, h1, -⟩ | ⟨hs, v, nv, -, -, rfl, hS⟩
  · exact absurd (bitC n q).2 h1
  · exact absurd ⟨by omega, by omega⟩ h1
  · have hrow := hS.row
    have hlen := with_all hf h.tr.wf (by omega) hq (by omega)
    have e2 : (2 : Int).toNat = 2 := rfl
    rw [e2] at hrow
    have e3 : (⟨(bitC n q).1, hs⟩ : Cd n) = bitC n q := rfl
    rw [e3] at hrow
    obtain ⟨a, c, rfl, hc⟩ := hits_form hrow
    refine ⟨a, c, _, by rw [hlen], h.srch hS, fun hm => ?_⟩
    obtain ⟨L, hL⟩ := ans_first (k := 9223372036854775807) (b0 := 2) h.tr.wf.lives_nodup hm
    obtain ⟨g, hg, hB, -, hcell⟩ := hc (by rw [hL]; simp)
    refine ⟨g, hg, by omega, ?_⟩
    rw [hcell]
    simp [hL]
theorem near_bit {n : Nat} {W0 wr w' : World} {t wd q : Nat} {T : List (Nd (Cd n))} {bs : List Nat} {ms : List (Option Nat)} {x : Num} {e : Ending} (h : OT W0 wr t wd T bs ms x) (hd : NearO wr t wd T bs ms x (bitC n q).1 1 e w') :
    ∃ a k c x', e = .returned (.tuple #[.slice a k c, .int .i64 0]) ∧ OT W0 w' t wd T bs ms x' ∧ Stay (fun j => j = t ∨ wr.heap.size ≤ j) wr w' ∧ (bitC n q ∈ lives T → k = 1 ∧ ∃ g, a = some ⟨g, 0, none⟩ ∧ w'.cell? ⟨g, 0, none⟩ = some (.int .i64 0)) := by
  rcases hd with ⟨h1, -⟩ | ⟨-, h1, -⟩ | ⟨-, h1, -⟩ | ⟨hs, v, nv, -, -, rfl, hS⟩
  · exact absurd (bitC n q).2 h1
  · exact absurd ⟨by omega, by omega⟩ h1
  · cases h1
  · have hrow := hS.row
    have e2 : (1 : Int).toNat = 1 := rfl
    rw [e2] at hrow
    have e3 : (⟨(bitC n q).1, hs⟩ : Cd n) = bitC n q := rfl
    rw [e3] at hrow
    obtain ⟨a, c, rfl, hc⟩ := hits_form hrow
    refine ⟨a, _, c, _, rfl, h.srch hS, hS.st, fun hm => ?_⟩
    have hL := near_one (b0 := wd) h.tr.wf.lives_nodup hm
    obtain ⟨g, hg, hB, hcell, -⟩ := hc (by rw [hL]; simp)
    refine ⟨by rw [hL]; rfl, g, hg, ?_⟩
    rw [hcell]
    simp [hL]
end Go.Proofs.YtnnbcdfpbdmgdaaDoor
