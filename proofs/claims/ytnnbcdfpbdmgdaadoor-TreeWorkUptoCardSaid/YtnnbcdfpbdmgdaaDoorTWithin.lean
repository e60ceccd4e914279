/-
  DERIVED. Within, Nearest: for every tree.
-/
import Derived.Test.YtnnbcdfpbdmgdaaDoorTAns
set_option linter.unusedVariables false
set_option linter.unusedSimpArgs false
namespace Go.Proofs.YtnnbcdfpbdmgdaaDoor
open Go.RowKit Go.Maps Go.Sort Go.Proofs.BitMath Go.Proofs.TreeMath
set_option maxHeartbeats 4000000 in
set_option maxRecDepth 100000 in
theorem search_none {n t wd : Nat} {bs : List Nat} {ms : List (Option Nat)} {x : Num} (B g cb k b0 : Nat) (q : Cd n) (vs0 : List Value) (W : World) (h : TR (n := n) W t wd [] bs ms x) (hB : B ≤ W.heap.size) (htb : ∀ j, TFoot t bs ms j → j < B) (hk1 : 1 ≤ k) (hb0 : b0 ≤ 8192)
    (hf : FB B W g cb k b0 0 (RL q [] b0 b0) vs0) :
    Calls Tryd.prog 40 #[.pointer (some ⟨t, 0, none⟩), .string q.1, .pointer (some ⟨g, 0, none⟩)] W (SeaO B W t wd k b0 q ([] : List (Nd (Cd n))) bs ms x []) := by
  obtain ⟨t0, t1, t2, t3, t4, t5⟩ := h.cell
  have t1' : W.cell? ⟨t, 1, none⟩ = some (.pointer none) := t1
  have htl : t < W.heap.size := h.lt (.inl rfl)
  have hvsl : vs0.length ≤ 8193 := by rw [← hf.len, RL_len]; omega
  have hss : SS B W (W.alloc (.cells #[.pointer (some ⟨g, 0, none⟩)] 77)) t wd g cb W.heap.size k b0 q ([] : List (Nd (Cd n))) bs ms x [] [] [] (.slice none 0 0) 0 vs0 := by
    have b2 : Below W.heap.size W (W.alloc (.cells #[.pointer (some ⟨g, 0, none⟩)] 77)) := (Below.refl _ W).alloc (Nat.le_refl _) _
    have hl0 : bdV ([] : List (Nd (Cd n))) k b0 q [] = b0 := by
      unfold bdV bdM
      exact lower_few _ _ (by simp [lvc, dqs]; omega)
    refine ⟨?_, ?_, ⟨rfl, .inl ⟨rfl, rfl⟩⟩, Array.getElem?_push_size, SI.none q _ rfl, .refl _ _, (Stay.below b2)⟩
    · rw [List.length_nil, lkN_zero h.lk]
      exact h.below b2
    · rw [hl0]
      exact (hf.fx.kept (F := fun _ => False) (.below b2) (fun _ _ hh => hh)).fb hf.cnt
  obtain ⟨wA, hwA⟩ : ∃ wA, wA = W.alloc (.cells #[.pointer (some ⟨g, 0, none⟩)] 77) := ⟨_, rfl⟩
  rw [← hwA] at hss
  have hsz : B ≤ wA.heap.size := Nat.le_trans hB hss.st.size
  have hhits := hits_any B g cb k _ 0 _ vs0 wA hss.fb hsz (by omega) hvsl
  have HS := Hid.mk hss
  have HH := Hid.mk hhits
  clear hss hhits h hf t1
  go_enter Tryd.func40, Tryd.ntmps40
  go_wp2_with fail
  go_loopw [8] (fun wv wr => wv = .slice none 0 0 ∧ wr = W.alloc (.cells #[.pointer (some ⟨g, 0, none⟩)] 77)) (fun _ _ => 0)
  case atStart => exact ⟨rfl, rfl⟩
  case round =>
    obtain ⟨rfl, rfl⟩ := hrel
    go_wp2_with fail
    rw [← hwA]
    refine HH.out.mono ?_
    rintro e w' ⟨v, rfl, hr', b'⟩
    go_wp2_with fail
    go_ret
    exact HS.out.fin htb hsz hr' b'
def st0 {α : Type} (T : List (Nd α)) : List St := if T.length = 0 then [] else [⟨0, 0, 0⟩]
theorem search_any {n t wd : Nat} {T : List (Nd (Cd n))} {bs : List Nat} {ms : List (Option Nat)} {x : Num} (B g cb k b0 : Nat) (q : Cd n) (vs0 : List Value) (W : World) (h : TR W t wd T bs ms x) (ht : Tab W) (htp : 0 < t) (hB0 : 0 < B) (hB : B ≤ W.heap.size) (htb : ∀ j, TFoot t bs ms j → j < B) (hk1 : 1 ≤ k) (hk2 : k ≤ 9223372036854775807) (hb0 : b0 ≤ 8192)
    (hf : FB B W g cb k b0 0 (RL q [] b0 b0) vs0) (hsm : T.length < 1099511627776) :
    Calls Tryd.prog 40 #[.pointer (some ⟨t, 0, none⟩), .string q.1, .pointer (some ⟨g, 0, none⟩)] W (SeaO B W t wd k b0 q T bs ms x (st0 T)) := by
  unfold st0
  by_cases hT : T.length = 0
  · rw [if_pos hT]
    have e : T = [] := List.eq_nil_of_length_eq_zero hT
    subst e
    exact search_none B g cb k b0 q vs0 W h hB htb hk1 hb0 hf
  · rw [if_neg hT]
    exact search_some B g cb k b0 q vs0 W h (by omega) ht htp hB0 hB htb hk1 hk2 hb0 hf hsm
/-- What a search leaves: the hits A, as many nodes looked at. -/
structure Srch {n : Nat} (W w' : World) (t wd : Nat) (T : List (Nd (Cd n))) (bs : List Nat) (ms : List (Option Nat)) (x : Num) (k b0 : Nat) (q : Cd n) (v : Value) (nv : Nat) : Prop where
  row : w'.ownsRow W.heap.size 36 3 v (ansL k b0 q (lives T)).length ((ansL k b0 q (lives T)).flatMap hV)
  tr : TR w' t wd T bs ms { x with looked := lkN x.looked nv }
  st : Stay (fun j => j = t ∨ W.heap.size ≤ j) W w'
  le : nv ≤ T.length
  ge : (ansL k b0 q (lives T)).length ≤ nv
  run : ∃ V : List Nat, nv = V.length ∧ Run T (dqf T q) (bdV T k b0 q) wd (st0 T) [] [] V
/-- A search from its beginning. -/
theorem found_search {n t wd : Nat} {T : List (Nd (Cd n))} {bs : List Nat} {ms : List (Option Nat)} {x : Num} (k b0 g cb : Nat) (q : Cd n) (W w1 : World) (h : TR W t wd T bs ms x) (ht : Tab W) (htp : 0 < t) (hk1 : 1 ≤ k) (hk2 : k ≤ 9223372036854775807) (hb0 : b0 ≤ 8192) (hsm : T.length < 1099511627776) (b1 : Below W.heap.size W w1)
    (hf : FB (n := n) W.heap.size w1 g cb k b0 0 (List.replicate (b0 + 1) []) (List.replicate (b0 + 1) (.slice none 0 0))) :
    Calls Tryd.prog 40 #[.pointer (some ⟨t, 0, none⟩), .string q.1, .pointer (some ⟨g, 0, none⟩)] w1 (fun r w' => ∃ v nv, r = .returned v ∧ Srch W w' t wd T bs ms x k b0 q v nv) := by
  rw [← RL_nil q b0 b0] at hf
  have hW0 : 0 < W.heap.size := Nat.lt_of_le_of_lt (Nat.zero_le _) (h.lt (.inl rfl))
  refine (search_any W.heap.size g cb k b0 q _ w1 (h.below b1) (ht.below b1 hW0) htp hW0 b1.size (fun j hj => h.lt hj) hk1 hk2 hb0 hf hsm).mono ?_
  rintro r w' ⟨v, V, rfl, hrun, hsi, hrow, htr, hst⟩
  have hl := ans_len (T := T) (q := q) (k := k) (b0 := b0) (V := V)
  rw [ans_eq h.wf hk1 hsi] at hrow hl
  exact ⟨v, V.length, rfl, hrow, htr, (Stay.below b1).trans hst, hsi.count, hl, V, rfl, hrun⟩
/-- What Within answers. -/
def WithO {n : Nat} (W : World) (t wd : Nat) (T : List (Nd (Cd n))) (bs : List Nat) (ms : List (Option Nat)) (x : Num) (s : ByteArray) (r : Int) (e : Ending) (w' : World) : Prop :=
  (s.size ≠ n ∧ e = .returned (.tuple #[.slice none 0 0, .int .i64 11]) ∧ Below W.heap.size W w') ∨
  (s.size = n ∧ ¬ (0 ≤ r ∧ r ≤ wd) ∧ e = .returned (.tuple #[.slice none 0 0, .int .i64 101]) ∧ Below W.heap.size W w') ∨
  ∃ (hs : s.size = n) (v : Value) (nv : Nat), 0 ≤ r ∧ r ≤ wd ∧ e = .returned (.tuple #[v, .int .i64 0]) ∧ Srch W w' t wd T bs ms x 9223372036854775807 r.toNat ⟨s, hs⟩ v nv
set_option maxHeartbeats 4000000 in
set_option maxRecDepth 100000 in
theorem within_any {n t wd : Nat} {T : List (Nd (Cd n))} {bs : List Nat} {ms : List (Option Nat)} {x : Num} (s : ByteArray) (r : Int) (W : World) (h : TR W t wd T bs ms x) (ht : Tab W) (htp : 0 < t) (hsm : T.length < 1099511627776) :
    Calls Tryd.prog 16 #[.pointer (some ⟨t, 0, none⟩), .string s, .int .i64 r] W (WithO W t wd T bs ms x s r) := by
  obtain ⟨t0, t1, t2, t3, t4, t5⟩ := h.cell
  have hk := takes_any s W h
  have hwd : wd ≤ 1024 := by have := isW_bd h.wid; omega
  by_cases hs : s.size = n
  · rw [decide_eq_true hs] at hk
    by_cases hr : 0 ≤ r ∧ r ≤ wd
    · obtain ⟨r1, r2⟩ := hr
      obtain ⟨rn, hrn⟩ : ∃ rn : Nat, r = rn := ⟨r.toNat, by omega⟩
      subst hrn
      have hnf := newFound_any (n := n) 9223372036854775807 rn (by omega) W
      have HT := Hid.mk (And.intro h ht)
      clear h ht
      go_enter Tryd.func16, Tryd.ntmps16
      go_wp2_with first
        | (go_at_call 33; refine hk.mono ?_; rintro e w' ⟨rfl, rfl⟩)
        | (go_at_call 41; refine hnf.mono ?_; rintro e w1 ⟨g, cb, rfl, hf, b1⟩)
        | (go_at_call 40; refine (found_search 9223372036854775807 rn g cb ⟨s, hs⟩ _ w1 HT.out.1 HT.out.2 htp (by omega) (by omega) (by omega) hsm b1 hf).mono ?_; rintro e w2 ⟨v, nv, rfl, hsr⟩)
        | go_in
      all_goals first
        | (exfalso; omega)
        | skip
      go_ret2
      exact .inr (.inr ⟨hs, v, nv, r1, r2, rfl, by rw [Int.toNat_natCast]; exact hsr⟩)
    · go_enter Tryd.func16, Tryd.ntmps16
      go_wp2_with first
        | (go_at_call 33; refine hk.mono ?_; rintro e w' ⟨rfl, rfl⟩)
        | go_in
      all_goals first
        | (exfalso; omega)
        | (go_ret2; exact .inr (.inl ⟨hs, hr, rfl, Below.refl _ _⟩))
  · rw [decide_eq_false hs] at hk
    go_enter Tryd.func16, Tryd.ntmps16
    go_wp2_with first
      | (go_at_call 33; refine hk.mono ?_; rintro e w' ⟨rfl, rfl⟩)
      | go_in
    go_ret2
    exact .inl ⟨hs, rfl, Below.refl _ _⟩
/-- What Nearest answers. -/
def NearO {n : Nat} (W : World) (t wd : Nat) (T : List (Nd (Cd n))) (bs : List Nat) (ms : List (Option Nat)) (x : Num) (s : ByteArray) (k : Int) (e : Ending) (w' : World) : Prop :=
  (s.size ≠ n ∧ e = .returned (.tuple #[.slice none 0 0, .int .i64 11]) ∧ Below W.heap.size W w') ∨
  (s.size = n ∧ ¬ (0 ≤ k ∧ k ≤ 4096) ∧ e = .returned (.tuple #[.slice none 0 0, .int .i64 100]) ∧ Below W.heap.size W w') ∨
  (s.size = n ∧ k = 0 ∧ e = .returned (.tuple #[.slice none 0 0, .int .i64 0]) ∧ Below W.heap.size W w') ∨
  ∃ (hs : s.size = n) (v : Value) (nv : Nat), 1 ≤ k ∧ k ≤ 4096 ∧ e = .returned (.tuple #[v, .int .i64 0]) ∧ Srch W w' t wd T bs ms x k.toNat wd ⟨s, hs⟩ v nv
set_option maxHeartbeats 4000000 in
set_option maxRecDepth 100000 in
theorem nearest_any {n t wd : Nat} {T : List (Nd (Cd n))} {bs : List Nat} {ms : List (Option Nat)} {x : Num} (s : ByteArray) (k : Int) (W : World) (h : TR W t wd T bs ms x) (ht : Tab W) (htp : 0 < t) (hsm : T.length < 1099511627776) :
    Calls Tryd.prog 17 #[.pointer (some ⟨t, 0, none⟩), .string s, .int .i64 k] W (NearO W t wd T bs ms x s k) := by
  obtain ⟨t0, t1, t2, t3, t4, t5⟩ := h.cell
  have hk := takes_any s W h
  have hwd : wd ≤ 1024 := by have := isW_bd h.wid; omega
  by_cases hs : s.size = n
  · rw [decide_eq_true hs] at hk
    by_cases hr : 0 ≤ k ∧ k ≤ 4096
    · by_cases hk0 : k = 0
      · subst hk0
        go_enter Tryd.func17, Tryd.ntmps17
        go_wp2_with first
          | (go_at_call 33; refine hk.mono ?_; rintro e w' ⟨rfl, rfl⟩)
          | go_in
        go_ret2
        exact .inr (.inr (.inl ⟨hs, rfl, rfl, Below.refl _ _⟩))
      · obtain ⟨r1, r2⟩ := hr
        obtain ⟨kn, hkn⟩ : ∃ kn : Nat, k = kn := ⟨k.toNat, by omega⟩
        subst hkn
        have hne : ((kn : Int) == 0) = false := by simpa using hk0
        have hnf := newFound_any (n := n) kn wd (by omega) W
        have HT := Hid.mk (And.intro h ht)
        have HK := Hid.mk (show 1 ≤ kn by omega)
        have r3 : kn ≤ 4096 := by omega
        clear h ht hk0
        go_enter Tryd.func17, Tryd.ntmps17
        go_wp2_with first
          | (go_at_call 33; refine hk.mono ?_; rintro e w' ⟨rfl, rfl⟩)
          | (go_at_call 41; refine hnf.mono ?_; rintro e w1 ⟨g, cb, rfl, hf, b1⟩)
          | (go_at_call 40; refine (found_search kn wd g cb ⟨s, hs⟩ _ w1 HT.out.1 HT.out.2 htp HK.out (by omega) (by omega) hsm b1 hf).mono ?_; rintro e w2 ⟨v, nv, rfl, hsr⟩)
          | go_in
        all_goals first
          | (exfalso; omega)
          | skip
        go_ret2
        exact .inr (.inr (.inr ⟨hs, v, nv, by have := HK.out; omega, r2, rfl, by rw [Int.toNat_natCast]; exact hsr⟩))
    · go_enter Tryd.func17, Tryd.ntmps17
      go_wp2_with first
        | (go_at_call 33; refine hk.mono ?_; rintro e w' ⟨rfl, rfl⟩)
        | go_in
      all_goals first
        | (exfalso; omega)
        | (go_ret2; exact .inr (.inl ⟨hs, hr, rfl, Below.refl _ _⟩))
  · rw [decide_eq_false hs] at hk
    go_enter Tryd.func17, Tryd.ntmps17
    go_wp2_with first
      | (go_at_call 33; refine hk.mono ?_; rintro e w' ⟨rfl, rfl⟩)
      | go_in
    go_ret2
    exact .inl ⟨hs, rfl, Below.refl _ _⟩
end Go.Proofs.YtnnbcdfpbdmgdaaDoor
