/-
  DERIVED. JName, JLook0, JLook1, as one text.
-/
import Derived.Test.YtjkhhjboejkafaaDoorLzAH
import Derived.Test.YtjkhhjboejkafaaDoorLzAP
import Derived.Lib.ItoaLen
import Derived.Lib.AppendIntMem
import Derived.Test.YtjkhhjboejkafaaDoorLzAO
import Derived.Test.YtjkhhjboejkafaaDoorLzAF
import Derived.Test.YtjkhhjboejkafaaDoorLzAE
set_option linter.unusedVariables false
set_option linter.unusedSimpArgs false
namespace Go.Proofs.YtjkhhjboejkafaaDoor
open Go.RowKit
/-- Is the number one of a journal? -/
def nmB (n : Int) : Bool := decide (1 ≤ n ∧ n ≤ 1099511627776)
/-- A journal's name. -/
def nmT (n : Int) : ByteArray := if nmB n = true then ⟨#[106]⟩ ++ ⟨(Lib.itoa n).toArray⟩ else ⟨#[]⟩
abbrev Pow (w : World) : Prop := Lib.TabIs Tryd.prog w "internal/strconv.uint64pow10" .u64 Lib.pow10Tab
theorem itoa_sz (n : Int) (h : nmB n = true) : (Lib.itoa n).length ≤ 21 := by
  have hn : 1 ≤ n ∧ n ≤ 1099511627776 := of_decide_eq_true h
  have := Lib.itoa_length_le n (by omega) (by omega)
  omega
theorem itoa_any (n : Int) (w : World) (h : nmB n = true) (ht : Pow w) :
    Calls Tryd.prog 46 #[.int .i64 n] w fun e w' => e = .returned (.string ⟨(Lib.itoa n).toArray⟩) ∧ Below w.heap.size w w' := by
  have hn : 1 ≤ n ∧ n ≤ 1099511627776 := of_decide_eq_true h
  refine (Tryd.strconv_Itoa n (by omega) (by omega) w ht).mono ?_
  rintro e w' ⟨rfl, k, os, rfl⟩
  exact ⟨rfl, Lib.below_grow _ _ (Nat.le_refl _) _ _⟩
set_option maxHeartbeats 1000000 in
set_option maxRecDepth 100000 in
theorem name_any (n : Int) (w : World) (ht : Pow w) :
    Calls Tryd.prog 29 #[.int .i64 n] w fun e w' => e = .returned (.string (nmT n)) ∧ Below w.heap.size w w' := by
  unfold nmT
  cases h : nmB n
  · have H : Hid _ := h
    go_enter Tryd.func29, Tryd.ntmps29
    go_wp2_with (go_at_call 41; refine (isNumber_any _ _).mono ?_; rintro e w' ⟨rfl, rfl⟩; rw [show decide (1 ≤ n ∧ n ≤ 1099511627776) = false from H.out])
    go_ret
    exact ⟨rfl, Below.refl _ _⟩
  · have H : Hid _ := h
    have hs := itoa_sz n h
    go_enter Tryd.func29, Tryd.ntmps29
    go_wp2_with first
      | (go_at_call 41; refine (isNumber_any _ _).mono ?_; rintro e w' ⟨rfl, rfl⟩; rw [show decide (1 ≤ n ∧ n ≤ 1099511627776) = true from H.out])
      | (go_at_call 46; refine (itoa_any n _ H.out ht).mono ?_; rintro e w' ⟨rfl, b⟩)
    all_goals first | (exfalso; omega) | skip
    go_ret
    exact ⟨rfl, b⟩
set_option maxHeartbeats 1000000 in
set_option maxRecDepth 100000 in
theorem rname_any (n : Int) (w : World) (ht : Pow w) :
    Calls Tryd.prog 33 #[.int .i64 n] w fun e w' => e = .returned (.string (nmT n)) ∧ Below w.heap.size w w' := by
  unfold nmT
  cases h : nmB n
  · have hn : ¬ (1 ≤ n ∧ n ≤ 1099511627776) := of_decide_eq_false h
    go_enter Tryd.func33, Tryd.ntmps33
    go_wp2
    all_goals first | (go_ret; exact ⟨rfl, Below.refl _ _⟩) | (exfalso; omega)
  · have H : Hid _ := h
    have hn : 1 ≤ n ∧ n ≤ 1099511627776 := of_decide_eq_true h
    have hs := itoa_sz n h
    go_enter Tryd.func33, Tryd.ntmps33
    go_wp2_with
      (go_at_call 46; refine (itoa_any n _ H.out ht).mono ?_; rintro e w' ⟨rfl, b⟩)
    all_goals first | (exfalso; omega) | skip
    go_ret
    exact ⟨rfl, b⟩
end Go.Proofs.YtjkhhjboejkafaaDoor
set_option linter.unusedVariables false
set_option linter.unusedSimpArgs false
namespace Go.Proofs.YtjkhhjboejkafaaDoor
open Go.RowKit Go.Shelf Go.Proofs.SealMath Go.Proofs.DiskMath
/-- What check refuses. -/
def jcE (n s x : Int) : Int := if nmB n = true then (if isW x = true then (if s = 0 ∨ (1 ≤ s ∧ s ≤ 1152921504606846976) then 0 else 51) else 10) else 13
set_option maxHeartbeats 1000000 in
theorem jcheck_any (n s x : Int) (w : World) : Calls Tryd.prog 27 #[.int .i64 n, .int .i64 s, .int .i64 x] w fun r w' => r = .returned (.int .i64 (jcE n s x)) ∧ w' = w := by
  have h1 := isNumber_any n w
  have h2 := jWidth_any x w
  have h3 := isSeq_any s w
  unfold jcE nmB
  by_cases c1 : 1 ≤ n ∧ n ≤ 1099511627776
  · have d1 : decide (1 ≤ n ∧ n ≤ 1099511627776) = true := decide_eq_true c1
    rw [d1] at h1 ⊢
    rw [if_pos rfl]
    cases c2 : isW x with
    | false =>
      rw [c2] at h2
      clear d1 c1
      rw [if_neg (by simp)]
      go_enter Tryd.func27, Tryd.ntmps27
      go_wp2_with (first | (go_at_call 41; refine h1.mono ?_; rintro r w1 ⟨rfl, rfl⟩) | (go_at_call 42; refine h2.mono ?_; rintro r w2 ⟨rfl, rfl⟩))
      go_ret
      exact ⟨rfl, rfl⟩
    | true =>
      rw [c2] at h2
      rw [if_pos rfl]
      by_cases c3 : s = 0
      · rw [if_pos (.inl c3)]
        have d3 : (s != 0) = false := by simp [c3]
        clear d1 c1 c3 h3
        go_enter Tryd.func27, Tryd.ntmps27
        go_wp2_with (first | (go_at_call 41; refine h1.mono ?_; rintro r w1 ⟨rfl, rfl⟩) | (go_at_call 42; refine h2.mono ?_; rintro r w2 ⟨rfl, rfl⟩))
        go_ret
        exact ⟨rfl, rfl⟩
      · have d3 : (s != 0) = true := by simpa using c3
        by_cases c4 : 1 ≤ s ∧ s ≤ 1152921504606846976
        · rw [if_pos (.inr c4)]
          have d4 : decide (1 ≤ s ∧ s ≤ 1152921504606846976) = true := decide_eq_true c4
          rw [d4] at h3
          clear d1 c1 c3 c4 d4
          go_enter Tryd.func27, Tryd.ntmps27
          go_wp2_with (first | (go_at_call 41; refine h1.mono ?_; rintro r w1 ⟨rfl, rfl⟩) | (go_at_call 42; refine h2.mono ?_; rintro r w2 ⟨rfl, rfl⟩) | (go_at_call 43; refine h3.mono ?_; rintro r w3 ⟨rfl, rfl⟩))
          go_ret
          exact ⟨rfl, rfl⟩
        · rw [if_neg (by rintro (h | h); exact c3 h; exact c4 h)]
          have d4 : decide (1 ≤ s ∧ s ≤ 1152921504606846976) = false := decide_eq_false c4
          rw [d4] at h3
          clear d1 c1 c3 c4 d4
          go_enter Tryd.func27, Tryd.ntmps27
          go_wp2_with (first | (go_at_call 41; refine h1.mono ?_; rintro r w1 ⟨rfl, rfl⟩) | (go_at_call 42; refine h2.mono ?_; rintro r w2 ⟨rfl, rfl⟩) | (go_at_call 43; refine h3.mono ?_; rintro r w3 ⟨rfl, rfl⟩))
          go_ret
          exact ⟨rfl, rfl⟩
  · have d1 : decide (1 ≤ n ∧ n ≤ 1099511627776) = false := decide_eq_false c1
    rw [d1] at h1 ⊢
    rw [if_neg (by simp)]
    clear d1 c1
    go_enter Tryd.func27, Tryd.ntmps27
    go_wp2_with (first | (go_at_call 41; refine h1.mono ?_; rintro r w1 ⟨rfl, rfl⟩))
    go_ret
    exact ⟨rfl, rfl⟩
set_option maxHeartbeats 1000000 in
/-- All of a file that is there. -/
theorem whole_yes {p mb : Nat} {es : List Ent} {c : Dk.Ctl} {e : Ent} (s : ByteArray) (w : World) (h : Dk.DK w p mb es c) (hf : findE es s.data.toList = some e) (h0 : Dk.fdE es c s.data.toList = 0) (hl : e.da.length < 4611686018427387904) :
    Calls Tryd.prog 28 #[Pt p, .string s] w fun r w' => r = .returned (.tuple #[.string ⟨e.da.toArray⟩, .int .i64 0]) ∧ w' = w := by
  have h1 := Dk.size_any s w h (fun r w' => r = .returned (.tuple #[.int .i64 e.da.length, .int .i64 0]) ∧ w' = w) (fun h => absurd h0 h) (fun e' hf' _ => by rw [hf] at hf'; cases hf'; exact ⟨rfl, rfl⟩)
  have h2 := Dk.read_any s 0 e.da.length w h (by omega) (by omega) (fun r w' => r = .returned (.tuple #[.string ⟨e.da.toArray⟩, .int .i64 0]) ∧ w' = w) (fun h => absurd h0 h) (fun e' hf' _ hn => by rw [hf] at hf'; cases hf'; exact absurd ⟨by omega, by omega, by omega⟩ hn) (fun e' hf' _ _ _ _ => by
    rw [hf] at hf'; cases hf'
    refine ⟨?_, rfl⟩
    simp)
  obtain ⟨n, hn⟩ : ∃ n, n = e.da.length := ⟨_, rfl⟩
  rw [← hn] at h1 h2
  obtain ⟨X, hX⟩ : ∃ X : ByteArray, X = ⟨e.da.toArray⟩ := ⟨_, rfl⟩
  rw [← hX] at h2 ⊢
  clear hf h0 hl hn hX h
  go_enter Tryd.func28, Tryd.ntmps28
  go_wp2_with (first | (go_at_call 44; refine h1.mono ?_; rintro r w1 ⟨rfl, rfl⟩) | (go_at_call 45; refine h2.mono ?_; rintro r w2 ⟨rfl, rfl⟩))
  refine bodyPost_ret (results_tmp2 Tryd.results28 _ _ _) rfl ?_
  exact ⟨rfl, rfl⟩
end Go.Proofs.YtjkhhjboejkafaaDoor
set_option linter.unusedVariables false
set_option linter.unusedSimpArgs false
namespace Go.Proofs.YtjkhhjboejkafaaDoor
open Go.RowKit Go.Shelf Go.Proofs.SealMath
theorem infoUd : (Tryd.prog.info? 39).map (fun i => (i.zero, i.size, i.bytes)) = some (some (.agg #[.int .i64 0, .int .i64 0, .int .i64 0, .string ⟨#[]⟩]), 4, 40) := by kernel_rfl
theorem new_cellU (W : World) (cs : List Value) (t : TypeId) (j : Nat) (u : Value) (hu : cs[j]? = some u) : (W.alloc (.cells cs.toArray t)).cell? ((⟨W.heap.size, 0, none⟩ : Addr).add j) = some u := by
  have e : (⟨W.heap.size, 0, none⟩ : Addr).add j = ⟨W.heap.size, j, none⟩ := by unfold Addr.add; split <;> simp_all
  rw [e, cell_of_row _ _ j _ t (0, 0) (heap_alloc_last W _)]
  simpa using hu
theorem lsU_app (p : List (Up × Nat)) (z : Up × Nat) : lsU (p ++ [z]) = lsU p ++ uL z.1 := by unfold lsU; rw [List.flatMap_append]; simp
theorem up_app (W : World) (p : List (Up × Nat)) (lv : Value) (h : W.ownsRow 0 39 4 lv p.length (lsU p)) (z : Up × Nat) (hb : p.length + 1 ≤ 1099511627776) :
    ∃ v' w', (Builtin.append_ #[32, 32] 32 #[lv, .slice (some ⟨W.heap.size, 0, none⟩) 1 1]).run Tryd.prog (W.alloc (.cells (upV z.1) 39)) = .ok v' w' ∧ w'.ownsRow 0 39 4 v' (p.length + 1) (lsU (p ++ [z])) ∧ Stay (fun k => lv.ownBlock = some k) W w' ∧
      (∀ k, v'.ownBlock = some k → lv.ownBlock = some k ∨ W.heap.size ≤ k) := by
  obtain ⟨i0, hi, hz0, hz1, hz2⟩ := info_parts infoUd
  have st0 : Stay (fun k => lv.ownBlock = some k) W (W.alloc (.cells (upV z.1) 39)) := (Stay.refl _ W).alloc _
  have h' : (W.alloc (.cells (upV z.1) 39)).ownsRow 0 39 4 lv p.length (lsU p) := h.alloc _
  have h1c : ∀ u ∈ uL z.1, u.oneCell' = true := fun u hu => by
    simp [uL, upV, uC] at hu
    rcases hu with rfl | rfl | rfl | rfl <;> rfl
  obtain ⟨v', w', hr, ho, hg, _, hloc⟩ := run_append_own_at (P := Tryd.prog) (W.alloc (.cells (upV z.1) 39)) 0 32 32 39 i0 _ 4 40 Tryd.underlying32 hi hz0 hz1 hz2 rfl (by decide) lv p.length _ h' ⟨W.heap.size, 0, none⟩ 1 1 (uL z.1) rfl (new_cellU W (uL z.1) 39) h1c (by unfold maxLen; omega) (by omega) (Nat.zero_le _)
  refine ⟨v', w', hr, by rw [lsU_app]; exact ho, st0.trans (.grown hg (fun k hk => hk)), fun k hk => ?_⟩
  rcases hloc with hl | hl
  · exact .inl (hl ▸ hk)
  · rw [hl] at hk; cases hk; exact .inr (by simp)
/-- What Look keeps while it goes through: the list's box, the end's, the number's. -/
structure GU (U : World) (lb gb sb : Nat) (s0 : Nat) (p : List (Up × Nat)) (lv : Value) (A : World) : Prop where
  ltl : lb < U.heap.size
  ltg : gb < U.heap.size
  lts : sb < U.heap.size
  box : A.heap[lb]? = some (.cells #[lv] 32 (0, 0))
  gbx : A.heap[gb]? = some (.cells #[.int .i64 (endU p : Nat)] 3 (0, 0))
  sbx : A.heap[sb]? = some (.cells #[.int .i64 ((s0 + p.length : Nat) : Int)] 3 (0, 0))
  row : A.ownsRow 0 39 4 lv p.length (lsU p)
  stay : Stay (fun k => k = lb ∨ k = gb ∨ k = sb) U A
  loc : ∀ k, lv.ownBlock = some k → U.heap.size ≤ k
  ok : okU s0 p
  ne : gb ≠ sb
section
variable {U A B V : World} {lb gb sb s0 : Nat} {p : List (Up × Nat)} {lv lv' : Value} {z : Up × Nat}
theorem GU.kept {F : Nat → Prop} (h : GU U lb gb sb s0 p lv A) (s : Stay F A B) (h1 : ¬ F lb ∧ ¬ F gb ∧ ¬ F sb) (h2 : ∀ k, lv.ownBlock = some k → ¬ F k) (h3 : ∀ k, k < U.heap.size → ¬ F k) : GU U lb gb sb s0 p lv B where
  ltl := h.ltl
  ltg := h.ltg
  lts := h.lts
  box := (s.block lb (Array.getElem?_eq_some_iff.1 h.box).1 h1.1).trans h.box
  gbx := (s.block gb (Array.getElem?_eq_some_iff.1 h.gbx).1 h1.2.1).trans h.gbx
  sbx := (s.block sb (Array.getElem?_eq_some_iff.1 h.sbx).1 h1.2.2).trans h.sbx
  row := row_kept h.row s h2
  stay := h.stay.andThen s (fun k hk e => absurd e (h3 k hk))
  loc := h.loc
  ok := h.ok
  ne := h.ne
theorem GU.below (h : GU U lb gb sb s0 p lv A) (b : Below A.heap.size A B) : GU U lb gb sb s0 p lv B :=
  h.kept (F := fun _ => False) (.below b) ⟨fun h => h, fun h => h, fun h => h⟩ (fun _ _ h => h) (fun _ _ h => h)
theorem GU.grown {row : Option Nat} (h : GU U lb gb sb s0 p lv A) (hg : A.grownBy B row) (hr : ∀ r, row = some r → U.heap.size ≤ r ∧ ∃ o : Obj, A.heap[r]? = some o ∧ o.isCells = false) : GU U lb gb sb s0 p lv B := by
  have h1 := h.ltl
  have h2 := h.ltg
  have h3 := h.lts
  refine h.kept (F := fun k => row = some k) (.grown hg (fun k hk => hk)) ⟨fun e => ?_, fun e => ?_, fun e => ?_⟩ (fun k hk e => ?_) (fun k hk e => ?_)
  · have := (hr lb e).1; omega
  · have := (hr gb e).1; omega
  · have := (hr sb e).1; omega
  · obtain ⟨-, o, ho, hc⟩ := hr k e
    obtain ⟨c, hc'⟩ := row_block h.row hk
    rw [hc'] at ho; cases ho; cases hc
  · have := (hr k e).1; omega
theorem GU.row_ne (h : GU U lb gb sb s0 p lv A) {k : Nat} (hk : lv.ownBlock = some k) : k ≠ lb ∧ k ≠ gb ∧ k ≠ sb := by
  have h0 := h.loc k hk
  have h1 := h.ltl
  have h2 := h.ltg
  have h3 := h.lts
  exact ⟨by omega, by omega, by omega⟩
theorem stayO (W V : World) (g o : Nat) (u : Value) (h : Stay (fun k => k = g) W V) : Stay (fun k => k = g) W (V.setCell ⟨g, o, none⟩ u) := Stay.setCell (F := fun k => k = g) h (p := ⟨g, o, none⟩) (fun _ => rfl) u
/-- One more. -/
theorem GU.app (h : GU U lb gb sb s0 p lv A) (hl : lb ≠ gb ∧ lb ≠ sb) (hz : z.1.s = s0 + p.length + 1) (hr : V.ownsRow 0 39 4 lv' (p.length + 1) (lsU (p ++ [z]))) (st : Stay (fun k => lv.ownBlock = some k) A V) (hloc : ∀ k, lv'.ownBlock = some k → lv.ownBlock = some k ∨ A.heap.size ≤ k) :
    GU U lb gb sb s0 (p ++ [z]) lv' (((V.setCell ⟨lb, 0, none⟩ lv').setCell ⟨sb, 0, none⟩ (.int .i64 z.1.s)).setCell ⟨gb, 0, none⟩ (.int .i64 z.2)) ∧ Stay (fun k => k = lb ∨ k = gb ∨ k = sb ∨ lv.ownBlock = some k) A (((V.setCell ⟨lb, 0, none⟩ lv').setCell ⟨sb, 0, none⟩ (.int .i64 z.1.s)).setCell ⟨gb, 0, none⟩ (.int .i64 z.2)) := by
  have hb : V.heap[lb]? = _ := (st.block lb (Array.getElem?_eq_some_iff.1 h.box).1 (fun e => (h.row_ne e).1 rfl)).trans h.box
  have hg : V.heap[gb]? = _ := (st.block gb (Array.getElem?_eq_some_iff.1 h.gbx).1 (fun e => (h.row_ne e).2.1 rfl)).trans h.gbx
  have hs : V.heap[sb]? = _ := (st.block sb (Array.getElem?_eq_some_iff.1 h.sbx).1 (fun e => (h.row_ne e).2.2 rfl)).trans h.sbx
  obtain ⟨V1, hV1⟩ : ∃ V1, V1 = V.setCell ⟨lb, 0, none⟩ lv' := ⟨_, rfl⟩
  obtain ⟨V2, hV2⟩ : ∃ V2, V2 = V1.setCell ⟨sb, 0, none⟩ (.int .i64 z.1.s) := ⟨_, rfl⟩
  obtain ⟨V3, hV3⟩ : ∃ V3, V3 = V2.setCell ⟨gb, 0, none⟩ (.int .i64 z.2) := ⟨_, rfl⟩
  rw [← hV1, ← hV2, ← hV3]
  have s1 : Stay (fun k => k = lb) V V1 := by rw [hV1]; exact stayO _ _ _ _ _ (.refl _ _)
  have s2 : Stay (fun k => k = sb) V1 V2 := by rw [hV2]; exact stayO _ _ _ _ _ (.refl _ _)
  have s3 : Stay (fun k => k = gb) V2 V3 := by rw [hV3]; exact stayO _ _ _ _ _ (.refl _ _)
  have b1 : V1.heap[lb]? = some (.cells #[lv'] 32 (0, 0)) := by rw [hV1, heap_setCell_same V lb 0 _ _ _ hb]; rfl
  have b2 : V2.heap[lb]? = _ := (s2.block lb (Array.getElem?_eq_some_iff.1 b1).1 hl.2).trans b1
  have b3 : V3.heap[lb]? = _ := (s3.block lb (Array.getElem?_eq_some_iff.1 b2).1 hl.1).trans b2
  have c1 : V1.heap[sb]? = _ := (s1.block sb (Array.getElem?_eq_some_iff.1 hs).1 hl.2.symm).trans hs
  have c2 : V2.heap[sb]? = some (.cells #[.int .i64 z.1.s] 3 (0, 0)) := by rw [hV2, heap_setCell_same V1 sb 0 _ _ _ c1]; rfl
  have c3 : V3.heap[sb]? = _ := (s3.block sb (Array.getElem?_eq_some_iff.1 c2).1 (fun e => h.ne e.symm)).trans c2
  have d1 : V1.heap[gb]? = _ := (s1.block gb (Array.getElem?_eq_some_iff.1 hg).1 hl.1.symm).trans hg
  have d2 : V2.heap[gb]? = _ := (s2.block gb (Array.getElem?_eq_some_iff.1 d1).1 h.ne).trans d1
  have d3 : V3.heap[gb]? = some (.cells #[.int .i64 z.2] 3 (0, 0)) := by rw [hV3, heap_setCell_same V2 gb 0 _ _ _ d2]; rfl
  have sV : Stay (fun k => k = lb ∨ k = gb ∨ k = sb) V V3 := ((s1.mono (fun k _ e => .inl e)).trans (s2.mono (fun k _ e => .inr (.inr e)))).trans (s3.mono (fun k _ e => .inr (.inl e)))
  have sA : Stay (fun k => k = lb ∨ k = gb ∨ k = sb ∨ lv.ownBlock = some k) A V3 := (st.mono (fun k _ e => .inr (.inr (.inr e)))).trans (sV.mono (fun k _ e => by
    rcases e with e | e | e
    · exact .inl e
    · exact .inr (.inl e)
    · exact .inr (.inr (.inl e))))
  have hlen : (p ++ [z]).length = p.length + 1 := by simp
  have hlv : ∀ k, lv'.ownBlock = some k → U.heap.size ≤ k := fun k hk => by
    rcases hloc k hk with e | e
    · exact h.loc k e
    · exact Nat.le_trans h.stay.size e
  refine ⟨{ ltl := h.ltl, ltg := h.ltg, lts := h.lts, box := b3, gbx := by rw [endU_snoc]; exact d3, sbx := by rw [c3, hlen, show s0 + (p.length + 1) = z.1.s by omega], row := by
              rw [hlen]
              exact row_kept hr sV (fun k hk e => by
                have h0 := hlv k hk
                have h1 := h.ltl
                have h2 := h.ltg
                have h3 := h.lts
                omega)
            stay := h.stay.andThen sA (fun k hk e => ?_), loc := hlv, ok := okU_snoc h.ok hz, ne := h.ne }, sA⟩
  rcases e with e | e | e | e
  · exact .inl e
  · exact .inr (.inl e)
  · exact .inr (.inr e)
  · have := h.loc k e; omega
/-- What a body keeps. -/
theorem GU.kp {K : Nat → Prop} (h : GU U lb gb sb s0 p lv A) (st : Stay (fun k => k = lb ∨ k = gb ∨ k = sb ∨ lv.ownBlock = some k) A B) (hK : ∀ k, K k → k ≠ lb ∧ k ≠ gb ∧ k ≠ sb ∧ k < U.heap.size) : KpN K () A B ∧ KeepsOthers A B := by
  have hc : ∀ k, (k = lb ∨ k = gb ∨ k = sb ∨ lv.ownBlock = some k) → ∃ c t m, A.heap[k]? = some (.cells c t m) := fun k e => by
    rcases e with rfl | rfl | rfl | e
    · exact ⟨_, _, _, h.box⟩
    · exact ⟨_, _, _, h.gbx⟩
    · exact ⟨_, _, _, h.sbx⟩
    · obtain ⟨c, hc⟩ := row_block h.row e; exact ⟨_, _, _, hc⟩
  refine ⟨⟨st.size, fun k c t m hk hh => (st.block k (Array.getElem?_eq_some_iff.1 hh).1 (fun e => ?_)).trans hh⟩, ⟨st.size, fun k o hk ho => (st.block k (Array.getElem?_eq_some_iff.1 hk).1 (fun e => ?_)).trans hk⟩⟩
  · obtain ⟨k1, k2, k3, k4⟩ := hK k hk
    rcases e with e | e | e | e
    · exact k1 e
    · exact k2 e
    · exact k3 e
    · have := h.loc k e; omega
  · obtain ⟨c, t, m, h1⟩ := hc k e
    rw [hk] at h1; cases h1; cases ho
end
end Go.Proofs.YtjkhhjboejkafaaDoor
