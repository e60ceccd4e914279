/-
  DERIVED. Sources of lists, and a new merger over them.
-/
import Derived.Test.YtchikfabfhjkgaaMRest
import Derived.Lib.SliceRun
set_option linter.unusedVariables false
set_option linter.unusedSimpArgs false
namespace Go.Proofs.Ytchikfabfhjkgaa
open Go.RowKit
set_option maxRecDepth 100000 in
theorem sourceOf_any (v : Value) (hv : ∃ a n c, v = .slice a n c) (w : World) :
    Calls Try.prog 46 #[v] w fun r w' => r = .returned (.agg #[srcV w.heap.size]) ∧ w'.heap[w.heap.size]? = some (.cells #[v] 24 (0, 0)) ∧ Below w.heap.size w w' := by
  obtain ⟨a, n, c, rfl⟩ := hv
  have hb : Below w.heap.size w (w.alloc (.cells #[.slice a n c] 24)) := (Below.refl _ w).alloc (Nat.le_refl _) _
  have hl := heap_alloc_last w (.cells #[.slice a n c] 24)
  have hmf : ∀ (fn : Fn) (first cap : Array Value) (w : World), (Instr.makeFunc fn first cap).run Try.prog w = .ok (.func fn first cap) w := fun _ _ _ _ => rfl
  have HH := Hid.mk (And.intro hl hb)
  clear hl hb
  go_enter Try.func46, Try.ntmps46
  go_wp2
  refine bodyPost_ret (v := .agg #[.func (.func 56) #[] #[.pointer (some ⟨w.heap.size, 0, none⟩)]]) (by simp [results, Try.results46, go_sem]; try rfl) rfl ?_
  have b2 := HH.out.2.alloc HH.out.2.size (.cells #[.func (.func 56) #[] #[.pointer (some ⟨w.heap.size, 0, none⟩)]] 46)
  have b3 : Below (w.alloc (.cells #[.slice a n c] 24)).heap.size (w.alloc (.cells #[.slice a n c] 24)) ((w.alloc (.cells #[.slice a n c] 24)).alloc (.cells #[.func (.func 56) #[] #[.pointer (some ⟨w.heap.size, 0, none⟩)]] 46)) := (Below.refl _ _).alloc (Nat.le_refl _) _
  exact ⟨rfl, (b3.block w.heap.size (by simp)).trans HH.out.1, b2⟩
theorem infoSrc : (Try.prog.info? 46).map (fun i => (i.zero, i.size, i.bytes)) = some (some (.agg #[.nilFunc]), 1, 8) := by kernel_rfl
set_option maxRecDepth 100000 in
theorem clone_src (sb n c : Nat) (xs : List Value) (w : World) (hn : n ≤ 1024) (h : w.ownsRow 0 46 1 (.slice (some ⟨sb, 0, none⟩) n c) n xs) (h1 : ∀ u ∈ xs, u.oneCell' = true) :
    Calls Try.prog 37 #[.slice (some ⟨sb, 0, none⟩) n c] w fun r w' => ∃ v', r = .returned v' ∧ w'.ownsRow 0 46 1 v' n xs ∧ (∀ k, v'.ownBlock = some k → w.heap.size ≤ k) ∧ Below w.heap.size w w' := by
  obtain ⟨i0, hi0, hz0, hz1, hz2⟩ := info_parts infoSrc
  have hq : ∀ (w : World), (binOp .eql 37 (.slice (some ⟨sb, 0, none⟩) n c) (.slice none 0 0)).run Try.prog w = .ok (.bool false) w := fun w => Lib.run_eql_slice_nil w _ _ (some ⟨sb, 0, none⟩) n c 0 0 Try.underlying37
  have b0 : Below w.heap.size w (w.alloc (.cells #[] 46)) := (Below.refl _ w).alloc (Nat.le_refl _) _
  have ho0 : (w.alloc (.cells #[] 46)).ownsRow 0 46 1 (.slice (some ⟨w.heap.size, 0, none⟩) 0 0) 0 [] := ⟨rfl, .inr ⟨w.heap.size, 0, #[], rfl, Nat.zero_le _, heap_alloc_last w _, Nat.le_refl _, Nat.zero_le _, rfl, rfl⟩⟩
  obtain ⟨v', w', hap, ho, hg, -, hloc⟩ := run_append_own_at (P := Try.prog) (w.alloc (.cells #[] 46)) 0 37 37 46 i0 _ 1 8 Try.underlying37 hi0 hz0 hz1 hz2 rfl (by decide) _ 0 _ ho0 ⟨sb, 0, none⟩ n c xs h.1 (fun j u hu => by
    have h2 := World.ownsRow.cells h (g := sb) rfl j u hu
    exact cell_lat b0 h2) h1 (by unfold maxLen; omega) (by omega) (Nat.zero_le _)
  have st : Stay (fun k => k = w.heap.size) (w.alloc (.cells #[] 46)) w' := .grown hg (fun k hk => by cases hk; rfl)
  have bb : Below w.heap.size w w' := b0.trans (st.toBelow (fun k hk e => by omega) b0.size)
  have hl : ∀ k, v'.ownBlock = some k → w.heap.size ≤ k := fun k hk => by
    rcases hloc with e | e
    · rw [e] at hk; cases hk; exact Nat.le_refl _
    · rw [e] at hk; cases hk; exact b0.size
  rw [Nat.zero_add, List.nil_append] at ho
  have HH := Hid.mk (And.intro ho (And.intro hl bb))
  clear h b0 ho0 ho hg hloc st bb hl hi0 hz0 hz1 hz2
  go_enter Try.func37, Try.ntmps37
  go_wp2_with (at_builtin; refine wpList_append_eq rfl _ _ _ _ rfl _ _ _ _ rfl rfl hap ?_; clear hap)
  go_ret
  exact ⟨v', rfl, HH.out⟩
set_option maxRecDepth 100000 in
theorem new_any (sb n c : Nat) (b : Bool) (xs : List Value) (w : World) (hn : n ≤ 1024) (h : w.ownsRow 0 46 1 (.slice (some ⟨sb, 0, none⟩) n c) n xs) (h1 : ∀ u ∈ xs, u.oneCell' = true) :
    Calls Try.prog 17 #[.slice (some ⟨sb, 0, none⟩) n c, .bool b] w fun r w' => ∃ m v', r = .returned (.pointer (some ⟨m, 0, none⟩)) ∧ Mb w' m v' (.slice none 0 0) (.bool b) (.int .i64 0) ∧ w'.ownsRow 0 46 1 v' n xs ∧ (∀ k, v'.ownBlock = some k → w.heap.size ≤ k) ∧ w.heap.size ≤ m ∧ Below w.heap.size w w' := by
  have hc := clone_src sb n c xs w hn h h1
  have hgt : ¬ (1024 : Int) < (n : Int) := by omega
  clear h h1 hn
  go_enter Try.func17, Try.ntmps17
  go_wp2_with fail
  refine hc.mono ?_
  clear hc
  rintro r w2 ⟨v', rfl, ho, hl, bb⟩
  obtain ⟨va, vc, hv, -⟩ := slice_form ho
  subst hv
  have b3 : Below w2.heap.size w2 (w2.alloc (.cells #[.slice va n vc, .slice none 0 0, .bool b, .int .i64 0] 81)) := (Below.refl _ w2).alloc (Nat.le_refl _) _
  have fin := Hid.mk (And.intro (heap_alloc_last w2 (.cells #[.slice va n vc, .slice none 0 0, .bool b, .int .i64 0] 81)) (And.intro (row_kept ho (F := fun _ => False) (.below b3) (fun _ _ h => h)) (And.intro hl (And.intro bb.size (chain bb b3 (Nat.le_refl _))))))
  clear ho hl bb b3
  go_wp2
  go_ret
  exact ⟨_, _, rfl, fin.out⟩
/-- A merger that has not begun. -/
theorem MQ.start {w0 W : World} {B m : Nat} {bxs : List Nat} {c0 c2 c3 : Value} {R : List (List En)} (hb : Below B w0 W) (hmB : B ≤ m) (hm : Mb W m c0 (.slice none 0 0) c2 c3) (hlen : R.length = bxs.length)
    (hsrc : ∀ (i : Nat) (b : Nat) (r : List En), bxs[i]? = some b → R[i]? = some r → SrcAt w0 B W b r) (hinj : ∀ (i j b : Nat), bxs[i]? = some b → bxs[j]? = some b → i = j) (hup : ∀ r ∈ R, rises r = true) (hs : bxs.length ≤ 1024) :
    MQ w0 B m bxs c0 c2 c3 (.slice none 0 0) [] [] [] R W :=
  { below := hb, mB := hmB, hm := ⟨_, hm, ⟨⟨rfl, .inl ⟨rfl, rfl⟩⟩, fun _ h => by simp at h⟩, Nat.zero_le _⟩
    rowB := fun u k h1 h2 => by
      rw [hm.cell.1] at h1; cases h1; cases h2
    heap := fun j _ hj => by simp at hj
    len := hlen, src := hsrc, inj := hinj
    st := fun _ h => by simp at h
    gvt := fun _ h => by simp at h
    stP := fun _ h => by simp at h
    adr := by simp
    nums := by simp
    up := fun _ h => by simp at h
    ups := hup
    row := ⟨rfl, .inl ⟨rfl, rfl⟩⟩
    apart := fun _ _ _ h => by cases h
    small := hs
    lvB := fun _ h => by cases h }
end Go.Proofs.Ytchikfabfhjkgaa
