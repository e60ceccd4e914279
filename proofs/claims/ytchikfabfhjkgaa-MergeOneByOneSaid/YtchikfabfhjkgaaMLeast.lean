/-
  DERIVED. The sources at the least place are taken out.
-/
import Derived.Test.YtchikfabfhjkgaaMLeast0
set_option linter.unusedVariables false
set_option linter.unusedSimpArgs false
namespace Go.Proofs.Ytchikfabfhjkgaa
open Go.RowKit
def lenV : Value → Nat
  | .slice _ n _ => n
  | _ => 0
def RL (m : Nat) (c0 c2 c3 : Value) (xs : List St) (w : World) (lv : Value) (wr : World) : Prop := ∃ L ys, LI m c0 c2 c3 xs w lv L ys wr
theorem LI.later {m : Nat} {c0 c2 c3 : Value} {xs : List St} {w : World} {lv : Value} {L ys : List St} {wr wr' : World} (h : LI m c0 c2 c3 xs w lv L ys wr) (b : Below wr.heap.size wr wr') : LI m c0 c2 c3 xs w lv L ys wr' := by
  obtain ⟨av, hm, hr, hl⟩ := h.hm
  exact ⟨⟨av, hm.below b, hr.below b, hl⟩, h.heap, h.row.below b, fun k u hk hu => by rw [cell_lat b hm.cell.1] at hu; cases hu; exact h.apart k av hk hm.cell.1, h.perm, h.le, h.srt, h.same, h.fr.trans (FrM.below hm b), h.new⟩
/-- What least leaves. -/
structure LO (m : Nat) (c0 c2 c3 : Value) (xs : List St) (w : World) (lv : Value) (L ys : List St) (wr : World) : Prop where
  li : LI m c0 c2 c3 xs w lv L ys wr
  all : ∀ a ∈ L, ∀ b ∈ ys, cpE b.e a.e ≠ 0
  some' : xs ≠ [] → L ≠ []
theorem LI.out {m : Nat} {c0 c2 c3 : Value} {xs : List St} {w : World} {lv : Value} {L ys : List St} {wr : World} (h : LI m c0 c2 c3 xs w lv L ys wr) (he : ys = [] ∨ (∃ a ∈ L, ∃ y, ys[0]? = some y ∧ cpE y.e a.e ≠ 0)) : LO m c0 c2 c3 xs w lv L ys wr := by
  refine ⟨h, fun a ha b hb hc => ?_, fun hx hL => ?_⟩
  · rcases he with he | ⟨a', ha', y, hy, hne⟩
    · rw [he] at hb; simp at hb
    · have hys : 0 < ys.length := (List.getElem?_eq_some_iff.1 hy).1
      obtain ⟨j, hj, rfl⟩ := List.getElem_of_mem hb
      have hmin := heap_least ordS h.heap j hj
      rw [ltAt_eq ltS ys j 0 hj hys] at hmin
      have hy0 : ys[0] = y := by rw [List.getElem?_eq_getElem hys] at hy; exact Option.some.inj hy
      rw [hy0] at hmin
      have hya := h.le a ha y (by rw [← hy0]; exact List.getElem_mem hys)
      rw [ltS_not] at hmin hya
      have s1 := h.same a' ha' a ha
      have r1 := cpE_rev y.e ys[j].e
      have r2 := cpE_rev y.e a.e
      have r3 := cpE_rev a.e ys[j].e
      have r4 := cpE_rev y.e a'.e
      -- y is not above ys[j], ys[j] is at a's place, a is not above y: y is at a's place
      have t := cpE_tr y.e ys[j].e a.e (by omega) (by omega)
      have t2 : cpE y.e a.e = 0 := by omega
      have t3 := cpE_two t2 (show cpE a.e a'.e = 0 by have := cpE_rev a'.e a.e; omega)
      exact hne t3
  · have := h.perm
    rw [hL, List.nil_append] at this
    rcases he with he | ⟨a', ha', _⟩
    · rw [he] at this; exact hx (List.Perm.eq_nil this.symm)
    · rw [hL] at ha'; simp at ha'
set_option maxHeartbeats 4000000 in
set_option maxRecDepth 100000 in
theorem least_any (xs : List St) (m : Nat) (c0 c2 c3 : Value) (w : World) (h : HM m c0 c2 c3 xs w) (hh : HeapN ltS xs xs.length) :
    Calls Try.prog 53 #[.pointer (some ⟨m, 1, none⟩)] w fun r w' => ∃ lv L ys, r = .returned lv ∧ LO m c0 c2 c3 xs w lv L ys w' := by
  have H0 : Hid (LI m c0 c2 c3 xs w (.slice none 0 0) [] xs w) := show LI m c0 c2 c3 xs w (.slice none 0 0) [] xs w from
    { hm := h, heap := hh, row := ⟨⟨rfl, .inl ⟨rfl, rfl⟩⟩, fun _ h => by simp at h⟩, apart := (fun k av hk => by cases hk), perm := List.Perm.refl _, le := (fun _ h => by simp at h), srt := List.Pairwise.nil, same := (fun _ h => by simp at h), fr := FrM.refl _ _, new := (fun k hk => by cases hk) }
  clear h hh
  go_enter Try.func53, Try.ntmps53
  go_wp2
  go_loopw [3] (fun lv wr => RL m c0 c2 c3 xs w lv wr) (fun lv _ => xs.length - lenV lv)
  case atStart => exact ⟨[], xs, H0.out⟩
  case round =>
    obtain ⟨L, ys, hI⟩ := hrel
    obtain ⟨av, hm, hr, hl⟩ := hI.hm
    have hlen : L.length + ys.length = xs.length := by have := hI.perm.length_eq; rw [List.length_append] at this; exact this
    obtain ⟨la, lc, hlv, -⟩ := slice_form hI.row.own
    obtain ⟨aa, ac, hav, -⟩ := slice_form hr.own
    subst hlv
    subst hav
    obtain ⟨p0, -⟩ := hm.cell
    have HI := Hid.mk hI
    have HM' := Hid.mk (And.intro hm (And.intro hr hl))
    clear hI hm hr hl
    cases ys with
    | nil =>
      have fin : ∀ W, Below wr.heap.size wr W → LO m c0 c2 c3 xs w (.slice la L.length lc) L [] W := fun W b => (HI.out.later b).out (.inl rfl)
      replace fin := Hid.mk fin
      clear HI HM' H0 hlen
      go_wp2
      go_region
      all_goals
        go_wp2
        go_ret
        exact ⟨_, L, [], rfl, fin.out _ (b_drew wr)⟩
    | cons y yt =>
      obtain ⟨n, hn⟩ : ∃ n, n = yt.length := ⟨_, rfl⟩
      have hyn : (y :: yt).length = n + 1 := by rw [hn]; rfl
      rw [hyn] at p0 hlen
      obtain ⟨ys', x, hd, hx0, hyl, hperm, hheap, hleast⟩ := pop_pure (y :: yt) n hyn HI.out.heap
      have hxy : x = y := by simpa using hx0.symm
      subst hxy
      have hLl : L.length < 100000 := by obtain ⟨_, _, _, h4⟩ := H0.out.hm; omega
      have hmeas : xs.length - (L.length + 1) < xs.length - L.length := by omega
      have hmi : ∀ (W : World), (Instr.makeInterface 103 (.pointer (some ⟨m, 1, none⟩))).run Try.prog W = .ok (.iface 103 (.pointer (some ⟨m, 1, none⟩))) W := fun W => by kernel_rfl
      have hta : ∀ (W : World), (Instr.typeAssert (.iface 94 (.pointer (some ⟨x.a, 0, none⟩))) 20 94 false).run Try.prog W = .ok (.pointer (some ⟨x.a, 0, none⟩)) W := fun W => by kernel_rfl
      have hgt : (0 : Int) < (n : Int) + 1 := by omega
      -- the pop and the append behind it, from any world a little later
      have hpop : ∀ W, Below wr.heap.size wr W → (∀ a ∈ L, cpE x.e a.e = 0) → Calls Try.prog 60 #[.iface 103 (.pointer (some ⟨m, 1, none⟩))] W fun r w2 => r = .returned (.iface 94 (.pointer (some ⟨x.a, 0, none⟩))) ∧ w2.ownsRow 0 94 1 (.slice la L.length lc) L.length (L.map Pp) ∧ ∀ v' w3, w3.ownsRow 0 94 1 v' (L ++ [x]).length ((L ++ [x]).map Pp) → Stay (fun k => (Value.slice la L.length lc).ownBlock = some k) w2 w3 → (∀ k, v'.ownBlock = some k → (Value.slice la L.length lc).ownBlock = some k ∨ w2.heap.size ≤ k) → RL m c0 c2 c3 xs w v' w3 := fun W b hs => by
        have hI := HI.out.later b
        exact (pop_any (hops m c0 c2 c3) (hops2 m c0 c2 c3) (x :: yt) ys' x n W hI.hm hyn hd).mono fun r w2 ⟨e, h2, f2⟩ => ⟨e, by
          obtain ⟨av, hm, hr, hl⟩ := hI.hm
          exact (hI.row.frm hm hr f2 (fun k hk => hI.apart k av hk hm.cell.1)).own, fun v' w3 ho s3 hloc => ⟨L ++ [x], ys', hI.pop hx0 hperm hheap hleast hs h2 f2 ho s3 hloc⟩⟩
      replace hpop := Hid.mk hpop
      cases L with
      | nil =>
        clear HI HM' H0 hd hx0 hperm hheap hleast hyl
        go_wp2
        go_region
        have hp := hpop.out wr.drew (b_drew wr) (fun a ha => by simp at ha)
        clear hpop
        replace hmeas := Hid.mk hmeas
        go_wp2_with first
          | (go_at_call 60; refine hp.mono ?_; clear hp; rintro r w2 ⟨rfl, ho2, hnx⟩; obtain ⟨v', w3, hap, ho3, s3, hloc3⟩ := st_app w2 [] x (.slice la 0 lc) ho2 hLl; obtain ⟨va, vc, hv', -⟩ := slice_form ho3; subst hv'; replace hnx := Hid.mk (hnx _ w3 ho3 s3 hloc3); clear ho2 ho3 s3 hloc3)
          | (at_builtin; refine wpList_append_eq rfl _ _ _ _ rfl _ _ _ _ rfl rfl hap ?_; clear hap)
        exact ⟨hnx.out, by simp only [lenV]; exact hmeas.out⟩
      | cons B Lt =>
        have hcB : ∀ a ∈ (B :: Lt), cpE B.e a.e = 0 := fun a ha => HI.out.same B (by simp) a ha
        obtain ⟨g, gc, hg, q0, -⟩ := HI.out.row.at' 0 (by simp)
        obtain ⟨b, bc, hb, r0, -⟩ := HM'.out.2.1.at' 0 (by simp)
        simp only [Value.slice.injEq] at hg hb
        obtain ⟨rfl, -, rfl⟩ := hg
        obtain ⟨rfl, -, rfl⟩ := hb
        have hA := HM'.out.2.1.st x (by simp)
        have hB := HI.out.row.st B (by simp)
        have fin : ∀ W, Below wr.heap.size wr W → cpE x.e B.e ≠ 0 → LO m c0 c2 c3 xs w (.slice (some ⟨g, 0, none⟩) (B :: Lt).length lc) (B :: Lt) (x :: yt) W := fun W b hne => (HI.out.later b).out (.inr ⟨B, by simp, x, rfl, hne⟩)
        replace fin := Hid.mk fin
        have hcmp := compare_any x.e B.e
        simp only [enC] at hcmp
        have x0 := hA.cells 2 _ rfl
        have x1 := hA.cells 3 _ rfl
        have x2 := hA.cells 4 _ rfl
        have x3 := hA.cells 5 _ rfl
        have x4 := hA.cells 6 _ rfl
        have y0 := hB.cells 2 _ rfl
        have y1 := hB.cells 3 _ rfl
        have y2 := hB.cells 4 _ rfl
        have y3 := hB.cells 5 _ rfl
        have y4 := hB.cells 6 _ rfl
        simp only [List.getElem_cons_zero] at q0 r0
        have hLI : (0 : Int) < ((B :: Lt).length : Nat) := by simp only [List.length_cons]; omega
        obtain ⟨N, hN⟩ : ∃ N, N = (B :: Lt).length := ⟨_, rfl⟩
        have hN0 : ((N : Int) == 0) = false := by
          apply beq_false_of_ne
          rw [hN]; simp only [List.length_cons]; omega
        rw [← hN] at hpop fin hLI hmeas hLl ⊢
        have HN := Hid.mk hN
        have hcB' := Hid.mk hcB
        clear HI HM' H0 hd hx0 hperm hheap hleast hyl hA hB hcB hN hlen
        obtain ⟨q, hq⟩ : ∃ q, q = cpE x.e B.e := ⟨_, rfl⟩
        rw [← hq] at hcmp fin
        replace hmeas := Hid.mk hmeas
        by_cases h0 : q = 0
        · have hq0 : (q == 0) = true := by simp [h0]
          have hall : ∀ a ∈ (B :: Lt), cpE x.e a.e = 0 := fun a ha => cpE_two (hq.symm.trans h0) (hcB'.out a ha)
          replace hpop := Hid.mk (fun W b => hpop.out W b hall)
          clear h0 hq hall fin
          go_wp2
          go_region_held (fun w' => Below wr.heap.size wr w' ∧ w'.cell? ⟨m, 1, none⟩ = some (.slice (some ⟨b, 0, none⟩) (n + 1) ac) ∧ w'.cell? ⟨b, 0, none⟩ = some (.pointer (some ⟨x.a, 0, none⟩)) ∧ w'.cell? ⟨g, 0, none⟩ = some (.pointer (some ⟨B.a, 0, none⟩)) ∧ w'.cell? ⟨x.a, 2, none⟩ = some (.int .i64 x.e.v) ∧ w'.cell? ⟨x.a, 3, none⟩ = some (.string x.e.c) ∧ w'.cell? ⟨x.a, 4, none⟩ = some (.int .i64 x.e.i) ∧ w'.cell? ⟨x.a, 5, none⟩ = some (.int .i64 x.e.s) ∧ w'.cell? ⟨x.a, 6, none⟩ = some (.bool x.e.d) ∧ w'.cell? ⟨B.a, 2, none⟩ = some (.int .i64 B.e.v) ∧ w'.cell? ⟨B.a, 3, none⟩ = some (.string B.e.c) ∧ w'.cell? ⟨B.a, 4, none⟩ = some (.int .i64 B.e.i) ∧ w'.cell? ⟨B.a, 5, none⟩ = some (.int .i64 B.e.s) ∧ w'.cell? ⟨B.a, 6, none⟩ = some (.bool B.e.d))
            ((refine (fun hb => ⟨hb, cell_lat hb p0, cell_lat hb r0, cell_lat hb q0, cell_lat hb x0, cell_lat hb x1, cell_lat hb x2, cell_lat hb x3, cell_lat hb x4, cell_lat hb y0, cell_lat hb y1, cell_lat hb y2, cell_lat hb y3, cell_lat hb y4⟩) ?_; first | exact bb | exact b_drew wr))
            ((go_at_call 9; refine (hcmp _).mono ?_; clear hcmp; rintro r w4 ⟨rfl, b4⟩; have bb : Below wr.heap.size wr w4 := below_d b4))
          all_goals
            rename_i hHeld
            clear hHeld
            have hp := hpop.out w4 bb
            clear hpop bb b4
            go_wp2_with first
              | (go_at_call 60; refine hp.mono ?_; clear hp; rintro r w2 ⟨rfl, ho2, hnx⟩; rw [HN.out] at ho2 hnx; obtain ⟨v', w3, hap, ho3, s3, hloc3⟩ := st_app w2 (B :: Lt) x _ ho2 (by rw [← HN.out]; exact hLl); obtain ⟨va, vc, hv', -⟩ := slice_form ho3; subst hv'; replace hnx := Hid.mk (hnx _ w3 ho3 s3 hloc3); rw [← HN.out] at hap; clear ho2 ho3 s3 hloc3)
              | (at_builtin; refine wpList_append_eq rfl _ _ _ _ rfl _ _ _ _ rfl rfl hap ?_; clear hap)
            have e : (B :: Lt ++ [x]).length = Lt.length + 1 + 1 := by simp
            rw [e] at hnx
            refine ⟨hnx.out, ?_⟩
            have h1 := HN.out
            have h2 := hmeas.out
            simp only [List.length_cons] at h1
            simp only [lenV]
            omega
        · have hq0 : (q == 0) = false := by simpa using h0
          have H0' := Hid.mk h0
          clear h0 hq hpop hmeas
          go_wp2
          go_region_held (fun w' => Below wr.heap.size wr w' ∧ w'.cell? ⟨m, 1, none⟩ = some (.slice (some ⟨b, 0, none⟩) (n + 1) ac) ∧ w'.cell? ⟨b, 0, none⟩ = some (.pointer (some ⟨x.a, 0, none⟩)) ∧ w'.cell? ⟨g, 0, none⟩ = some (.pointer (some ⟨B.a, 0, none⟩)) ∧ w'.cell? ⟨x.a, 2, none⟩ = some (.int .i64 x.e.v) ∧ w'.cell? ⟨x.a, 3, none⟩ = some (.string x.e.c) ∧ w'.cell? ⟨x.a, 4, none⟩ = some (.int .i64 x.e.i) ∧ w'.cell? ⟨x.a, 5, none⟩ = some (.int .i64 x.e.s) ∧ w'.cell? ⟨x.a, 6, none⟩ = some (.bool x.e.d) ∧ w'.cell? ⟨B.a, 2, none⟩ = some (.int .i64 B.e.v) ∧ w'.cell? ⟨B.a, 3, none⟩ = some (.string B.e.c) ∧ w'.cell? ⟨B.a, 4, none⟩ = some (.int .i64 B.e.i) ∧ w'.cell? ⟨B.a, 5, none⟩ = some (.int .i64 B.e.s) ∧ w'.cell? ⟨B.a, 6, none⟩ = some (.bool B.e.d))
            ((refine (fun hb => ⟨hb, cell_lat hb p0, cell_lat hb r0, cell_lat hb q0, cell_lat hb x0, cell_lat hb x1, cell_lat hb x2, cell_lat hb x3, cell_lat hb x4, cell_lat hb y0, cell_lat hb y1, cell_lat hb y2, cell_lat hb y3, cell_lat hb y4⟩) ?_; first | exact bb | exact b_drew wr))
            ((go_at_call 9; refine (hcmp _).mono ?_; clear hcmp; rintro r w4 ⟨rfl, b4⟩; have bb : Below wr.heap.size wr w4 := below_d b4))
          all_goals
            rename_i hHeld
            clear hHeld
            go_wp2
            go_ret
            exact ⟨_, _, _, rfl, fin.out _ bb H0'.out⟩
end Go.Proofs.Ytchikfabfhjkgaa
