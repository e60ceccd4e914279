/-
  DERIVED. await: the children that may be looked at are put behind what waits, the furthest first.
-/
import Derived.Test.YtnnbcdfpbdmgdaaDoorTAw0
set_option linter.unusedVariables false
set_option linter.unusedSimpArgs false
set_option linter.unnecessarySimpa false
namespace Go.Proofs.YtnnbcdfpbdmgdaaDoor
open Go.RowKit Go.Maps Go.Sort Go.Proofs.BitMath Go.Proofs.TreeMath
theorem infSt : (Tryd.prog.info? 91).map (fun i => (i.zero, i.size, i.bytes)) = some (some (.agg #[.pointer none, .int .i64 0, .int .i64 0]), 3, 24) := by kernel_rfl
abbrev mayF (bf : Nat) : Value := .func (.func 55) #[] #[.pointer (some ⟨bf, 0, none⟩)]
set_option maxHeartbeats 4000000 in
set_option maxRecDepth 100000 in
theorem await_none {n t wd : Nat} {T : List (Nd (Cd n))} {bs : List Nat} {ms : List (Option Nat)} {x : Num} (W : World) (h : TR W t wd T bs ms x) {j : Nat} {nd : Nd (Cd n)} (hj : T[j]? = some nd) {b : Nat} (hb : bs[j]? = some b) (hm : ms[j]? = some none) (L : List St) (B : Nat) (wv : Value) (hL : W.ownsRow B 91 3 wv L.length (L.flatMap (stV bs))) (D bf : Nat) :
    Calls Tryd.prog 57 #[.pointer (some ⟨b, 0, none⟩), wv, .int .i64 (D : Nat), mayF bf] W fun r w' => r = .returned wv ∧ Below W.heap.size W w' := by
  obtain ⟨b', m', hb', hm', -, q0, q1, q2, qf, hbl⟩ := h.at_ hj
  rw [hb] at hb'
  cases hb'
  rw [hm] at hm'
  cases hm'
  obtain ⟨wa, wc, rfl, hwl⟩ := slice_form hL
  have hs0 := fun p c w => AnyF.slices_SortFunc_none (P := Tryd.prog) Tryd.sortL p c (.func (.func 68) #[] #[]) w
  clear h
  go_enter Tryd.func57, Tryd.ntmps57
  go_wp2_with (first
    | (at_range; refine wpList_range_nil _ rfl _ rfl rfl ?_)
    | go_in)
  try go_frame
  go_loopw [1] (fun v wq => v = .slice wa L.length wc ∧ wq = W.alloc (.mapIter none 0 #[] 0)) (fun _ _ => 0)
  case atStart => exact ⟨rfl, rfl⟩
  case round =>
    obtain ⟨rfl, rfl⟩ := hrel
    have e1 : ((L.length : Int) ≤ (wc : Int)) := by omega
    have e2 : (0 : Int) ≤ (L.length : Int) := by omega
    go_wp2_with (first
      | (at_next; refine wpList_next_nil _ rfl _ rfl W.heap.size rfl Array.getElem?_push_size ?_)
      | (go_at_call 67; refine (hs0 _ _ _).mono ?_; rintro e w' ⟨rfl, rfl⟩)
      | go_in)
    all_goals first
      | (go_ret; exact ⟨rfl, (Below.refl _ _).alloc (Nat.le_refl _) _⟩)
      | (exfalso; omega)
theorem below_grown {w w' : World} (b : Below w.heap.size w w') : w.grownBy w' none := ⟨b.os, b.tape, b.output, b.size, fun k hk _ => b.block k hk⟩
theorem cells_newS (W : World) (bs : List Nat) (s : St) (t : TypeId) (j : Nat) (u : Value) (hu : (stV bs s)[j]? = some u) : (W.alloc (.cells #[.pointer (some ⟨bs[s.node]?.getD 0, 0, none⟩), .int .i64 (s.edge : Nat), .int .i64 (s.par : Nat)] t)).cell? ((⟨W.heap.size, 0, none⟩ : Addr).add j) = some u := by
  have e : (⟨W.heap.size, 0, none⟩ : Addr).add j = ⟨W.heap.size, j, none⟩ := by unfold Addr.add; split <;> simp_all
  rw [e]
  have hh : (W.alloc (.cells #[.pointer (some ⟨bs[s.node]?.getD 0, 0, none⟩), .int .i64 (s.edge : Nat), .int .i64 (s.par : Nat)] t)).heap[W.heap.size]? = some (.cells #[.pointer (some ⟨bs[s.node]?.getD 0, 0, none⟩), .int .i64 (s.edge : Nat), .int .i64 (s.par : Nat)] t (0, 0)) := Array.getElem?_push_size
  simp only [World.cell?, hh]
  simpa [stV, ptr] using hu
theorem own_ne_low {W w : World} {B e sz n mb : Nat} {v wv : Value} {xs : List Value} (h : w.ownsRow B e sz v n xs) (hm : mb < W.heap.size) (hl : ∀ k, v.ownBlock = some k → wv.ownBlock = some k ∨ W.heap.size ≤ k) (hw : wv.ownBlock ≠ some mb) : some mb ≠ v.ownBlock := fun e => by
  rcases hl mb e.symm with h1 | h1
  · exact hw h1
  · omega
theorem wpList_append_eq {P : Program} {w : World} {ops : Array Oper} {rest : List Oper} {o : Oper} {a : Act} {Q : Exit → Act → World → Prop} (hgd : o.guard = none) (s x : Operand) (t u : TypeId)
    (ho : o.op = .call { callee := .builtin .append, args := #[s, x], argTypes := #[t, u] }) (v xv v' : Value) (w' : World) (hs : a.eval s = v) (hx : a.eval x = xv) (hr : (Builtin.append_ #[t, u] o.type #[v, xv]).run P w = .ok v' w')
    (h : wpList P ops Q rest (a.put o.dst v') w') : wpList P ops Q (o :: rest) a w := by
  refine wpList_plain hgd fun K hK => ?_
  unfold Oper.wp execOp
  simp only [ho, resolve, invoke, builtin, Sem.run_bind, Sem.run_pure, Result.andThen_ok, List.map_toArray, List.map_cons, List.map_nil, hs, hx, hr]
  exact hK _ _ h
/-- What awaiting leaves. -/
def AwO (W : World) (B : Nat) (wv : Value) (bs : List Nat) (X : List St) (r : Ending) (w' : World) : Prop := ∃ v, r = .returned v ∧ w'.ownsRow B 91 3 v X.length (X.flatMap (stV bs)) ∧ (∀ k, v.ownBlock = some k → wv.ownBlock = some k ∨ W.heap.size ≤ k) ∧ Stay (fun k => wv.ownBlock = some k) W w'
/-- What stands while the children are met. -/
structure AW {n : Nat} (W wq : World) (T : List (Nd (Cd n))) (bs : List Nat) (L : List St) (B : Nat) (wv : Value) (D bd : Nat) (ks : List Nat) (v : Value) : Prop where
  row : wq.ownsRow B 91 3 v (L ++ stF T D bd ks).length ((L ++ stF T D bd ks).flatMap (stV bs))
  loc : ∀ k, v.ownBlock = some k → wv.ownBlock = some k ∨ W.heap.size ≤ k
  st : Stay (fun k => wv.ownBlock = some k) W wq
set_option maxHeartbeats 4000000 in
set_option maxRecDepth 100000 in
theorem await_some {n t wd : Nat} {T : List (Nd (Cd n))} {bs : List Nat} {ms : List (Option Nat)} {x : Num} (W : World) (h : TR W t wd T bs ms x) {j : Nat} {nd : Nd (Cd n)} (hj : T[j]? = some nd) {b mb : Nat} (hb : bs[j]? = some b) (hm : ms[j]? = some (some mb)) (L : List St) (B : Nat) (wv : Value) (hL : W.ownsRow B 91 3 wv L.length (L.flatMap (stV bs))) (hLl : L.length ≤ T.length) (D bf g bd : Nat) (hD : D ≤ 8192) (hbd : bd ≤ 8192) (h3 : W.cell? ⟨bf, 0, none⟩ = some (.pointer (some ⟨g, 0, none⟩))) (h4 : W.cell? ⟨g, 1, none⟩ = some (.int .i64 (bd : Nat))) (hb3 : wv.ownBlock ≠ some bf) (hb4 : wv.ownBlock ≠ some g) (hBW : B ≤ W.heap.size) (htb : ∀ k, TFoot t bs ms k → wv.ownBlock ≠ some k) {dq : Nat → Nat} (hdq : dq j = D) :
    Calls Tryd.prog 57 #[.pointer (some ⟨b, 0, none⟩), wv, .int .i64 (D : Nat), mayF bf] W (AwO W B wv bs (L ++ kids T dq bd j 0 wd)) := by
  obtain ⟨b', m', hb', hm', -, q0, q1, q2, qf, hbl⟩ := h.at_ hj
  rw [hb] at hb'
  cases hb'
  rw [hm] at hm'
  cases hm'
  obtain ⟨cc, Dm, hown, hcc, hkd⟩ := (h.kids j mb hm).ex
  have hmbl : mb < W.heap.size := hown.lt
  have hmw : wv.ownBlock ≠ some mb := htb mb (.inr (.inr (List.mem_of_getElem? hm)))
  have hsm := h.small
  have hwf := h.wf
  have h8 := h.eight
  have hwid := h.wid
  obtain ⟨i0, hi, hz0, hz1, hz2⟩ := info_parts infSt
  have hs0 := fun p c w => AnyF.slices_SortFunc_none (P := Tryd.prog) Tryd.sortL p c (.func (.func 68) #[] #[]) w
  obtain ⟨wa, wc, hwv, hwl⟩ := slice_form hL
  have HT := Hid.mk (And.intro hwf (And.intro h8 hdq))
  have HL := Hid.mk hL
  have HN := Hid.mk (And.intro hs0 hkd)
  subst hwv
  clear h hwf h8 hL hs0 hdq
  go_enter Tryd.func57, Tryd.ntmps57
  go_wp2_with (first
    | (at_range; refine wpList_range_own _ rfl _ 71 rfl 3 62 law3 Tryd.underlying71 _ mb cc _ rfl hown ?_; intro w4 hrg4 hg4 hs4)
    | go_in)
  have H0 := Hid.mk (show AW W w4 T bs L B (.slice wa L.length wc) D bd [] (.slice wa L.length wc) from by
    have st : Stay (fun k => (Value.slice wa L.length wc).ownBlock = some k) W w4 := .grown hg4 (fun k hk => by cases hk)
    exact ⟨by simpa [stF] using row_kept (F := fun _ => False) HL.out (.grown hg4 (fun k hk => by cases hk)) (fun _ _ h => h), fun k hk => .inl hk, st⟩)
  clear hg4 hs4
  try go_frame
  go_loopw [1] (fun v wq => ∃ (left : Lit → Bool) (cnt : Nat) (ks : List Nat), wq.ranges Tryd.prog 3 ptrE mb W.heap.size cc Dm left cnt ∧ KL T j left ks ∧ Hid (AW W wq T bs L B (.slice wa L.length wc) D bd ks v)) (fun _ wq => wq.rangeLeft mb W.heap.size)
  case atStart => exact ⟨_, _, [], hrg4, KL.start HN.out.2, H0⟩
  case round =>
    obtain ⟨left, cnt, ks, hrg, hkl, HJ⟩ := hrel
    have hkll := hkl.lle
    have hfl : (stF T D bd ks).length ≤ ks.length := by
      unfold stF
      refine Nat.le_trans (List.length_filter_le _ _) ?_
      simp
    have hrow := HJ.out.row
    have hrl : (L ++ stF T D bd ks).length = L.length + (stF T D bd ks).length := List.length_append
    obtain ⟨va, vc, hvf, hvl⟩ := slice_form hrow
    obtain ⟨N, hN⟩ : ∃ N, N = (L ++ stF T D bd ks).length := ⟨_, rfl⟩
    rw [← hN] at hrow hvf hvl hrl
    have hNb : N ≤ 2 * T.length := by omega
    have HQ := Hid.mk (And.intro hN hrl)
    clear hN hrl
    have c3 := (HJ.out.st.block bf (World.block_lt_of_cell? W _ h3) hb3)
    have c3 : wr.cell? ⟨bf, 0, none⟩ = some (.pointer (some ⟨g, 0, none⟩)) := by unfold World.cell? at h3 ⊢; rw [c3]; exact h3
    have c4 := (HJ.out.st.block g (World.block_lt_of_cell? W _ h4) hb4)
    have c4 : wr.cell? ⟨g, 1, none⟩ = some (.int .i64 (bd : Nat)) := by unfold World.cell? at h4 ⊢; rw [c4]; exact h4
    subst hvf
    go_wp2_with (first
      | (at_next; refine wpList_next_ranges _ rfl _ rfl 3 law3 ptrE (Value.int .i64) Value.pointer (fun key kl hk => by obtain ⟨x, hx, _⟩ := Maps.keyOf_int_inv Tryd.underlying3 hk; exact ⟨x, hx⟩) (fun v y hv => ptrE_inv hv) mb W.heap.size cc _ _ _ rfl hrg ?_ ?_)
      | go_in)
    · intro hc0 hl0
      obtain ⟨hN, hrl⟩ := HQ.out
      subst hN
      have hka := hkl.all HT.out.1 hl0
      clear hrg
      obtain ⟨F, hF⟩ : ∃ F, F = stF T D bd ks := ⟨_, rfl⟩
      have hst := HJ.out.st
      have hlocv := HJ.out.loc
      have HK := Hid.mk (fun (K : List St) (hp : K.Perm (stF T D bd ks)) (hs : K.Pairwise (fun a b => b.edge ≤ a.edge)) => stF_kids HT.out.1 hka HT.out.2.2 HT.out.2.1 hp hs)
      rw [← hF] at hrow hvl hlocv HK hrl ⊢
      have hFl : F.length ≤ T.length := by rw [hF]; omega
      clear hF hfl HJ hkl hka
      by_cases hnil : F = []
      · subst hnil
        (try simp only [List.append_nil, List.length_nil, Nat.add_zero] at hrow)
        (try simp only [List.append_nil, List.length_nil, Nat.add_zero] at hvl)
        (try simp only [List.append_nil, List.length_nil, Nat.add_zero] at hlocv)
        (try simp only [List.append_nil, List.length_nil, Nat.add_zero])
        clear hrl
        have e2 : (0 : Int) ≤ (L.length : Int) := by omega
        go_wp2_with (first
          | (go_at_call 67; refine (HN.out.1 _ _ _).mono ?_; rintro e w' ⟨rfl, rfl⟩)
          | go_in)
        all_goals
          go_ret
          have hk0 := HK.out [] (List.Perm.refl _) List.Pairwise.nil
          rw [← hk0, List.append_nil]
          first
            | (have hvc : vc = L.length := by omega
               rw [hvc] at hrow hlocv
               exact ⟨_, rfl, hrow, hlocv, hst⟩)
            | exact ⟨_, rfl, hrow, hlocv, hst⟩
      · have hpos : 0 < F.length := List.length_pos_iff.2 hnil
        obtain ⟨g5, hva⟩ : ∃ g5, va = some ⟨g5, 0, none⟩ := by
          rcases hrow.2 with ⟨h0, hz⟩ | ⟨g5, c5, cur, h0, _⟩
          · omega
          · simp only [Value.slice.injEq] at h0
            exact ⟨g5, h0.1⟩
        subst hva
        have ea : (⟨g5, 0, none⟩ : Addr).add (L.length * 3) = ⟨g5, L.length * 3, none⟩ := by unfold Addr.add; split <;> simp_all
        have hsrt := fun c2 => sort_steps bs L F B g5 vc wr hrow (by omega) c2
        have HS := Hid.mk hsrt
        have e2 : (0 : Int) ≤ (L.length : Int) := by omega
        rw [hrl] at hvl
        clear hsrt
        go_wp2_with (first
          | (go_at_call 67; refine (HS.out _).mono ?_; rintro e w' ⟨rfl, K', hp, hs, hr', st'⟩)
          | go_in)
        all_goals first
          | (exfalso; omega)
          | skip
        go_ret
        have hK := HK.out K' hp hs
        subst hK
        refine ⟨_, rfl, ?_, hlocv, hst.andThen st' (fun k hk e => ?_)⟩
        · have hl2 : (L ++ F).length = (L ++ kids T dq bd j 0 wd).length := by rw [List.length_append, List.length_append, hp.length_eq]
          rw [hl2] at hr'
          rw [hl2] at hrl
          rw [← hrl]
          exact hr'
        · subst e
          rcases hlocv k rfl with e | e
          · exact e
          · omega
    · intro z c kl yd yp w6 cnt2 hkey hlk hv hat hrg2 hlt hg2 hs2 hen
      obtain ⟨z', ez, rfl, -⟩ := Maps.keyOf_int_inv Tryd.underlying3 hkey
      cases ez
      obtain ⟨k, hyk, hkl2, hkT, hch, hz⟩ := hkl.step2 HN.out.2 hlk hat
      have hpc : Value.pointer c = .pointer (some ⟨bs.getD k 0, 0, none⟩) := ptrE_block (ps := yp) (by rw [hv, ← hyk])
      cases hpc
      obtain ⟨nk, hk1, hk2, hk3⟩ := child_some hch
      obtain ⟨d1, d2⟩ := dist_le HT.out.1 hk1 hk2
      have hn8 : n ≤ 128 := by have := isW_bd hwid; have := HT.out.2.1; omega
      obtain ⟨e, rfl⟩ : ∃ e : Nat, z = (e : Int) := ⟨z.toNat, by omega⟩
      rw [Int.toNat_natCast] at hk3 hch
      have he : e ≤ 8192 := by omega
      have hstp : stp T D k = ⟨k, e, D⟩ := by rw [stp_eq hk1, hk3]
      have st6 : Stay (fun q => q = W.heap.size) wr w6 := .grown hg2 (fun q hq => by cases hq; rfl)
      have hbf : bf < W.heap.size := World.block_lt_of_cell? W _ h3
      have hgg : g < W.heap.size := World.block_lt_of_cell? W _ h4
      have hWr : W.heap.size ≤ wr.heap.size := HJ.out.st.size
      have x3 : w6.cell? ⟨bf, 0, none⟩ = some (.pointer (some ⟨g, 0, none⟩)) := by
        have := st6.block bf (by omega) (by omega)
        unfold World.cell? at c3 ⊢; rw [this]; exact c3
      have x4 : w6.cell? ⟨g, 1, none⟩ = some (.int .i64 (bd : Nat)) := by
        have := st6.block g (by omega) (by omega)
        unfold World.cell? at c4 ⊢; rw [this]; exact c4
      have hr6 := hrow.kept hg2 (Or.inr (row_ne_iter hrow hrg).symm)
      have hW6 := st6.size
      have stW6 : Stay (fun k => (Value.slice wa L.length wc).ownBlock = some k) W w6 := HJ.out.st.andThen st6 (fun q hq e => by omega)
      have hmay := fun w h3 h4 => may_any (some ⟨bs[k]?.getD 0, 0, none⟩) e D bd bf g he hD hbd w h3 h4 k
      have HM := Hid.mk hmay
      have HR := Hid.mk (And.intro hr6 (And.intro stW6 (And.intro hrg2 (And.intro hkl2 hstp))))
      clear hs2 hmay hr6 stW6 st6 hkl2 hstp hk1 hk2 hk3 hch hat hlk hkey hv hyk
      have hb1 : N + 1 ≤ maxLen := by unfold maxLen; omega
      have hb2 : (N + 1) * 24 ≤ 140737488355328 := by omega
      go_wp2_with fail
      have b7 : Below w6.heap.size w6 (w6.alloc (.cells #[.pointer (some ⟨bs[k]?.getD 0, 0, none⟩), .int .i64 (e : Nat), .int .i64 (D : Nat)] 91)) := (Below.refl _ w6).alloc (Nat.le_refl _) _
      refine (HM.out _ (cell_lat b7 x3) (cell_lat b7 x4)).mono ?_
      rintro e' w8 ⟨rfl, b8⟩
      have b68 := chain b7 b8 (Nat.le_refl _)
      have y0 := cell_lat b8 (show (w6.alloc (.cells #[.pointer (some ⟨bs[k]?.getD 0, 0, none⟩), .int .i64 (e : Nat), .int .i64 (D : Nat)] 91)).cell? ⟨w6.heap.size, 0, none⟩ = some (.pointer (some ⟨bs[k]?.getD 0, 0, none⟩)) by go_simp)
      have y1 := cell_lat b8 (show (w6.alloc (.cells #[.pointer (some ⟨bs[k]?.getD 0, 0, none⟩), .int .i64 (e : Nat), .int .i64 (D : Nat)] 91)).cell? ⟨w6.heap.size, 1, none⟩ = some (.int .i64 (e : Nat)) by go_simp)
      have y2 := cell_lat b8 (show (w6.alloc (.cells #[.pointer (some ⟨bs[k]?.getD 0, 0, none⟩), .int .i64 (e : Nat), .int .i64 (D : Nat)] 91)).cell? ⟨w6.heap.size, 2, none⟩ = some (.int .i64 (D : Nat)) by go_simp)
      have hr8 := row_kept (F := fun _ => False) HR.out.1 (.below b68) (fun _ _ h => h)
      have hrg8 := HR.out.2.2.1.kept (below_grown b68) (by simp) (by simp)
      have st8 : Stay (fun k => (Value.slice wa L.length wc).ownBlock = some k) W w8 := HR.out.2.1.andThen (Stay.below (F := fun _ => False) b68) (fun _ _ h => h.elim)
      have hsz8 := b68.size
      have H8 := Hid.mk (And.intro hr8 (And.intro hrg8 st8))
      clear b8 b68 b7 x3 x4 hr8 hrg8 st8
      by_cases hmy : may bd ⟨k, e, D⟩
      · rw [decide_eq_true hmy]
        obtain ⟨v9, w9, hap, hr9, hg9, -, hloc9⟩ := run_append_own_at (P := Tryd.prog) (w8.alloc (.cells #[.pointer (some ⟨bs[k]?.getD 0, 0, none⟩), .int .i64 (e : Nat), .int .i64 (D : Nat)] 91)) B 96 96 91 i0 _ 3 24 Tryd.underlying96 hi hz0 hz1 hz2 rfl (by decide) _ N _ (H8.out.1.alloc _) ⟨w8.heap.size, 0, none⟩ 1 1 (stV bs ⟨k, e, D⟩) rfl (fun j u hu => cells_newS w8 bs ⟨k, e, D⟩ _ j u hu) (stV_one bs _) hb1 hb2 (by simp; omega)
        have HA := Hid.mk hap
        clear hap
        go_wp2_with (first
          | (at_builtin; refine wpList_append_eq rfl _ _ _ _ rfl _ _ _ _ rfl rfl HA.out ?_)
          | go_in)
        have hrg9 := (H8.out.2.1.alloc _).kept hg9 (own_ne_low H8.out.1 hmbl HJ.out.loc hmw) (row_ne_iter H8.out.1 H8.out.2.1)
        go_roundw
        case rel =>
          refine ⟨_, cnt2, ks ++ [k], hrg9, HR.out.2.2.2.1, Hid.mk ⟨?_, ?_, ?_⟩⟩
          · rw [stF_snoc, HR.out.2.2.2.2, if_pos hmy, ← List.append_assoc, List.length_append, ← HQ.out.1, List.flatMap_append]
            simpa [stV] using hr9
          · intro q hq
            rcases hloc9 with e9 | e9
            · rw [e9] at hq; exact HJ.out.loc q hq
            · rw [e9] at hq
              cases hq
              right
              simp
              omega
          · have s9 : Stay (fun k => (Value.slice va N vc).ownBlock = some k) w8 w9 := (Stay.below ((Below.refl _ w8).alloc (Nat.le_refl _) _)).trans (.grown hg9 (fun q hq => hq))
            exact H8.out.2.2.andThen s9 (fun q hq e => by
              rcases HJ.out.loc q e with h | h
              · exact h
              · omega)
        case measure => rw [hrg9.left_eq, hrg.left_eq]; exact hlt
      · rw [decide_eq_false hmy]
        go_wp2_with fail
        refine ⟨⟨_, cnt2, ks ++ [k], H8.out.2.1, HR.out.2.2.2.1, Hid.mk ⟨?_, HJ.out.loc, H8.out.2.2⟩⟩, ?_⟩
        · rw [stF_snoc, HR.out.2.2.2.2, if_neg hmy, List.append_nil, ← HQ.out.1]
          exact H8.out.1
        · rw [H8.out.2.1.left_eq, hrg.left_eq]; exact hlt
end Go.Proofs.YtnnbcdfpbdmgdaaDoor
