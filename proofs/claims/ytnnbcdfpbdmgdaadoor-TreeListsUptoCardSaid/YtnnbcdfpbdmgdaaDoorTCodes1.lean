/-
  DERIVED. codes: the walk: for every tree.
-/
import Derived.Test.YtnnbcdfpbdmgdaaDoorTCodes
set_option linter.unusedVariables false
set_option linter.unusedSimpArgs false
set_option linter.unnecessarySimpa false
namespace Go.Proofs.YtnnbcdfpbdmgdaaDoor
open Go.RowKit Go.Maps Go.Sort Go.Proofs.BitMath Go.Proofs.TreeMath
theorem inf9 : (Tryd.prog.info? 9).map (fun i => (i.zero, i.size, i.bytes)) = some (some (.string ⟨#[]⟩), 1, 16) := by kernel_rfl
theorem infP : (Tryd.prog.info? 62).map (fun i => (i.zero, i.size, i.bytes)) = some (some (.pointer none), 1, 8) := by kernel_rfl
section
variable (w : World) {ops : Array Oper} {rest : List Oper} {o : Oper} {a : Act} {Q : Exit → Act → World → Prop}
theorem wpList_range_nil (hg : o.guard = none) (m : Operand) (hop : o.op = Op.range 71 m) (hm : a.eval m = .map none) (hK : wpList Tryd.prog ops Q rest (a.put o.dst (.pointer (some ⟨w.heap.size, 0, none⟩))) (w.alloc (.mapIter none 0 #[] 0))) : wpList Tryd.prog ops Q (o :: rest) a w := by
  refine wpList_plain hg fun K' hK' => ?_
  unfold Oper.wp
  simp [execOp, hop, hm, range_nil, Result.andThen]
  exact hK' _ _ hK
theorem wpList_next_nil (hg : o.guard = none) (it : Operand) (hop : o.op = Op.next it false) (r : Nat) (hit : a.eval it = .pointer (some ⟨r, 0, none⟩)) (h : w.heap[r]? = some (.mapIter none 0 #[] 0)) (hK : wpList Tryd.prog ops Q rest (a.put o.dst (.tuple #[.bool false])) w) : wpList Tryd.prog ops Q (o :: rest) a w := by
  refine wpList_plain hg fun K' hK' => ?_
  unfold Oper.wp
  simp [execOp, hop, hit, next_nil h, Result.andThen]
  exact hK' _ _ hK
end
theorem lives_nodup {n : Nat} {T : List (Nd (Cd n))} (h : WF dC T) : (lives T).Nodup := h.nodup.sublist (List.Sublist.map _ List.filter_sublist)
/-- The last of a row of one cell each. -/
theorem row_last {w : World} {B e : Nat} {v : Value} {k : Nat} {xs : List Value} {y : Value} (h : w.ownsRow B e 1 v (k + 1) (xs ++ [y])) : ∃ g cap, v = .slice (some ⟨g, 0, none⟩) (k + 1) cap ∧ w.cell? ⟨g, k, none⟩ = some y ∧ k + 1 ≤ cap ∧ xs.length = k := by
  have hl : xs.length = k := by have := h.1; simpa using this
  rcases h with ⟨h1, ⟨h2, h3⟩ | ⟨g, cap, cur, h2, h3, h4, h5, h6, h7, h8⟩⟩
  · simp at h3
  · refine ⟨g, cap, h2, ?_, by omega, hl⟩
    have : cur[k]? = some y := by
      have e : (cur.toList.take ((k + 1) * 1))[k]? = some y := by rw [h8, List.getElem?_append_right (by omega), hl]; simp
      rw [List.getElem?_take_of_lt (by omega)] at e
      simpa using e
    simp [World.cell?, h4, this]
theorem info_pn : ∀ x : Nat, ∀ bs : List Nat, ptr bs (some x) = .pointer (some ⟨bs.getD x 0, 0, none⟩) := fun _ _ => rfl
theorem ptrE_inv {v : Value} {y : DataW Unit × List MemPlace} (h : ptrE v = some y) : ∃ a : Option Addr, v = .pointer a := by
  cases v <;> simp [ptrE] at h
  exact ⟨_, rfl⟩
theorem CV.lle {n : Nat} {T : List (Nd (Cd n))} {V L : List Nat} (c : CV T V L) : L.length ≤ T.length :=
  nodup_lt _ L (c.apart.imp fun {s t} h (e : s = t) => h s ⟨.inl rfl, by rw [e]; exact .inl rfl⟩) c.lin
theorem KL.lle {n : Nat} {T : List (Nd (Cd n))} {i : Nat} {left : Lit → Bool} {ks : List Nat} (h : KL T i left ks) : ks.length ≤ T.length :=
  nodup_lt _ ks h.1 fun v hv => by
    obtain ⟨e, c1, -⟩ := (h.2 v).1 hv
    obtain ⟨nd, q1, -⟩ := child_some c1
    exact (List.getElem?_eq_some_iff.1 q1).1
theorem app_post {W wz w3 : World} {u : Value} {n k g c : Nat} {xs ys : List Value} (hst : Below W.heap.size W wz) (hlr : wz.ownsRow W.heap.size 9 1 u n xs) (hw2 : wz.ownsRow W.heap.size 62 1 (.slice (some ⟨g, 0, none⟩) k c) k ys) (o : Obj) (hg3 : (wz.alloc o).grownBy w3 u.ownBlock) :
    Below W.heap.size W w3 ∧ w3.ownsRow W.heap.size 62 1 (.slice (some ⟨g, 0, none⟩) k c) k ys :=
  ⟨(hst.alloc hst.size _).grown hg3 (by have := hst.size; simp; omega) (fun j hj => (hlr.lt j hj).1), (hw2.alloc _).kept hg3 (Or.inr fun e => CS.apart hlr hw2 g e.symm rfl)⟩
theorem apart_or {w : World} {B B' : Nat} {a b : Value} {n m : Nat} {xs ys : List Value} (h : w.ownsRow B 9 1 a n xs) (h' : w.ownsRow B' 62 1 b m ys) : a.ownBlock = none ∨ a.ownBlock ≠ b.ownBlock := by
  cases ha : a.ownBlock with
  | none => exact .inl rfl
  | some k => exact .inr fun e => CS.apart h h' k ha e.symm
theorem row_cell {w : World} {B e g n cap : Nat} {xs : List Value} (h : w.ownsRow B e 1 (.slice (some ⟨g, 0, none⟩) n cap) n xs) (i : Nat) (hi : i < n) : w.cell? ⟨g, i, none⟩ = xs[i]? := by
  rcases h with ⟨h1, ⟨h2, h3⟩ | ⟨g', cap', cur, h2, h3, h4, h5, h6, h7, h8⟩⟩
  · cases h2
  · cases h2
    rw [← h8, List.getElem?_take_of_lt (by omega)]
    simp [World.cell?, h4]
set_option maxHeartbeats 4000000 in
set_option maxRecDepth 100000 in
theorem codes_any {n t wd : Nat} : CodesF n t wd := by
  intro W T bs ms x h hT
  obtain ⟨t0, t1, t2, t3, t4, t5⟩ := h.cell
  obtain ⟨i0, hi, hz0, hz1, hz2⟩ := info_parts inf9
  obtain ⟨j0, hj, hy0, hy1, hy2⟩ := info_parts infP
  have hlive : x.live ≤ T.length := by have := h.all; omega
  have hsm := h.small
  have htl : t < W.heap.size := h.lt (.inl rfl)
  refine ⟨srtC (lives T), srtC_perm _, srtC_rising (lives_nodup h.wf), ?_⟩
  rw [if_neg (by omega), info_pn] at t1
  obtain ⟨μ, hμ1, hμ2⟩ := least (fun (a : Value × Value × World) m => ∃ V L, CS W a.2.2 T bs V L a.1 a.2.1 ∧ m = T.length - V.length)
  have HT := Hid.mk h
  have H1 := Hid.mk hμ1
  have H2 := Hid.mk hμ2
  clear h hμ1 hμ2
  go_enter Tryd.func54, Tryd.ntmps54
  go_wp2_with (first
    | (at_make; refine wpList_make_own _ rfl _ _ 45 rfl W.heap.size 9 i0 (.string ⟨#[]⟩) 1 Tryd.underlying45 hi hz0 hz1 _ _ _ x.live rfl rfl rfl (by rw [hz2]; omega) (by unfold maxLen; omega) (Nat.le_refl _) ?_; intro w1 hrow1 hg1; have p1 := hg1.cell t1 (by simp))
    | go_in)
  go_loopw [3, 4] (fun lv wv wr => ∃ V L, CS W wr T bs V L lv wv) (fun lv wv wr => μ (lv, wv, wr))
  case atStart =>
    refine ⟨[], [0], CV.start HT.out.wf hT, by simpa [lvc] using hrow1.alloc _, ?_, by simp, ((Below.refl _ _).grown hg1 (Nat.le_refl _) (fun j hj => by cases hj)).alloc hg1.size _⟩
    exact ⟨by simp, .inr ⟨w1.heap.size, 1, #[.pointer (some ⟨bs[0]?.getD 0, 0, none⟩)], rfl, hg1.size, Array.getElem?_push_size, Nat.le_refl _, by unfold maxLen; omega, by simp, by simp [ptr, List.getD]⟩⟩
  case round =>
    obtain ⟨wz, hwz⟩ : ∃ wz, wz = wr := ⟨_, rfl⟩
    subst hwz
    obtain ⟨V, L, hcs, hm⟩ := H2.out (u3, u4, wz) (by obtain ⟨V, L, h⟩ := hrel; exact ⟨_, V, L, h, rfl⟩)
    clear hrel
    dsimp only at hcs
    obtain ⟨hcv, hlr, hwq, hlnn, hst⟩ := hcs
    have hVl := hcv.le
    have hLl := CV.lle hcv
    have hvl := lvc_len T V
    rcases List.eq_nil_or_concat L with rfl | ⟨L', i, rfl⟩
    · obtain ⟨g4, c4, rfl⟩ : ∃ g4 c4, u4 = .slice g4 0 c4 := by
        rcases hwq.2 with ⟨rfl, _⟩ | ⟨g, cap, cur, rfl, _⟩
        · exact ⟨_, _, rfl⟩
        · exact ⟨_, _, rfl⟩
      rcases hlr.2 with ⟨hnil, _⟩ | ⟨g, cap, cur, rfl, hbase, hb, h1, h2, h3, h4⟩
      · exact absurd hnil hlnn
      have hperm : (lvc T V).Perm (lives T) := by rw [← lvc_range]; exact hcv.done.filterMap _
      have hmp : (lvc T V).map sV = ((lvc T V).map byC).map encStr := by rw [List.map_map]; exact List.map_congr_left fun c _ => sV_enc c
      have hH : Holds encStr wz g 0 ((lvc T V).map byC).toArray := holds_of_block hb (by rw [← hmp, List.length_map, ← h4, Nat.mul_one])
      have hgl : g < wz.heap.size := (Array.getElem?_eq_some_iff.1 hb).1
      have hc := Tryd.slices_Sort_string g 0 cap ((lvc T V).map byC) wz hH hgl (by rw [List.length_map]; omega)
      rw [List.length_map] at hc
      have hss := srtC_eq hperm
      have hlen : (lvc T V).length = (srtC (lives T)).length := by rw [(srtC_perm _).length_eq, hperm.length_eq]
      have HS := Hid.mk (And.intro hss hlen)
      clear hss hlen hperm hmp hm
      go_wp2_with (go_at_call 66; refine hc.mono ?_; rintro e w' ⟨rfl, nn, os, rfl⟩)
      go_ret
      have hro := ownsRow_sorted (ss := (lvc T V).map byC) (ts := ((lvc T V).map byC).mergeSort leB) (n := nn) (os := os) (by simp) hbase hb (by rw [List.length_map]; exact h1) h2 h3
      rw [HS.out.1, List.length_map, HS.out.2] at hro
      have hbel := hst.grown (grownBy_sorted (w := wz) (g := g) (n := nn) (os := os) (((lvc T V).map byC).mergeSort leB).toArray) hst.size (fun j hj => by cases hj; exact hbase)
      have hsz := hbel.size
      refine ⟨hbel, g, cap, ?_, hbase, ?_, fun i hi => ?_⟩
      · show Ending.returned (.slice (some ⟨g, 0, none⟩) (lvc T V).length cap) = _
        rw [HS.out.2]
      · exact Nat.lt_of_lt_of_le hgl (grownBy_sorted (w := wz) (g := g) (n := nn) (os := os) (((lvc T V).map byC).mergeSort leB).toArray).size
      · rw [HS.out.1, row_cell hro i hi]
        simp [hi, byC, encStr]
    · rw [List.concat_eq_append] at *
      obtain ⟨g4, c4, hu4, cl4, hc4, hxl⟩ := row_last (k := L'.length) (xs := L'.map (fun k => ptr bs (some k))) (y := ptr bs (some i)) (by simpa using hwq)
      subst hu4
      have hiT : i < T.length := hcv.lin i (by simp)
      obtain ⟨nd, hnd⟩ : ∃ nd, T[i]? = some nd := ⟨_, List.getElem?_eq_getElem hiT⟩
      have tr := HT.out.below hst
      obtain ⟨b, m, hbb, hmm, hgd, q0, q1, q2, qf, hbl⟩ := tr.at_ hnd
      have e1 : ptr bs (some i) = .pointer (some ⟨b, 0, none⟩) := by rw [info_pn, hgd]
      rw [e1] at cl4
      have hw2 : wz.ownsRow W.heap.size 62 1 (.slice (some ⟨g4, 0, none⟩) L'.length c4) L'.length (L'.map (fun k => ptr bs (some k))) := by
        have := row_pre (by simpa using hwq) L'.length (by omega)
        simpa [List.take_append_of_le_length] using this
      have hlL : L'.length + 1 ≤ T.length := by simpa using hLl
      have wr1 : IntKind.i64.wrap ((((L'.length + 1 : Nat) : Int)) - 1) = (L'.length : Int) := by
        rw [show (((L'.length + 1 : Nat) : Int)) - 1 = (L'.length : Int) by omega]
        exact i64_in _ (by omega) (by omega)
      obtain ⟨b', m', hbb', hmm', -, -, -, qW2, -, -⟩ := HT.out.at_ hnd
      rw [hbb] at hbb'
      cases hbb'
      rw [hmm] at hmm'
      cases hmm'
      have hb1 : (lvc T V).length + 1 ≤ maxLen := by unfold maxLen; omega
      have hb2 : ((lvc T V).length + 1) * 16 ≤ 140737488355328 := by omega
      cases hlv : nd.live with
      | true =>
        rw [hlv] at q1
        cases m with
        | none =>
          have hlvc := lvc_yes (V := V) hnd hlv
          go_wp2_with (first
            | (at_builtin; refine wpList_append_own _ rfl _ _ 45 rfl W.heap.size 9 i0 (.string ⟨#[]⟩) 1 16 Tryd.underlying45 hi hz0 hz1 hz2 rfl (by decide) _ _ _ rfl (hlr.alloc _) ⟨wz.heap.size, 0, none⟩ 1 1 [.string nd.code.1] rfl rfl (cell_one_new _ _ _) (by simp [Value.oneCell']) hb1 hb2 (by have := hst.size; simp; omega) ?_; intro v3 w3 hr3 hg3 hnil3; obtain ⟨hB3, hq3⟩ := app_post hst hlr hw2 _ hg3; have q23 := cell_lat hB3 qW2)
            | (at_range; refine wpList_range_nil _ rfl _ rfl rfl ?_)
            | go_in)
          have hr3' : w3.ownsRow W.heap.size 9 1 v3 (lvc T (V ++ [i])).length ((lvc T (V ++ [i])).map sV) := by rw [hlvc]; simpa [sV] using hr3
          have hn3 : v3 ≠ .slice none 0 0 := fun e => by have := (hnil3.1 e).2; omega
          try go_frame
          go_loopw [4] (fun v wq => v = .slice (some ⟨g4, 0, none⟩) L'.length c4 ∧ wq = w3.alloc (.mapIter none 0 #[] 0)) (fun _ _ => 0)
          case atStart => exact ⟨rfl, rfl⟩
          case round =>
            obtain ⟨rfl, rfl⟩ := hrel
            go_wp2_with (first
              | (at_next; refine wpList_next_nil _ rfl _ rfl w3.heap.size rfl Array.getElem?_push_size ?_)
              | go_in)
            have hka := KidsA.nil (HT.out.bare i hmm)
            have hcs' : CS W (w3.alloc (.mapIter none 0 #[] 0)) T bs (V ++ [i]) L' v3 (.slice (some ⟨g4, 0, none⟩) L'.length c4) := ⟨by simpa using CV.step HT.out.wf hcv hka, hr3'.alloc _, hq3.alloc _, hn3, hB3.alloc hB3.size _⟩
            have hle := hcs'.cv.le
            rw [List.length_append, List.length_singleton] at hle
            have hms := H1.out (v3, .slice (some ⟨g4, 0, none⟩) L'.length c4, w3.alloc (.mapIter none 0 #[] 0)) _ ⟨_, _, hcs', rfl⟩
            rw [List.length_append, List.length_singleton] at hms
            go_roundw
            case rel => exact ⟨_, _, hcs'⟩
            case measure =>
              show μ (v3, .slice (some ⟨g4, 0, none⟩) L'.length c4, w3.alloc (.mapIter none 0 #[] 0)) < μ (u3, .slice (some ⟨g4, 0, none⟩) (L'.length + 1) c4, wz)
              rw [hm]
              omega
        | some mb =>
          obtain ⟨cc, D, hown, hcc, hkd⟩ := (HT.out.kids i mb hmm).ex
          have hlvc := lvc_yes (V := V) hnd hlv
          go_wp2_with (first
            | (at_builtin; refine wpList_append_own _ rfl _ _ 45 rfl W.heap.size 9 i0 (.string ⟨#[]⟩) 1 16 Tryd.underlying45 hi hz0 hz1 hz2 rfl (by decide) _ _ _ rfl (hlr.alloc _) ⟨wz.heap.size, 0, none⟩ 1 1 [.string nd.code.1] rfl rfl (cell_one_new _ _ _) (by simp [Value.oneCell']) hb1 hb2 (by have := hst.size; simp; omega) ?_; intro v3 w3 hr3 hg3 hnil3; obtain ⟨hB3, hq3⟩ := app_post hst hlr hw2 _ hg3; have q23 := cell_lat hB3 qW2)
            | (at_range; refine wpList_range_own _ rfl _ 71 rfl 3 62 law3 Tryd.underlying71 _ mb cc _ rfl (map_kept (F := fun _ => False) hown (Stay.below hB3) (fun hh => hh)) ?_; intro w4 hrg4 hg4 hs4)
            | go_in)
          have hr3' : w3.ownsRow W.heap.size 9 1 v3 (lvc T (V ++ [i])).length ((lvc T (V ++ [i])).map sV) := by rw [hlvc]; simpa [sV] using hr3
          have hn3 : v3 ≠ .slice none 0 0 := fun e => by have := (hnil3.1 e).2; omega
          try go_frame
          go_loopw [4] (fun v wq => ∃ (left : Lit → Bool) (cnt : Nat) (ks : List Nat), wq.ranges Tryd.prog 3 ptrE mb w3.heap.size cc D left cnt ∧ KL T i left ks ∧ wq.ownsRow W.heap.size 62 1 v (L'.length + ks.length) ((L' ++ ks).map (fun k => ptr bs (some k))) ∧ wq.ownsRow W.heap.size 9 1 v3 (lvc T (V ++ [i])).length ((lvc T (V ++ [i])).map sV) ∧ Below W.heap.size W wq) (fun _ wq => wq.rangeLeft mb w3.heap.size)
          case atStart => exact ⟨_, _, [], hrg4, KL.start hkd, by simpa using hq3.kept hg4 (Or.inr (by simp [Value.ownBlock])), hr3'.kept hg4 (Classical.em _), hB3.grown hg4 hB3.size (fun j hj => by cases hj)⟩
          case round =>
            obtain ⟨left, cnt, ks, hrg, hkl, hrow, hlr5, hB5⟩ := hrel
            have hkll := hkl.lle
            go_wp2_with (first
              | (at_next; refine wpList_next_ranges _ rfl _ rfl 3 law3 ptrE (Value.int .i64) Value.pointer (fun key kl hk => by obtain ⟨x, hx, _⟩ := Maps.keyOf_int_inv Tryd.underlying3 hk; exact ⟨x, hx⟩) (fun v y hv => ptrE_inv hv) mb w3.heap.size cc _ _ _ rfl hrg ?_ ?_)
              | go_in)
            · intro hc0 hl0
              have hka := hkl.all HT.out.wf hl0
              have hcs' : CS W wr T bs (V ++ [i]) (L' ++ ks) v3 u4 := ⟨CV.step HT.out.wf hcv hka, hlr5, by simpa using hrow, hn3, hB5⟩
              have hle := hcs'.cv.le
              rw [List.length_append, List.length_singleton] at hle
              have hms := H1.out (v3, u4, wr) _ ⟨_, _, hcs', rfl⟩
              rw [List.length_append, List.length_singleton] at hms
              go_wp2
              go_roundw
              case rel => exact ⟨_, _, hcs'⟩
              case measure =>
                show μ (v3, u4, wr) < μ (u3, .slice (some ⟨g4, 0, none⟩) (L'.length + 1) c4, wz)
                rw [hm]
                omega
            · intro z c kl yd yp w6 cnt2 hkey hlk hv hat hrg2 hlt hg2 hs2 hen
              obtain ⟨z', ez, rfl, -⟩ := Maps.keyOf_int_inv Tryd.underlying3 hkey
              cases ez
              obtain ⟨k, hyk, hkl2, hkT⟩ := hkl.step hkd hlk hat
              have hpc : Value.pointer c = .pointer (some ⟨bs.getD k 0, 0, none⟩) := ptrE_block (ps := yp) (by rw [hv, ← hyk])
              cases hpc
              have hrow2 := hrow.kept hg2 (Or.inr (row_ne_iter hrow hrg).symm)
              have hlr6 := hlr5.kept hg2 (Or.inr (row_ne_iter hlr5 hrg).symm)
              have hbm : mb < W.heap.size := hown.lt
              have hsz6 := hB5.size
              clear hs2
              have hb3 : L'.length + ks.length + 1 ≤ maxLen := by unfold maxLen; omega
              have hb4 : (L'.length + ks.length + 1) * 8 ≤ 140737488355328 := by omega
              go_wp2_with (first
                | (at_builtin; refine wpList_append_own _ rfl _ _ 108 rfl W.heap.size 62 j0 (.pointer none) 1 8 Tryd.underlying108 hj hy0 hy1 hy2 rfl (by decide) _ _ _ rfl (hrow2.alloc _) ⟨w6.heap.size, 0, none⟩ 1 1 [.pointer (some ⟨bs.getD k 0, 0, none⟩)] rfl rfl (cell_one_new _ _ _) (by simp [Value.oneCell']) hb3 hb4 (by have := hg2.size; simp; omega) ?_; intro v7 w7 hr7 hg7 hnil7)
                | go_in)
              have hrg7 := (hrg2.alloc _).kept hg7 (row_ne_low hrow2 hbm) (row_ne_iter hrow2 hrg2)
              go_roundw
              case rel =>
                refine ⟨_, cnt2, ks ++ [k], hrg7, hkl2, ?_, (hlr6.alloc _).kept hg7 (apart_or hlr6 hrow2), ?_⟩
                · rw [← List.append_assoc]
                  simpa [ptr, Nat.add_assoc] using hr7
                · exact ((hB5.grown hg2 hB5.size (fun j hj => by cases hj; exact hB3.size)).alloc (by have := hg2.size; omega) _).grown hg7 (by have := hg2.size; simp; omega) (fun j hj => (hrow2.lt j hj).1)
              case measure => rw [hrg7.left_eq, hrg.left_eq]; exact hlt
      | false =>
        rw [hlv] at q1
        cases m with
        | none =>
          have hlvc := lvc_no (V := V) hnd hlv
          have hB3 := hst
          have hq3 := hw2
          have hn3 := hlnn
          have hr3 := hlr
          go_wp2_with (first
            | (at_range; refine wpList_range_nil _ rfl _ rfl rfl ?_)
            | go_in)
          have hr3' : wz.ownsRow W.heap.size 9 1 u3 (lvc T (V ++ [i])).length ((lvc T (V ++ [i])).map sV) := by rw [hlvc]; simpa [sV] using hr3
          try go_frame
          go_loopw [4] (fun v wq => v = .slice (some ⟨g4, 0, none⟩) L'.length c4 ∧ wq = wz.alloc (.mapIter none 0 #[] 0)) (fun _ _ => 0)
          case atStart => exact ⟨rfl, rfl⟩
          case round =>
            obtain ⟨rfl, rfl⟩ := hrel
            go_wp2_with (first
              | (at_next; refine wpList_next_nil _ rfl _ rfl wz.heap.size rfl Array.getElem?_push_size ?_)
              | go_in)
            have hka := KidsA.nil (HT.out.bare i hmm)
            have hcs' : CS W (wz.alloc (.mapIter none 0 #[] 0)) T bs (V ++ [i]) L' u3 (.slice (some ⟨g4, 0, none⟩) L'.length c4) := ⟨by simpa using CV.step HT.out.wf hcv hka, hr3'.alloc _, hq3.alloc _, hn3, hB3.alloc hB3.size _⟩
            have hle := hcs'.cv.le
            rw [List.length_append, List.length_singleton] at hle
            have hms := H1.out (u3, .slice (some ⟨g4, 0, none⟩) L'.length c4, wz.alloc (.mapIter none 0 #[] 0)) _ ⟨_, _, hcs', rfl⟩
            rw [List.length_append, List.length_singleton] at hms
            go_roundw
            case rel => exact ⟨_, _, hcs'⟩
            case measure =>
              show μ (u3, .slice (some ⟨g4, 0, none⟩) L'.length c4, wz.alloc (.mapIter none 0 #[] 0)) < μ (u3, .slice (some ⟨g4, 0, none⟩) (L'.length + 1) c4, wz)
              rw [hm]
              omega
        | some mb =>
          obtain ⟨cc, D, hown, hcc, hkd⟩ := (HT.out.kids i mb hmm).ex
          have hlvc := lvc_no (V := V) hnd hlv
          have hB3 := hst
          have hq3 := hw2
          have hn3 := hlnn
          have hr3 := hlr
          go_wp2_with (first
            | (at_range; refine wpList_range_own _ rfl _ 71 rfl 3 62 law3 Tryd.underlying71 _ mb cc _ rfl (map_kept (F := fun _ => False) hown (Stay.below hB3) (fun hh => hh)) ?_; intro w4 hrg4 hg4 hs4)
            | go_in)
          have hr3' : wz.ownsRow W.heap.size 9 1 u3 (lvc T (V ++ [i])).length ((lvc T (V ++ [i])).map sV) := by rw [hlvc]; simpa [sV] using hr3
          try go_frame
          go_loopw [4] (fun v wq => ∃ (left : Lit → Bool) (cnt : Nat) (ks : List Nat), wq.ranges Tryd.prog 3 ptrE mb wz.heap.size cc D left cnt ∧ KL T i left ks ∧ wq.ownsRow W.heap.size 62 1 v (L'.length + ks.length) ((L' ++ ks).map (fun k => ptr bs (some k))) ∧ wq.ownsRow W.heap.size 9 1 u3 (lvc T (V ++ [i])).length ((lvc T (V ++ [i])).map sV) ∧ Below W.heap.size W wq) (fun _ wq => wq.rangeLeft mb wz.heap.size)
          case atStart => exact ⟨_, _, [], hrg4, KL.start hkd, by simpa using hq3.kept hg4 (Or.inr (by simp [Value.ownBlock])), hr3'.kept hg4 (Classical.em _), hB3.grown hg4 hB3.size (fun j hj => by cases hj)⟩
          case round =>
            obtain ⟨left, cnt, ks, hrg, hkl, hrow, hlr5, hB5⟩ := hrel
            have hkll := hkl.lle
            go_wp2_with (first
              | (at_next; refine wpList_next_ranges _ rfl _ rfl 3 law3 ptrE (Value.int .i64) Value.pointer (fun key kl hk => by obtain ⟨x, hx, _⟩ := Maps.keyOf_int_inv Tryd.underlying3 hk; exact ⟨x, hx⟩) (fun v y hv => ptrE_inv hv) mb wz.heap.size cc _ _ _ rfl hrg ?_ ?_)
              | go_in)
            · intro hc0 hl0
              have hka := hkl.all HT.out.wf hl0
              have hcs' : CS W wr T bs (V ++ [i]) (L' ++ ks) u3 u4 := ⟨CV.step HT.out.wf hcv hka, hlr5, by simpa using hrow, hn3, hB5⟩
              have hle := hcs'.cv.le
              rw [List.length_append, List.length_singleton] at hle
              have hms := H1.out (u3, u4, wr) _ ⟨_, _, hcs', rfl⟩
              rw [List.length_append, List.length_singleton] at hms
              go_wp2
              go_roundw
              case rel => exact ⟨_, _, hcs'⟩
              case measure =>
                show μ (u3, u4, wr) < μ (u3, .slice (some ⟨g4, 0, none⟩) (L'.length + 1) c4, wz)
                rw [hm]
                omega
            · intro z c kl yd yp w6 cnt2 hkey hlk hv hat hrg2 hlt hg2 hs2 hen
              obtain ⟨z', ez, rfl, -⟩ := Maps.keyOf_int_inv Tryd.underlying3 hkey
              cases ez
              obtain ⟨k, hyk, hkl2, hkT⟩ := hkl.step hkd hlk hat
              have hpc : Value.pointer c = .pointer (some ⟨bs.getD k 0, 0, none⟩) := ptrE_block (ps := yp) (by rw [hv, ← hyk])
              cases hpc
              have hrow2 := hrow.kept hg2 (Or.inr (row_ne_iter hrow hrg).symm)
              have hlr6 := hlr5.kept hg2 (Or.inr (row_ne_iter hlr5 hrg).symm)
              have hbm : mb < W.heap.size := hown.lt
              have hsz6 := hB5.size
              clear hs2
              have hb3 : L'.length + ks.length + 1 ≤ maxLen := by unfold maxLen; omega
              have hb4 : (L'.length + ks.length + 1) * 8 ≤ 140737488355328 := by omega
              go_wp2_with (first
                | (at_builtin; refine wpList_append_own _ rfl _ _ 108 rfl W.heap.size 62 j0 (.pointer none) 1 8 Tryd.underlying108 hj hy0 hy1 hy2 rfl (by decide) _ _ _ rfl (hrow2.alloc _) ⟨w6.heap.size, 0, none⟩ 1 1 [.pointer (some ⟨bs.getD k 0, 0, none⟩)] rfl rfl (cell_one_new _ _ _) (by simp [Value.oneCell']) hb3 hb4 (by have := hg2.size; simp; omega) ?_; intro v7 w7 hr7 hg7 hnil7)
                | go_in)
              have hrg7 := (hrg2.alloc _).kept hg7 (row_ne_low hrow2 hbm) (row_ne_iter hrow2 hrg2)
              go_roundw
              case rel =>
                refine ⟨_, cnt2, ks ++ [k], hrg7, hkl2, ?_, (hlr6.alloc _).kept hg7 (apart_or hlr6 hrow2), ?_⟩
                · rw [← List.append_assoc]
                  simpa [ptr, Nat.add_assoc] using hr7
                · exact ((hB5.grown hg2 hB5.size (fun j hj => by cases hj; exact hB3.size)).alloc (by have := hg2.size; omega) _).grown hg7 (by have := hg2.size; simp; omega) (fun j hj => (hrow2.lt j hj).1)
              case measure => rw [hrg7.left_eq, hrg.left_eq]; exact hlt
end Go.Proofs.YtnnbcdfpbdmgdaaDoor
