/-
  DERIVED. GWay0, GWayC, GWayB, GWayA, GWay1, GOpenI, GWay, AnywayRow, as one text.
-/
import Derived.Test.YtekgppmhcbmpeaaDoorGCopy
import Derived.Test.YtekgppmhcbmpeaaDoorGPairs
import Derived.Test.YtekgppmhcbmpeaaDoorGPlay
import Derived.Test.YtekgppmhcbmpeaaDoorGNo
import Derived.Test.YtekgppmhcbmpeaaDoorGLawL
import Derived.Test.YtekgppmhcbmpeaaDoorGBegun
import Derived.Test.YtekgppmhcbmpeaaDoorGOpen
import Derived.Test.YtekgppmhcbmpeaaDoorGTable
import Derived.ChangeMaps5
set_option linter.unusedVariables false
set_option linter.unusedSimpArgs false
namespace Go.Proofs.YtekgppmhcbmpeaaDoor
open Go.RowKit Go.Proofs.BitMath
theorem fit_self {c : ByteArray} {n : Nat} (h : c.size = n) : fitC c n = c := by
  apply ba_ext
  show ((fitL c.data.toList n).toArray).toList = c.data.toList
  have hl : c.data.toList.length = n := by rw [← h]; simp
  unfold fitL
  rw [List.take_of_length_le (by omega), show n - c.data.toList.length = 0 by omega]
  simp
theorem fl_acc (wd : Int) (n : Nat) : ∀ (ps acc : List Pr), (∀ x ∈ ps, PrW wd x) → wd / 8 = n → ((acc ++ ps).map Pr.i).Nodup → acc.length + ps.length ≤ 80 → ps.foldl (flS n) acc = acc ++ ps
  | [], acc, _, _, _, _ => by simp
  | x :: ps, acc, h, hn, hd, hl => by
    have hx := h x List.mem_cons_self
    have hg : getP acc x.i = none := by
      cases hg : getP acc x.i with
      | none => rfl
      | some y =>
        have hy := getP_mem hg
        rw [List.map_append, List.nodup_append] at hd
        exact absurd (by rw [← hy.2]) (hd.2.2 y.i (List.mem_map_of_mem hy.1) x.i (by simp))
    have e : flS n acc x = acc ++ [x] := by
      unfold flS
      rw [if_pos ⟨by simp at hl; omega, ⟨hx.1, hx.2.1⟩, hg⟩]
      rw [fit_self (c := x.c) (n := n) (by have := hx.2.2; omega)]
    rw [List.foldl_cons, e, fl_acc wd n ps (acc ++ [x]) (fun y hy => h y (List.mem_cons_of_mem _ hy)) hn (by simpa using hd) (by simp at hl ⊢; omega)]
    simp
theorem fl_self {wd : Int} {n : Nat} {ps : List Pr} (h : Kept wd n ps) (hl : ps.length ≤ 80) : flL n ps = ps := by
  have := fl_acc wd n ps [] h.fit h.n8 (by simpa using h.nd) (by simpa using hl)
  simpa [flL] using this
/-- The updates that put these pairs there. -/
def upsOf : Nat → List Pr → List Up
  | _, [] => []
  | k, p :: ps => ⟨(k : Int) + 1, 1, p.i, p.c⟩ :: upsOf (k + 1) ps
theorem ups_len : ∀ (k : Nat) (ps : List Pr), (upsOf k ps).length = ps.length
  | _, [] => rfl
  | k, p :: ps => by simp [upsOf, ups_len (k + 1) ps]
theorem ups_mem : ∀ (k : Nat) (ps : List Pr) (u : Up), u ∈ upsOf k ps → ∃ p ∈ ps, u.i = p.i
  | _, [], u, h => by simp [upsOf] at h
  | k, p :: ps, u, h => by
    rcases List.mem_cons.1 h with rfl | h
    · exact ⟨p, List.mem_cons_self, rfl⟩
    · obtain ⟨x, hx, e⟩ := ups_mem (k + 1) ps u h
      exact ⟨x, List.mem_cons_of_mem _ hx, e⟩
theorem ups_snoc : ∀ (k : Nat) (ps : List Pr) (x : Pr), upsOf k (ps ++ [x]) = upsOf k ps ++ [⟨((k + ps.length : Nat) : Int) + 1, 1, x.i, x.c⟩]
  | k, [], x => by simp [upsOf]
  | k, p :: ps, x => by
    simp only [List.cons_append, upsOf, ups_snoc (k + 1) ps x, List.length_cons]
    congr 4
    simp; omega
theorem ups_play (wd : Int) (n : Nat) : ∀ (ps xs : List Pr) (k : Nat), (∀ x ∈ ps, PrW wd x) → ((xs ++ ps).map Pr.i).Nodup → xs.length + ps.length ≤ 80 → plS wd (upsOf k ps) xs (k : Int) = (ps.length, 0, ps.reverse ++ xs, ((k + ps.length : Nat) : Int))
  | [], xs, k, _, _, _ => by simp [upsOf, plS]
  | x :: ps, xs, k, h, hd, hl => by
    have hx := h x List.mem_cons_self
    have hg : getP xs x.i = none := by
      cases hg : getP xs x.i with
      | none => rfl
      | some y =>
        have hy := getP_mem hg
        rw [List.map_append, List.nodup_append] at hd
        exact absurd (by rw [← hy.2]) (hd.2.2 y.i (List.mem_map_of_mem hy.1) x.i (by simp))
    have hE : updE wd xs (k : Int) ⟨(k : Int) + 1, 1, x.i, x.c⟩ = 0 := by
      unfold updE
      simp only [if_true]
      unfold insE
      rw [if_pos ⟨hx.1, hx.2.1⟩, if_pos hx.2.2, hg]
      show (if 1048576 ≤ xs.length then (43 : Int) else 0) = 0
      rw [if_neg (by simp at hl; omega)]
    have hX : updX wd xs (k : Int) ⟨(k : Int) + 1, 1, x.i, x.c⟩ = x :: xs := by unfold updX; rw [if_pos hE]; rfl
    have hN : updN wd xs (k : Int) ⟨(k : Int) + 1, 1, x.i, x.c⟩ = ((k + 1 : Nat) : Int) := by unfold updN; rw [if_pos hE]; simp
    have hperm : ((x :: xs ++ ps).map Pr.i).Nodup := by
      have hp : (xs ++ x :: ps).Perm (x :: xs ++ ps) := by simp
      exact ((hp.map Pr.i).nodup_iff).1 hd
    have ih := ups_play wd n ps (x :: xs) (k + 1) (fun y hy => h y (List.mem_cons_of_mem _ hy)) hperm (by simp at hl ⊢; omega)
    show plS wd (⟨(k : Int) + 1, 1, x.i, x.c⟩ :: upsOf (k + 1) ps) xs (k : Int) = _
    rw [plS, if_pos hE, hX, hN, ih]
    simp; omega
theorem infoUp : (Tryd.prog.info? 53).map (fun i => (i.zero, i.size, i.bytes)) = some (some (.agg #[.int .i64 0, .int .i64 0, .int .i64 0, .string ⟨#[]⟩]), 4, 40) := by kernel_rfl
/-- A list of updates of the call's own. -/
def URow (W : World) (v : Value) (L : List Up) : Prop := W.ownsRow 0 53 4 v L.length (L.flatMap uC)
theorem URow.nil (W : World) : URow W (.slice none 0 0) [] := ⟨by simp, .inl ⟨rfl, rfl⟩⟩
theorem URow.lat {W : World} {v : Value} {l : List Up} (h : URow W v l) : ∃ a c, v = .slice a l.length c ∧ ULAt W a l := by
  rcases h.2 with ⟨rfl, h0⟩ | ⟨g, cap, cur, rfl, h1, h2, h3, h4⟩
  · exact ⟨none, 0, by rw [h0], ⟨fun hn => absurd (List.eq_nil_of_length_eq_zero h0) hn⟩⟩
  · exact ⟨_, cap, rfl, ⟨fun _ => ⟨g, 0, rfl, fun j x hx => by
      have := World.ownsRow.cells h (g := g) rfl j x hx
      have e1 : (⟨g, 0, none⟩ : Addr).add j = ⟨g, 0 + j, none⟩ := by unfold Addr.add; split <;> simp_all
      rw [e1] at this; exact this⟩⟩⟩
theorem upd_app1 (W : World) (l : List Up) (v : Value) (h : URow W v l) (x : Up) (hb : (l.length + 1) * 40 ≤ 140737488355328) :
    ∃ a c w', (Builtin.append_ #[45, 45] 45 #[v, .slice (some ⟨W.heap.size, 0, none⟩) 1 1]).run Tryd.prog (W.alloc (.cells (uC x).toArray 53)) = .ok (.slice a (l.length + 1) c) w' ∧ URow w' (.slice a (l.length + 1) c) (l ++ [x]) ∧ Stay (fun k => v.ownBlock = some k) W w' ∧ (∀ k, (Value.slice a (l.length + 1) c).ownBlock = some k → v.ownBlock = some k ∨ W.heap.size ≤ k) := by
  obtain ⟨i0, hi, hz0, hz1, hz2⟩ := info_parts infoUp
  have h' : (W.alloc (.cells (uC x).toArray 53)).ownsRow 0 53 4 v l.length (l.flatMap uC) := World.ownsRow.alloc h _
  obtain ⟨v', w', hrun, ho, hg, _, hloc⟩ := run_append_own_at (P := Tryd.prog) (W.alloc (.cells (uC x).toArray 53)) 0 45 45 53 i0 _ 4 40 Tryd.underlying45 hi hz0 hz1 hz2 rfl (by decide) v l.length _ h' ⟨W.heap.size, 0, none⟩ 1 1 (uC x) rfl (fun j u hu => new_cells W (uC x) 53 j u hu) (fun u hu => by
    simp [uC] at hu
    rcases hu with rfl | rfl | rfl | rfl <;> rfl) (by unfold maxLen; omega) (by omega) (Nat.zero_le _)
  obtain ⟨a, c, hv, -⟩ := slice_form ho
  subst hv
  refine ⟨a, c, w', hrun, ?_, ((Stay.refl _ W).alloc _).trans (.grown hg (fun k hk => hk)), fun k hk => ?_⟩
  · unfold URow
    rw [List.length_append, List.flatMap_append]
    simpa using ho
  · rcases hloc with hl | hl
    · exact .inl (hl ▸ hk)
    · rw [hl] at hk; cases hk; exact .inr (by simp)
set_option maxRecDepth 100000 in
theorem sameInts_any (l : List Int) (g1 g2 n : Nat) (w : World) (ha : IRow w g1 n l) (hb : IRow w g2 n l) (hn : n = l.length) (hl : l.length < 100000) :
    Calls Tryd.prog 25 #[.slice (some ⟨g1, 0, none⟩) n n, .slice (some ⟨g2, 0, none⟩) n n] w fun e w' => e = .returned (.bool true) ∧ Drew w w' := by
  have HA := Hid.mk (And.intro ha (And.intro hb hn))
  have hnl : n < 100000 := by omega
  clear ha hb hn hl
  go_enter Tryd.func25, Tryd.ntmps25
  go_wp2_with fail
  go_loopw [5] (fun u wr => ∃ i : Nat, u = .int .i64 i ∧ i ≤ n ∧ Drew w wr) (fun u _ => n - (intOf u).toNat)
  case atStart => exact ⟨0, rfl, Nat.zero_le _, Drew.refl _⟩
  case round =>
    obtain ⟨i, rfl, hi, hd⟩ := hrel
    by_cases hlt : i < n
    · have i1 : (i : Int) < (n : Int) := by omega
      have i2 : (0 : Int) ≤ (i : Int) := by omega
      have hil : i < l.length := by have := HA.out.2.2; omega
      have hcl : ∀ q, wr.cell? q = w.cell? q := fun q => by obtain ⟨k, rfl⟩ := hd; rfl
      have x0 : wr.cell? ⟨g1, i, none⟩ = some (.int .i64 l[i]) := by
        rw [hcl, HA.out.1.cellAt i (by omega), List.getElem?_map, List.getElem?_eq_getElem hil]; rfl
      have y0 : wr.cell? ⟨g2, i, none⟩ = some (.int .i64 l[i]) := by
        rw [hcl, HA.out.2.1.cellAt i (by omega), List.getElem?_map, List.getElem?_eq_getElem hil]; rfl
      obtain ⟨x, hx⟩ : ∃ x, x = l[i] := ⟨_, rfl⟩
      rw [← hx] at x0 y0
      have hwi : IntKind.i64.wrap ((i : Int) + 1) = ((i + 1 : Nat) : Int) := by rw [IntKind.wrap_i64]; omega
      clear hx hcl hil
      go_wp2_with fail
      go_quiet (fail)
      go_wp2_with fail
      exact ⟨⟨i + 1, by go_num, hlt, hd.more _⟩, by simp only [intOf]; omega⟩
    · have i1 : ¬ (i : Int) < (n : Int) := by omega
      go_wp2_with fail
      go_ret
      exact ⟨rfl, hd⟩
end Go.Proofs.YtekgppmhcbmpeaaDoor
set_option linter.unusedVariables false
set_option linter.unusedSimpArgs false
namespace Go.Proofs.YtekgppmhcbmpeaaDoor
open Go.RowKit Go.Proofs.BitMath
def sndC : Code → Code
  | .seq _ b => b
  | c => c
def dropC : Nat → Code → Code
  | 0, c => c
  | n + 1, c => dropC n (sndC c)
theorem plat_stay {w w' : World} {la : Option Addr} {l : List Pr} {F : Nat → Prop} (h : PLAt w la l) (s : Stay F w w') (ho : ∀ g off, la = some ⟨g, off, none⟩ → ¬ F g) : PLAt w' la l := ⟨fun hn => by
  obtain ⟨g, off, e, hr⟩ := h.at' hn
  have hg : g < w.heap.size := by
    cases l with
    | nil => exact absurd rfl hn
    | cons x l => exact World.block_lt_of_cell? w _ (hr 0 (.int .i64 x.i) rfl)
  have hb := s.block g hg (ho g off e)
  exact ⟨g, off, e, fun j x hx => by rw [← hr j x hx]; simp only [World.cell?, hb]⟩⟩
/-- The map, its copy, and the pairs that were told. -/
structure CC (w W : World) (wd : Int) (n m mbm c mbc : Nat) (M : List Pr) (nn : Int) (at' : Option Addr) : Prop where
  k : Kept wd n M
  len : M.length ≤ 80
  mp : MP W m mbm wd M nn
  cp : MP W c mbc wd M nn
  la : PLAt W at' (srtP M)
  ne : m ≠ c ∧ m ≠ mbc ∧ mbm ≠ c ∧ mbm ≠ mbc
  an : ∀ g off, at' = some ⟨g, off, none⟩ → g ≠ c ∧ g ≠ mbc
  cw : w.heap.size ≤ c ∧ w.heap.size ≤ mbc
  st : Below w.heap.size w W
  num : 0 ≤ nn ∧ nn ≤ 1000
structure CI (W wr : World) (wd : Int) (c mbc : Nat) (M : List Pr) (nn : Int) (j : Nat) (C : List Pr) (nc : Int) : Prop where
  mp : MP wr c mbc wd C nc
  st : Stay (fun k => k = c ∨ k = mbc) W wr
  sub : ∀ x ∈ C, x ∈ M ∧ ∀ i (hi : i < (srtP M).length), i < j → x.i ≠ (srtP M)[i].i
  num : 0 ≤ nc ∧ nc ≤ nn + (j : Int)
theorem CI.step {W wr w' : World} {wd : Int} {c mbc : Nat} {M : List Pr} {nn : Int} {j : Nat} {C : List Pr} {nc : Int} (h : CI W wr wd c mbc M nn j C nc) (hj : j < (srtP M).length) (hid : 0 ≤ (srtP M)[j].i ∧ (srtP M)[j].i ≤ 281474976710656) (h2 : MP w' c mbc wd (delX C (srtP M)[j].i) (delN C (srtP M)[j].i nc)) (s : Stay (fun k => k = c ∨ k = mbc) wr w') : CI W w' wd c mbc M nn (j + 1) (delX C (srtP M)[j].i) (delN C (srtP M)[j].i nc) := by
  refine ⟨h2, h.st.trans s, fun x hx => ?_, ?_⟩
  · have hne : x ∈ C ∧ x.i ≠ (srtP M)[j].i := by
      unfold delX at hx
      split at hx
      · exact delP_mem.1 hx
      · rename_i h0
        refine ⟨hx, fun e => h0 ?_⟩
        have hg := getP_of h.mp.pm.nd hx
        rw [e] at hg
        unfold getE
        rw [if_pos hid, hg]
    refine ⟨(h.sub x hne.1).1, fun i hi hij => ?_⟩
    by_cases e : i = j
    · subst e; exact hne.2
    · exact (h.sub x hne.1).2 i hi (by omega)
  · have := h.num
    unfold delN
    split <;> (constructor <;> omega)
theorem CI.fin {W wr : World} {wd : Int} {c mbc : Nat} {M : List Pr} {nn : Int} {j : Nat} {C : List Pr} {nc : Int} (h : CI W wr wd c mbc M nn j C nc) (hj : (srtP M).length ≤ j) : C = [] := by
  cases C with
  | nil => rfl
  | cons x C =>
    obtain ⟨h1, h2⟩ := h.sub x List.mem_cons_self
    have hx : x ∈ srtP M := (srtP_perm M).mem_iff.2 h1
    obtain ⟨i, hi, e⟩ := List.getElem_of_mem hx
    exact absurd (by rw [e]) (h2 i hi (by omega))
def RC (W : World) (wd : Int) (c mbc : Nat) (M : List Pr) (nn : Int) (jv : Value) (wr : World) : Prop := ∃ (j : Nat) (C : List Pr) (nc : Int), jv = .int .i64 j ∧ j ≤ (srtP M).length ∧ Hid (CI W wr wd c mbc M nn j C nc)
set_option maxHeartbeats 8000000 in
set_option maxRecDepth 100000 in
theorem way_C {t1 t2 t3 t4 t5 t6 t7 t8 t9 t10 t11 t13 t14 t15 t16 t17 t18 t20 t21 t22 t23 t24 t25 t27 t28 t29 t30 t31 t32 t33 t34 t35 t36 t37 t38 t39 t40 t41 t42 t43 t44 t45 t46 t47 t48 t49 t50 t51 t52 t53 t54 t55 t56 t57 t58 t59 t60 t61 t62 t63 t64 t65 t66 t67 t68 t69 t70 t71 t72 t73 t74 t75 t76 t77 t78 t79 t80 t81 t82 t83 t84 t85 t86 t87 t88 t89 t90 t91 t92 t93 t94 t95 t96 t97 t98 t99 t100 t101 t102 t103 t104 t105 t106 t107 t108 t109 t110 t111 t112 t113 t114 t115 t116 t117 t118 t119 t120 t121 t122 t123 t124 t125 t126 t127 t128 t129 t130 t131 t132 t133 t134 t135 t136 t137 t138 t139 t140 t141 t142 t143 t144 t145 t146 t147 t148 t149 t150 t151 t152 t153 t154 t155 t156 t157 t158 t159 t160 t161 t162 t163 t164 t165 t166 t167 t168 t169 t170 t171 t172 t173 t174 t175 t176 t177 t178 t179 t180 t181 t182 t183 t184 t185 t186 t187 t188 t189 t190 t191 t192 t193 t194 t195 t196 t197 t198 t199 t200 t201 t202 t203 t204 t205 t206 t207 t208 t209 t210 t211 t212 t213 t214 t215 t216 t217 t218 t219 t220 t221 t222 t223 t224 t225 t226 t227 t228 t229 t230 t231 t232 t233 t234 t235 t236 t237 t238 t239 t240 t241 t242 t243 t244 t245 t246 t247 t248 t249 t250 t251 t252 t253 t254 t255 t256 t257 t258 t259 t260 t261 t262 t263 t264 t265 t266 t267 t268 t269 t270 t271 t272 t273 t274 t275 t276 t277 t278 t279 t280 t281 t282 t283 t284 t285 t286 t287 t288 t289 t290 t291 t292 t293 t294 t295 t296 t297 t298 t299 t300 : Value} {w W : World} {wd nn : Int} {n m mbm c mbc ns ct : Nat} {M : List Pr} {at' : Option Addr} (H : Hid (CC w W wd n m mbm c mbc M nn at')) (HS : Hid (ns = (srtP M).length)) :
    Code.wp Tryd.prog (dropC 27 (Tryd.f6.body.getD .skip)) (bodyPost Tryd.prog Tryd.f6 fun e w' => e = .returned (.bool true) ∧ Below w.heap.size w w') { tmps := #[.int .i64 wd, t1, t2, t3, t4, t5, t6, t7, t8, t9, t10, t11, Pt m, t13, t14, t15, t16, t17, t18, .slice at' ns ct, t20, t21, t22, t23, t24, t25, Pt c, t27, t28, t29, t30, t31, t32, t33, t34, t35, t36, t37, t38, t39, t40, t41, t42, t43, t44, t45, t46, t47, t48, t49, t50, t51, t52, t53, t54, t55, t56, t57, t58, t59, t60, t61, t62, t63, t64, t65, t66, t67, t68, t69, t70, t71, t72, t73, t74, t75, t76, t77, t78, t79, t80, t81, t82, t83, t84, t85, t86, t87, t88, t89, t90, t91, t92, t93, t94, t95, t96, t97, t98, t99, t100, t101, t102, t103, t104, t105, t106, t107, t108, t109, t110, t111, t112, t113, t114, t115, t116, t117, t118, t119, t120, t121, t122, t123, t124, t125, t126, t127, t128, t129, t130, t131, t132, t133, t134, t135, t136, t137, t138, t139, t140, t141, t142, t143, t144, t145, t146, t147, t148, t149, t150, t151, t152, t153, t154, t155, t156, t157, t158, t159, t160, t161, t162, t163, t164, t165, t166, t167, t168, t169, t170, t171, t172, t173, t174, t175, t176, t177, t178, t179, t180, t181, t182, t183, t184, t185, t186, t187, t188, t189, t190, t191, t192, t193, t194, t195, t196, t197, t198, t199, t200, t201, t202, t203, t204, t205, t206, t207, t208, t209, t210, t211, t212, t213, t214, t215, t216, t217, t218, t219, t220, t221, t222, t223, t224, t225, t226, t227, t228, t229, t230, t231, t232, t233, t234, t235, t236, t237, t238, t239, t240, t241, t242, t243, t244, t245, t246, t247, t248, t249, t250, t251, t252, t253, t254, t255, t256, t257, t258, t259, t260, t261, t262, t263, t264, t265, t266, t267, t268, t269, t270, t271, t272, t273, t274, t275, t276, t277, t278, t279, t280, t281, t282, t283, t284, t285, t286, t287, t288, t289, t290, t291, t292, t293, t294, t295, t296, t297, t298, t299, t300], defers := [] } W := by
  have H0 : Hid (CI W W wd c mbc M nn 0 M nn) := ⟨H.out.cp, .refl _ _, fun x hx => ⟨hx, fun i _ h => by omega⟩, by have := H.out.num; simp; omega⟩
  have hns : ns ≤ 80 := by have h1 := HS.out; rw [(srtP_perm M).length_eq] at h1; have := H.out.len; omega
  simp only [dropC, sndC, Tryd.f6, Option.getD_some]
  go_wp2_with fail
  go_loopw [46] (fun jv wr => RC W wd c mbc M nn jv wr) (fun u _ => ns - (intOf u).toNat)
  case atStart => exact ⟨0, M, nn, rfl, Nat.zero_le _, H0⟩
  case round =>
    clear H0
    obtain ⟨j, C, nc, rfl, hj, HL⟩ := hrel
    have hS := HS.out
    by_cases hlt : j < ns
    · have j1 : (j : Int) < (ns : Int) := by omega
      have j2 : (0 : Int) ≤ (j : Int) := by omega
      have hjS : j < (srtP M).length := by omega
      have hla := plat_stay H.out.la HL.out.st (fun g off e => by have := H.out.an g off e; omega)
      obtain ⟨g, o, e1, x0, x1⟩ := hla.pr (Below.refl _ _) j hjS
      subst e1
      have hM : (srtP M)[j] ∈ M := (srtP_perm M).mem_iff.1 (List.getElem_mem hjS)
      have hid := H.out.k.fit _ hM
      have HN := Hid.mk (fun w' a b => HL.out.step (w' := w') hjS ⟨hid.1, hid.2.1⟩ a b)
      have hdel := delete_any c mbc wd nc (srtP M)[j].i C wr HL.out.mp ⟨by have := hid.1; omega, by have := hid.2.1; omega⟩ (by have := HL.out.num; have := H.out.num; omega)
      obtain ⟨z, hz⟩ : ∃ z, z = (srtP M)[j].i := ⟨_, rfl⟩
      rw [← hz] at x0 hdel HN
      obtain ⟨E, hE⟩ : ∃ E, E = (getE C z).2 := ⟨_, rfl⟩
      rw [← hE] at hdel
      have hwj : IntKind.i64.wrap ((j : Int) + 1) = ((j + 1 : Nat) : Int) := by rw [IntKind.wrap_i64]; omega
      have HJ : Hid (j + 1 ≤ (srtP M).length) := hjS
      clear hla hM hid hz hE hj HL hS x1 hjS
      go_wp2_with fail
      refine hdel.mono ?_
      clear hdel
      rintro e w4 ⟨rfl, m4, s4⟩
      have HX : Hid (RC W wd c mbc M nn (.int .i64 ((j + 1 : Nat) : Int)) w4) := ⟨j + 1, _, _, rfl, HJ.out, HN.out _ m4 s4⟩
      clear m4 s4 HN
      go_wp2_with fail
      exact ⟨HX.out, by simp only [intOf]; omega⟩
    · have j1 : ¬ (j : Int) < (ns : Int) := by omega
      have hC := HL.out.fin (by omega)
      subst hC
      have hb := isW_bd H.out.k.wd'
      have hn8 := H.out.k.n8
      have hf := fun V => fit_any ⟨#[120]⟩ n wd V (by decide) (by omega) hn8 (by omega)
      have HIN := Hid.mk (fun V (b : Below wr.heap.size wr V) => insert_any c mbc wd nc 1 [] (fitC ⟨#[120]⟩ n) V (HL.out.mp.below b) ⟨by decide, by decide⟩ (by have := HL.out.num; have := H.out.num; omega) (by simp))
      have hE : insE wd [] 1 (fitC ⟨#[120]⟩ n) = 0 := by
        unfold insE
        rw [if_pos ⟨by decide, by decide⟩, if_pos (by rw [fitC_size]; exact hn8.symm)]
        rfl
      have hX : insX wd [] 1 (fitC ⟨#[120]⟩ n) = [⟨1, fitC ⟨#[120]⟩ n⟩] := by unfold insX; rw [if_pos hE]
      rw [hE, hX] at HIN
      obtain ⟨fx, hfx⟩ : ∃ fx, fx = fitC ⟨#[120]⟩ n := ⟨_, rfl⟩
      rw [← hfx] at hf HIN
      have HLs := Hid.mk (And.intro HL.out.st hS)
      clear hE hX hfx hb hn8 hj HL hS
      go_wp2_with fail
      refine (hf _).mono ?_
      clear hf
      rintro e w4 ⟨rfl, b4⟩
      have hin := HIN.out w4 b4
      go_wp2_with fail
      refine hin.mono ?_
      clear hin
      rintro e w5 ⟨rfl, m5, s5⟩
      have st5 : Stay (fun k => k = c ∨ k = mbc) W w5 := HLs.out.1.trans ((Stay.below b4).trans s5)
      have hm5 := H.out.mp.keep st5 (by have := H.out.ne; omega) (by have := H.out.ne; omega)
      have pr := pairs_any m mbm wd nn M w5 hm5 (by have := H.out.len; omega)
      have HG : Hid (MP w5 c mbc wd [⟨1, fx⟩] (insN wd [] 1 fx nc) ∧ PLAt w5 at' (srtP M) ∧ Below w.heap.size w w5) := ⟨m5, plat_stay H.out.la st5 (fun g off e => by have := H.out.an g off e; omega), H.out.st.trans (st5.toBelow (fun k hk e => by have := H.out.cw; omega) H.out.st.size)⟩
      clear m5 s5 st5 hm5 b4 HIN
      go_wp2_with fail
      refine pr.mono ?_
      clear pr
      rintro e w6 ⟨v6, rfl, r6, -, b6⟩
      obtain ⟨a6, c6, hv, l6⟩ := r6.lat
      subst hv
      have sm := samePairs_any (srtP M) at' a6 ct c6 w6 (HG.out.2.1.below b6) l6 (by have := HLs.out.2; omega)
      rw [← HLs.out.2] at sm ⊢
      have HG6 : Hid (MP w6 c mbc wd [⟨1, fx⟩] (insN wd [] 1 fx nc) ∧ Below w.heap.size w w6) := ⟨HG.out.1.below b6, HG.out.2.2.trans (b6.mono HG.out.2.2.size)⟩
      clear r6 l6 b6 HG
      go_wp2_with fail
      refine sm.mono ?_
      clear sm
      rintro e w7 ⟨rfl, d7⟩
      have ct7 := count_any c mbc wd _ _ w7 (HG6.out.1.below (d7.below _))
      have HE : Hid (Below w.heap.size w w7) := HG6.out.2.trans (d7.below _)
      clear d7 HG6
      go_wp2_with fail
      refine ct7.mono ?_
      clear ct7
      rintro e w8 ⟨rfl, h8⟩
      subst h8
      go_wp2_with fail
      go_ret
      exact ⟨rfl, HE.out⟩
end Go.Proofs.YtekgppmhcbmpeaaDoor
set_option linter.unusedVariables false
set_option linter.unusedSimpArgs false
namespace Go.Proofs.YtekgppmhcbmpeaaDoor
open Go.RowKit Go.Proofs.BitMath
/-- Four maps of the same pairs. -/
structure BB (w W : World) (wd : Int) (n m mbm p2 mb2 c mbc p mbp : Nat) (M Bk P : List Pr) (nn nb np : Int) (at' : Option Addr) : Prop where
  cc : CC w W wd n m mbm c mbc M nn at'
  bp : MP W p2 mb2 wd Bk nb
  pp : MP W p mbp wd P np
  pb : Bk.Perm M
  pP : P.Perm M
  tab : Tab W
theorem CC.more {w W W' : World} {wd : Int} {n m mbm c mbc : Nat} {M : List Pr} {nn : Int} {at' : Option Addr} (h : CC w W wd n m mbm c mbc M nn at') (b : Below W.heap.size W W') : CC w W' wd n m mbm c mbc M nn at' :=
  { h with mp := h.mp.below b, cp := h.cp.below b, la := h.la.below b, st := h.st.trans (b.mono h.st.size) }
theorem BB.more {w W W' : World} {wd : Int} {n m mbm p2 mb2 c mbc p mbp : Nat} {M Bk P : List Pr} {nn nb np : Int} {at' : Option Addr} (h : BB w W wd n m mbm p2 mb2 c mbc p mbp M Bk P nn nb np at') (b : Below W.heap.size W W') : BB w W' wd n m mbm p2 mb2 c mbc p mbp M Bk P nn nb np at' :=
  ⟨h.cc.more b, h.bp.below b, h.pp.below b, h.pb, h.pP, h.tab.lat b⟩
theorem srtP_eq {l m : List Pr} (h : l.Perm m) (hn : (m.map Pr.i).Nodup) : srtP l = srtP m := srtP_ext (srtP_srt (((h.map Pr.i).nodup_iff).2 hn)) (srtP_srt hn) (fun x => by rw [(srtP_perm l).mem_iff, (srtP_perm m).mem_iff, h.mem_iff])
theorem irow_below {W W' : World} {g m : Nat} {X : List Int} (h : IRow W g m X) (b : Below W.heap.size W W') : IRow W' g m X := row_kept (F := fun _ => False) h (.below b) (fun _ _ h => h)
set_option maxHeartbeats 8000000 in
set_option maxRecDepth 100000 in
theorem way_B {t1 t2 t5 t6 t7 t8 t9 t10 t11 t13 t14 t15 t16 t17 t18 t20 t22 t24 t25 t28 t32 t33 t34 t35 t36 t37 t38 t39 t40 t41 t42 t43 t44 t45 t46 t47 t48 t49 t50 t51 t52 t53 t54 t55 t56 t57 t58 t59 t60 t61 t62 t63 t64 t65 t66 t67 t68 t69 t70 t71 t72 t73 t74 t75 t76 t77 t78 t79 t80 t81 t82 t83 t84 t85 t86 t87 t88 t89 t90 t91 t92 t93 t94 t95 t96 t97 t98 t99 t100 t101 t102 t103 t104 t105 t106 t107 t108 t109 t110 t111 t112 t113 t114 t115 t116 t117 t118 t119 t120 t121 t122 t123 t124 t125 t126 t127 t128 t129 t130 t131 t132 t133 t134 t135 t136 t137 t138 t139 t140 t141 t142 t143 t144 t145 t146 t147 t148 t149 t150 t151 t152 t153 t154 t155 t156 t157 t158 t159 t160 t161 t162 t163 t164 t165 t166 t167 t168 t169 t170 t171 t172 t173 t174 t175 t176 t177 t178 t179 t180 t181 t182 t183 t184 t185 t186 t187 t188 t189 t190 t191 t192 t193 t194 t195 t196 t197 t198 t199 t200 t201 t202 t203 t204 t205 t206 t207 t208 t209 t210 t211 t212 t213 t214 t215 t216 t217 t218 t219 t220 t221 t222 t223 t224 t225 t226 t227 t228 t229 t230 t231 t232 t233 t234 t235 t236 t237 t238 t239 t240 t241 t242 t243 t244 t245 t246 t247 t248 t249 t250 t251 t252 t253 t254 t255 t256 t257 t258 t259 t260 t261 t262 t263 t264 t265 t266 t267 t268 t269 t270 t271 t272 t273 t274 t275 t276 t277 t278 t279 t280 t281 t282 t283 t284 t285 t286 t287 t288 t289 t290 t291 t292 t293 t294 t295 t296 t297 t298 t299 t300 : Value} {w W : World} {wd nn nb : Int} {n mm m mbm p2 mb2 c mbc p mbp ns ct cu nt cA kn : Nat} {M Bk P : List Pr} {q' : ByteArray} {T : List Ht} {at' au aa : Option Addr} (H : Hid (BB w W wd n m mbm p2 mb2 c mbc p mbp M Bk P nn nb (ns : Int) at')) (HS : Hid (ns = (srtP M).length)) (HQ : Hid ((q'.size : Int) = wd / 8)) (HK : Hid (kn ≤ 4096)) (HT : Hid (T = topL kn (hitsOf q' M) ∧ nt = T.length ∧ LAt W aa T ∧ (mm : Int) = wd + 1)) :
    Code.wp Tryd.prog (dropC 18 (Tryd.f6.body.getD .skip)) (bodyPost Tryd.prog Tryd.f6 fun e w' => e = .returned (.bool true) ∧ Below w.heap.size w w') { tmps := #[.int .i64 wd, t1, t2, .string q', .int .i64 (kn : Int), t5, t6, t7, t8, t9, t10, t11, Pt m, t13, t14, t15, t16, t17, t18, .slice at' ns ct, t20, .slice au ns cu, t22, Pt p2, t24, t25, Pt c, Pt p, t28, .int .i64 (ns : Int), .int .i64 0, .slice aa nt cA, t32, t33, t34, t35, t36, t37, t38, t39, t40, t41, t42, t43, t44, t45, t46, t47, t48, t49, t50, t51, t52, t53, t54, t55, t56, t57, t58, t59, t60, t61, t62, t63, t64, t65, t66, t67, t68, t69, t70, t71, t72, t73, t74, t75, t76, t77, t78, t79, t80, t81, t82, t83, t84, t85, t86, t87, t88, t89, t90, t91, t92, t93, t94, t95, t96, t97, t98, t99, t100, t101, t102, t103, t104, t105, t106, t107, t108, t109, t110, t111, t112, t113, t114, t115, t116, t117, t118, t119, t120, t121, t122, t123, t124, t125, t126, t127, t128, t129, t130, t131, t132, t133, t134, t135, t136, t137, t138, t139, t140, t141, t142, t143, t144, t145, t146, t147, t148, t149, t150, t151, t152, t153, t154, t155, t156, t157, t158, t159, t160, t161, t162, t163, t164, t165, t166, t167, t168, t169, t170, t171, t172, t173, t174, t175, t176, t177, t178, t179, t180, t181, t182, t183, t184, t185, t186, t187, t188, t189, t190, t191, t192, t193, t194, t195, t196, t197, t198, t199, t200, t201, t202, t203, t204, t205, t206, t207, t208, t209, t210, t211, t212, t213, t214, t215, t216, t217, t218, t219, t220, t221, t222, t223, t224, t225, t226, t227, t228, t229, t230, t231, t232, t233, t234, t235, t236, t237, t238, t239, t240, t241, t242, t243, t244, t245, t246, t247, t248, t249, t250, t251, t252, t253, t254, t255, t256, t257, t258, t259, t260, t261, t262, t263, t264, t265, t266, t267, t268, t269, t270, t271, t272, t273, t274, t275, t276, t277, t278, t279, t280, t281, t282, t283, t284, t285, t286, t287, t288, t289, t290, t291, t292, t293, t294, t295, t296, t297, t298, t299, t300], defers := [] } W := by
  have hns : ns ≤ 80 := by have h1 := HS.out; rw [(srtP_perm M).length_eq] at h1; have := H.out.cc.len; omega
  have hlM : M.length ≤ 1048576 := by have := H.out.cc.len; omega
  have HLM := Hid.mk hlM
  have tB := topk_any p2 mb2 wd nb Bk q' kn W H.out.bp HQ.out HK.out H.out.tab (by rw [H.out.pb.length_eq]; exact hlM)
  rw [topL_ext (hits_perm H.out.pb), ← HT.out.1] at tB
  simp only [dropC, sndC, Tryd.f6, Option.getD_some]
  go_wp2_with fail
  refine tB.mono ?_
  clear tB
  rintro e w1 ⟨v1, rfl, t1⟩
  obtain ⟨a1, c1, hv, -, l1⟩ := t1.lat
  subst hv
  rw [← HT.out.2.1]
  have H1 : Hid (BB w w1 wd n m mbm p2 mb2 c mbc p mbp M Bk P nn nb (ns : Int) at') := H.out.more t1.2.2
  have G1 : Hid (LAt w1 aa T ∧ LAt w1 a1 T) := ⟨HT.out.2.2.1.below t1.2.2, l1⟩
  have tC := topk_any c mbc wd nn M q' kn w1 H1.out.cc.cp HQ.out HK.out H1.out.tab hlM
  rw [← HT.out.1] at tC
  clear t1 l1 H hlM
  go_wp2_with fail
  refine tC.mono ?_
  clear tC
  rintro e w2 ⟨v2, rfl, t2⟩
  obtain ⟨a2, c2, hv, -, l2⟩ := t2.lat
  subst hv
  rw [← HT.out.2.1]
  have H2 : Hid (BB w w2 wd n m mbm p2 mb2 c mbc p mbp M Bk P nn nb (ns : Int) at') := H1.out.more t2.2.2
  have G2 : Hid (LAt w2 aa T ∧ LAt w2 a1 T ∧ LAt w2 a2 T) := ⟨G1.out.1.below t2.2.2, G1.out.2.below t2.2.2, l2⟩
  have tP := topk_any p mbp wd ns P q' kn w2 H2.out.pp HQ.out HK.out H2.out.tab (by rw [H2.out.pP.length_eq]; exact HLM.out)
  rw [topL_ext (hits_perm H2.out.pP), ← HT.out.1] at tP
  clear t2 l2 H1 G1
  go_wp2_with fail
  refine tP.mono ?_
  clear tP
  rintro e w3 ⟨v3, rfl, t3⟩
  obtain ⟨a3, c3, hv, -, l3⟩ := t3.lat
  subst hv
  rw [← HT.out.2.1]
  have H3 : Hid (BB w w3 wd n m mbm p2 mb2 c mbc p mbp M Bk P nn nb (ns : Int) at') := H2.out.more t3.2.2
  have G3 : Hid (LAt w3 aa T ∧ LAt w3 a1 T ∧ LAt w3 a2 T ∧ LAt w3 a3 T) := ⟨G2.out.1.below t3.2.2, G2.out.2.1.below t3.2.2, G2.out.2.2.below t3.2.2, l3⟩
  have hM := histogram_any m mbm wd nn M q' mm w3 H3.out.cc.mp HQ.out H3.out.tab HLM.out HT.out.2.2.2
  clear t3 l3 H2 G2
  go_wp2_with fail
  refine hM.mono ?_
  clear hM
  rintro e w4 ⟨cb4, rfl, r4, -, b4⟩
  have H4 : Hid (BB w w4 wd n m mbm p2 mb2 c mbc p mbp M Bk P nn nb (ns : Int) at') := H3.out.more b4
  have G4 : Hid (LAt w4 aa T ∧ LAt w4 a1 T ∧ LAt w4 a2 T ∧ LAt w4 a3 T) := ⟨G3.out.1.below b4, G3.out.2.1.below b4, G3.out.2.2.1.below b4, G3.out.2.2.2.below b4⟩
  have hB := histogram_any p2 mb2 wd nb Bk q' mm w4 H4.out.bp HQ.out H4.out.tab (by rw [H4.out.pb.length_eq]; exact HLM.out) HT.out.2.2.2
  rw [cnts_perm (hs := hitsOf q' Bk) (gs := hitsOf q' M) (H4.out.pb.map (htOf q'))] at hB
  have R4 := Hid.mk r4
  clear r4 b4 H3 G3
  go_wp2_with fail
  refine hB.mono ?_
  clear hB
  rintro e w5 ⟨cb5, rfl, r5, -, b5⟩
  have H5 : Hid (BB w w5 wd n m mbm p2 mb2 c mbc p mbp M Bk P nn nb (ns : Int) at') := H4.out.more b5
  have G5 : Hid (LAt w5 aa T ∧ LAt w5 a1 T ∧ LAt w5 a2 T ∧ LAt w5 a3 T ∧ IRow w5 cb4 mm (cnts mm (hitsOf q' M)) ∧ IRow w5 cb5 mm (cnts mm (hitsOf q' M))) := ⟨G4.out.1.below b5, G4.out.2.1.below b5, G4.out.2.2.1.below b5, G4.out.2.2.2.below b5, irow_below R4.out b5, r5⟩
  have hTl : T.length < 4611686018427387904 := by
    have := topL_len kn (hitsOf q' M)
    rw [← HT.out.1] at this
    have := HK.out
    omega
  have HSM : Hid (∀ V b cb, Drew w5 V → LAt w5 b T → Calls Tryd.prog 16 #[.slice aa nt cA, .slice b nt cb] V fun e w' => e = .returned (.bool true) ∧ Drew V w') := fun V b cb hd hb => by
    have h := sameHits_any T aa b cA cb V (G5.out.1.below (hd.below _)) (hb.below (hd.below _)) hTl
    rw [← HT.out.2.1] at h
    exact h
  have hmm : mm ≤ 1100 := by have := HT.out.2.2.2; have := isW_bd H5.out.cc.k.wd'; omega
  clear r5 b5 H4 G4 R4 hTl
  have q1 := HSM.out w5 a1 c1 (Drew.refl _) G5.out.2.1
  go_wp2_with fail
  refine q1.mono ?_
  clear q1
  rintro e w6 ⟨rfl, d6⟩
  have q2 := HSM.out w6 a2 c2 d6 G5.out.2.2.1
  go_wp2_with fail
  refine q2.mono ?_
  clear q2
  rintro e w7 ⟨rfl, d7'⟩
  have d7 := d6.trans d7'
  clear d6 d7'
  have q3 := HSM.out w7 a3 c3 d7 G5.out.2.2.2.1
  go_wp2_with fail
  refine q3.mono ?_
  clear q3
  rintro e w8 ⟨rfl, d8'⟩
  have d8 := d7.trans d8'
  clear d7 d8'
  have q4 := sameInts_any (cnts mm (hitsOf q' M)) cb4 cb5 mm w8 (irow_below G5.out.2.2.2.2.1 (d8.below _)) (irow_below G5.out.2.2.2.2.2 (d8.below _)) (cnts_len _ _).symm (by rw [cnts_len]; omega)
  go_wp2_with fail
  refine q4.mono ?_
  clear q4
  rintro e w9 ⟨rfl, d9'⟩
  have d9 := d8.trans d9'
  clear d8 d9'
  have H9 : Hid (BB w w9 wd n m mbm p2 mb2 c mbc p mbp M Bk P nn nb (ns : Int) at') := H5.out.more (d9.below _)
  have pB := pairs_any p2 mb2 wd nb Bk w9 H9.out.bp (by rw [H9.out.pb.length_eq]; exact HLM.out)
  rw [srtP_eq H9.out.pb H9.out.cc.k.nd] at pB
  clear d9 H5 G5 HSM
  go_wp2_with fail
  refine pB.mono ?_
  clear pB
  rintro e w10 ⟨v10, rfl, r10, -, b10⟩
  obtain ⟨a10, c10, hv, l10⟩ := r10.lat
  subst hv
  have H10 : Hid (BB w w10 wd n m mbm p2 mb2 c mbc p mbp M Bk P nn nb (ns : Int) at') := H9.out.more b10
  have s1 := samePairs_any (srtP M) at' a10 ct c10 w10 H10.out.cc.la l10 (by have := HS.out; omega)
  rw [← HS.out] at s1 ⊢
  clear r10 l10 b10 H9
  go_wp2_with fail
  refine s1.mono ?_
  clear s1
  rintro e w11 ⟨rfl, d11⟩
  have H11 : Hid (BB w w11 wd n m mbm p2 mb2 c mbc p mbp M Bk P nn nb (ns : Int) at') := H10.out.more (d11.below _)
  have pP := pairs_any p mbp wd ns P w11 H11.out.pp (by rw [H11.out.pP.length_eq]; exact HLM.out)
  rw [srtP_eq H11.out.pP H11.out.cc.k.nd] at pP
  clear d11 H10
  go_wp2_with fail
  refine pP.mono ?_
  clear pP
  rintro e w12 ⟨v12, rfl, r12, -, b12⟩
  obtain ⟨a12, c12, hv, l12⟩ := r12.lat
  subst hv
  have H12 : Hid (BB w w12 wd n m mbm p2 mb2 c mbc p mbp M Bk P nn nb (ns : Int) at') := H11.out.more b12
  have s2 := samePairs_any (srtP M) at' a12 ct c12 w12 H12.out.cc.la l12 (by have := HS.out; omega)
  rw [← HS.out] at s2 ⊢
  clear r12 l12 b12 H11
  go_wp2_with fail
  refine s2.mono ?_
  clear s2
  rintro e w13 ⟨rfl, d13⟩
  have H13 : Hid (BB w w13 wd n m mbm p2 mb2 c mbc p mbp M Bk P nn nb (ns : Int) at') := H12.out.more (d13.below _)
  have sq1 := seq_any c mbc wd nn M w13 H13.out.cc.cp
  have sq2 := seq_any m mbm wd nn M w13 H13.out.cc.mp
  have sq3 := seq_any p mbp wd ns P w13 H13.out.pp
  clear d13 H12
  go_wp2_with fail
  rename_i K1 a1' K2 a2' K3 a3'
  have HC := Hid.mk a1'
  clear a1'
  refine sq1.mono ?_
  clear sq1
  rintro e w14 ⟨rfl, h14⟩
  subst h14
  go_wp2_with fail
  refine sq2.mono ?_
  clear sq2
  rintro e w15 ⟨rfl, h15⟩
  subst h15
  go_wp2_with fail
  refine sq3.mono ?_
  clear sq3
  rintro e w16 ⟨rfl, h16⟩
  subst h16
  have HCC := Hid.mk H13.out.cc
  clear H13
  go_wp2_with fail
  exact HC.out _ _ (way_C HCC HS)
end Go.Proofs.YtekgppmhcbmpeaaDoor
set_option linter.unusedVariables false
set_option linter.unusedSimpArgs false
namespace Go.Proofs.YtekgppmhcbmpeaaDoor
open Go.RowKit Go.Proofs.BitMath
/-- The map, its pairs told, and turned round. -/
structure AA (w W : World) (wd : Int) (n m mbm : Nat) (M Bk : List Pr) (nn : Int) (at' ab au : Option Addr) : Prop where
  k : Kept wd n M
  len : M.length ≤ 80
  mp : MP W m mbm wd M nn
  la : PLAt W at' (srtP M)
  lb : PLAt W ab Bk
  lu : ULAt W au (upsOf 0 Bk)
  bk : Bk = (srtP M).reverse
  tab : Tab W
  st : Below w.heap.size w W
  mw : w.heap.size ≤ m ∧ w.heap.size ≤ mbm
  num : 0 ≤ nn ∧ nn ≤ 1000
  ab' : ∀ g off, at' = some ⟨g, off, none⟩ → g < W.heap.size
  au' : ∀ g off, au = some ⟨g, off, none⟩ → g < W.heap.size
theorem AA.perm {w W : World} {wd : Int} {n m mbm : Nat} {M Bk : List Pr} {nn : Int} {at' ab au : Option Addr} (h : AA w W wd n m mbm M Bk nn at' ab au) : Bk.Perm M := by
  rw [h.bk]; exact (List.reverse_perm _).trans (srtP_perm M)
theorem Kept.of {wd : Int} {n : Nat} {M B : List Pr} (h : Kept wd n M) (p : B.Perm M) : Kept wd n B := ⟨fun x hx => h.fit x (p.mem_iff.1 hx), ((p.map Pr.i).nodup_iff).2 h.nd, h.wd', h.n8⟩
set_option maxHeartbeats 8000000 in
set_option maxRecDepth 100000 in
theorem way_A {t1 t2 t5 t6 t7 t8 t9 t10 t11 t13 t14 t15 t16 t17 t18 t22 t23 t24 t25 t26 t27 t28 t29 t30 t31 t32 t33 t34 t35 t36 t37 t38 t39 t40 t41 t42 t43 t44 t45 t46 t47 t48 t49 t50 t51 t52 t53 t54 t55 t56 t57 t58 t59 t60 t61 t62 t63 t64 t65 t66 t67 t68 t69 t70 t71 t72 t73 t74 t75 t76 t77 t78 t79 t80 t81 t82 t83 t84 t85 t86 t87 t88 t89 t90 t91 t92 t93 t94 t95 t96 t97 t98 t99 t100 t101 t102 t103 t104 t105 t106 t107 t108 t109 t110 t111 t112 t113 t114 t115 t116 t117 t118 t119 t120 t121 t122 t123 t124 t125 t126 t127 t128 t129 t130 t131 t132 t133 t134 t135 t136 t137 t138 t139 t140 t141 t142 t143 t144 t145 t146 t147 t148 t149 t150 t151 t152 t153 t154 t155 t156 t157 t158 t159 t160 t161 t162 t163 t164 t165 t166 t167 t168 t169 t170 t171 t172 t173 t174 t175 t176 t177 t178 t179 t180 t181 t182 t183 t184 t185 t186 t187 t188 t189 t190 t191 t192 t193 t194 t195 t196 t197 t198 t199 t200 t201 t202 t203 t204 t205 t206 t207 t208 t209 t210 t211 t212 t213 t214 t215 t216 t217 t218 t219 t220 t221 t222 t223 t224 t225 t226 t227 t228 t229 t230 t231 t232 t233 t234 t235 t236 t237 t238 t239 t240 t241 t242 t243 t244 t245 t246 t247 t248 t249 t250 t251 t252 t253 t254 t255 t256 t257 t258 t259 t260 t261 t262 t263 t264 t265 t266 t267 t268 t269 t270 t271 t272 t273 t274 t275 t276 t277 t278 t279 t280 t281 t282 t283 t284 t285 t286 t287 t288 t289 t290 t291 t292 t293 t294 t295 t296 t297 t298 t299 t300 : Value} {w W : World} {wd nn k : Int} {n m mbm ns ct cb cu : Nat} {M Bk : List Pr} {q' : ByteArray} {at' ab au : Option Addr} (H : Hid (AA w W wd n m mbm M Bk nn at' ab au)) (HS : Hid (ns = (srtP M).length)) (HQ : Hid ((q'.size : Int) = wd / 8)) :
    Code.wp Tryd.prog (dropC 11 (Tryd.f6.body.getD .skip)) (bodyPost Tryd.prog Tryd.f6 fun e w' => e = .returned (.bool true) ∧ Below w.heap.size w w') { tmps := #[.int .i64 wd, t1, t2, .string q', .int .i64 k, t5, t6, t7, t8, t9, t10, t11, Pt m, t13, t14, t15, t16, t17, t18, .slice at' ns ct, .slice ab ns cb, .slice au ns cu, t22, t23, t24, t25, t26, t27, t28, t29, t30, t31, t32, t33, t34, t35, t36, t37, t38, t39, t40, t41, t42, t43, t44, t45, t46, t47, t48, t49, t50, t51, t52, t53, t54, t55, t56, t57, t58, t59, t60, t61, t62, t63, t64, t65, t66, t67, t68, t69, t70, t71, t72, t73, t74, t75, t76, t77, t78, t79, t80, t81, t82, t83, t84, t85, t86, t87, t88, t89, t90, t91, t92, t93, t94, t95, t96, t97, t98, t99, t100, t101, t102, t103, t104, t105, t106, t107, t108, t109, t110, t111, t112, t113, t114, t115, t116, t117, t118, t119, t120, t121, t122, t123, t124, t125, t126, t127, t128, t129, t130, t131, t132, t133, t134, t135, t136, t137, t138, t139, t140, t141, t142, t143, t144, t145, t146, t147, t148, t149, t150, t151, t152, t153, t154, t155, t156, t157, t158, t159, t160, t161, t162, t163, t164, t165, t166, t167, t168, t169, t170, t171, t172, t173, t174, t175, t176, t177, t178, t179, t180, t181, t182, t183, t184, t185, t186, t187, t188, t189, t190, t191, t192, t193, t194, t195, t196, t197, t198, t199, t200, t201, t202, t203, t204, t205, t206, t207, t208, t209, t210, t211, t212, t213, t214, t215, t216, t217, t218, t219, t220, t221, t222, t223, t224, t225, t226, t227, t228, t229, t230, t231, t232, t233, t234, t235, t236, t237, t238, t239, t240, t241, t242, t243, t244, t245, t246, t247, t248, t249, t250, t251, t252, t253, t254, t255, t256, t257, t258, t259, t260, t261, t262, t263, t264, t265, t266, t267, t268, t269, t270, t271, t272, t273, t274, t275, t276, t277, t278, t279, t280, t281, t282, t283, t284, t285, t286, t287, t288, t289, t290, t291, t292, t293, t294, t295, t296, t297, t298, t299, t300], defers := [] } W := by
  have hp := H.out.perm
  have hKB := H.out.k.of hp
  have hBl : Bk.length = ns := by rw [hp.length_eq, HS.out, (srtP_perm M).length_eq]
  have hM80 := H.out.len
  have hns : ns ≤ 80 := by rw [← hBl, hp.length_eq]; exact hM80
  have hb := isW_bd H.out.k.wd'
  obtain ⟨mm, hmm⟩ : ∃ mm : Nat, (mm : Int) = wd + 1 := ⟨(wd + 1).toNat, by omega⟩
  have HMM := Hid.mk hmm
  have hf2 := filled_any wd n H.out.k.wd' H.out.k.n8 Bk (fun y hy => by
    have h1 := hKB.fit y hy
    have h2 := hKB.size hy
    have h3 := H.out.k.n8
    exact ⟨⟨by have := h1.1; omega, by have := h1.2.1; omega⟩, by omega⟩) ab cb W H.out.lb (by omega)
  rw [fl_self hKB (by omega), hBl] at hf2
  have HP := Hid.mk (And.intro hp (And.intro hKB (And.intro hBl hns)))
  clear hmm hp hKB hM80 hb
  simp only [dropC, sndC, Tryd.f6, Option.getD_some]
  go_wp2_with fail
  refine hf2.mono ?_
  clear hf2
  rintro e w1 ⟨p2, mb2, ai, ci, rfl, F1⟩
  have HF1 := Hid.mk F1
  have cp := copy_any m mbm wd nn M w1 (H.out.mp.below F1.st)
  clear F1
  go_wp2_with fail
  refine cp.mono ?_
  clear cp
  rintro e w2 ⟨c, mbc, rfl, m2, c2, mc2, b2⟩
  have HC2 := Hid.mk (And.intro m2 (And.intro c2 (And.intro mc2 b2)))
  have nw := pnew_yes wd H.out.k.wd' w2
  clear m2 c2 mc2 b2
  go_wp2_with fail
  refine nw.mono ?_
  clear nw
  rintro e w3 ⟨p, mbp, rfl, m3, b3, p3, mp3⟩
  have hpl := play_any p mbp wd 0 [] (upsOf 0 Bk) au cu w3 m3 (fun u hu => by
    obtain ⟨x, hx, e⟩ := ups_mem 0 Bk u hu
    rw [e]
    have h1 := HP.out.2.1.fit x hx
    exact ⟨by have := h1.1; omega, by have := h1.2.1; omega⟩) (H.out.lu.stay (F := fun _ => False) (.below ((HF1.out.st.trans (HC2.out.2.2.2.mono HF1.out.st.size)).trans (b3.mono (Nat.le_trans HF1.out.st.size HC2.out.2.2.2.size)))) (fun _ _ _ h => h)) (fun _ g off e => by
    have h1 := H.out.au' g off e
    have h2 := HF1.out.st.size
    have h3 := HC2.out.2.2.2.size
    omega) (by rw [ups_len]; omega) (by simp)
  rw [ups_len, hBl] at hpl
  have hup := ups_play wd n Bk [] 0 HP.out.2.1.fit (by simpa using HP.out.2.1.nd) (by simp; omega)
  rw [show ((0 : Nat) : Int) = 0 from rfl] at hup
  rw [hup, hBl] at hpl
  have HB3 : Hid (∀ w4, MPL w3 w4 p mbp wd (Bk.reverse ++ []) ((0 + ns : Nat) : Int) → BB w w4 wd n m mbm p2 mb2 c mbc p mbp M Bk (Bk.reverse ++ []) nn (Bk.length : Int) (ns : Int) at') := fun w4 h4 => by
    have s1 := HF1.out.st.size
    have s2 := HC2.out.2.2.2.size
    have s3 := b3.size
    have bW3 : Below W.heap.size W w3 := (HF1.out.st.trans (HC2.out.2.2.2.mono s1)).trans (b3.mono (Nat.le_trans s1 s2))
    have b13 : Below w1.heap.size w1 w3 := HC2.out.2.2.2.trans (b3.mono s2)
    have m1 := H.out.mp.at'.lt
    have m2 := H.out.mp.pm.lt
    have f1 := HF1.out.mp.at'.lt
    have f2 := HF1.out.mp.pm.lt
    have g1 := HC2.out.1.at'.lt
    have g2 := HC2.out.1.pm.lt
    have c1 := HC2.out.2.1
    have c2 := HC2.out.2.2.1
    have st4 : Below W.heap.size W w4 := bW3.trans (h4.2.toBelow (fun k hk e => by omega) bW3.size)
    refine ⟨⟨H.out.k, H.out.len, H.out.mp.below st4, (HC2.out.1.below b3).keep h4.2 (by omega) (by omega), H.out.la.below st4, by omega, fun g off e => by have := H.out.ab' g off e; omega, by have := H.out.st.size; omega, H.out.st.trans (st4.mono H.out.st.size), H.out.num⟩, (HF1.out.mp.below b13).keep h4.2 (by omega) (by omega), ?_, HP.out.1, by rw [List.append_nil]; exact (List.reverse_perm _).trans HP.out.1, H.out.tab.lat st4⟩
    have := h4.1
    simpa using this
  have HNL : Hid (Bk.length = ns) := hBl
  clear hup m3 b3 p3 mp3 hBl
  go_wp2_with fail
  refine hpl.mono ?_
  clear hpl
  rintro e w4 ⟨rfl, m4⟩
  have HB4 := Hid.mk (HB3.out w4 m4)
  clear HB3 m4 HF1 HC2
  by_cases hk0 : k < 0
  · have i0 : decide (k < 0) = true := decide_eq_true hk0
    have HKN : Hid ((3 : Nat) ≤ 4096) := (by show _ ≤ _; omega)
    clear hk0
    go_wp2_with fail
    rename_i K1 a1' K0 a0'
    have HC := Hid.mk a1'
    clear a1'
    have tA : Calls Tryd.prog 13 #[Pt m, .string q', .int .i64 3] w4 fun e w' => ∃ v, e = .returned (.tuple #[v, .int .i64 0]) ∧ Told w4 w' v (topL 3 (hitsOf q' M)) := topk_any m mbm wd nn M q' 3 w4 HB4.out.cc.mp HQ.out HKN.out HB4.out.tab (by have := HB4.out.cc.len; omega)
    refine tA.mono ?_
    clear tA
    rintro e w5 ⟨v5, rfl, t5⟩
    obtain ⟨T, hT⟩ : ∃ T, T = topL 3 (hitsOf q' M) := ⟨_, rfl⟩
    rw [← hT] at t5
    obtain ⟨a5, c5, hv, -, l5⟩ := t5.lat
    subst hv
    have HB5 : Hid (BB w w5 wd n m mbm p2 mb2 c mbc p mbp M Bk (Bk.reverse ++ []) nn (Bk.length : Int) (ns : Int) at') := HB4.out.more t5.2.2
    obtain ⟨nt, hnt⟩ : ∃ nt, nt = T.length := ⟨_, rfl⟩
    rw [← hnt]
    have HT5 : Hid (T = topL 3 (hitsOf q' M) ∧ nt = T.length ∧ LAt w5 a5 T ∧ (mm : Int) = wd + 1) := ⟨hT, hnt, l5, HMM.out⟩
    clear hT hnt t5 l5 HB4
    go_wp2_with fail
    exact HC.out _ _ (way_B (kn := 3) HB5 HS HQ HKN HT5)
  · have i0 : decide (k < 0) = false := decide_eq_false hk0
    by_cases hk1 : 4096 < k
    · have i1 : decide (4096 < k) = true := decide_eq_true hk1
      have HKN : Hid ((3 : Nat) ≤ 4096) := (by show _ ≤ _; omega)
      clear hk0 hk1
      go_wp2_with fail
      rename_i K1 a1' K0 a0'
      have HC := Hid.mk a1'
      clear a1'
      have tA : Calls Tryd.prog 13 #[Pt m, .string q', .int .i64 3] w4 fun e w' => ∃ v, e = .returned (.tuple #[v, .int .i64 0]) ∧ Told w4 w' v (topL 3 (hitsOf q' M)) := topk_any m mbm wd nn M q' 3 w4 HB4.out.cc.mp HQ.out HKN.out HB4.out.tab (by have := HB4.out.cc.len; omega)
      refine tA.mono ?_
      clear tA
      rintro e w5 ⟨v5, rfl, t5⟩
      obtain ⟨T, hT⟩ : ∃ T, T = topL 3 (hitsOf q' M) := ⟨_, rfl⟩
      rw [← hT] at t5
      obtain ⟨a5, c5, hv, -, l5⟩ := t5.lat
      subst hv
      have HB5 : Hid (BB w w5 wd n m mbm p2 mb2 c mbc p mbp M Bk (Bk.reverse ++ []) nn (Bk.length : Int) (ns : Int) at') := HB4.out.more t5.2.2
      obtain ⟨nt, hnt⟩ : ∃ nt, nt = T.length := ⟨_, rfl⟩
      rw [← hnt]
      have HT5 : Hid (T = topL 3 (hitsOf q' M) ∧ nt = T.length ∧ LAt w5 a5 T ∧ (mm : Int) = wd + 1) := ⟨hT, hnt, l5, HMM.out⟩
      clear hT hnt t5 l5 HB4
      go_wp2_with fail
      exact HC.out _ _ (way_B (kn := 3) HB5 HS HQ HKN HT5)
    · obtain ⟨kn, rfl⟩ : ∃ kn : Nat, k = (kn : Int) := ⟨k.toNat, by omega⟩
      have i1 : decide (4096 < (kn : Int)) = false := decide_eq_false hk1
      have HKN : Hid ((kn : Nat) ≤ 4096) := (by show _ ≤ _; omega)
      clear hk0 hk1
      go_wp2_with fail
      rename_i K1 a1' K0 a0'
      have HC := Hid.mk a1'
      clear a1'
      have tA : Calls Tryd.prog 13 #[Pt m, .string q', .int .i64 (kn : Int)] w4 fun e w' => ∃ v, e = .returned (.tuple #[v, .int .i64 0]) ∧ Told w4 w' v (topL kn (hitsOf q' M)) := topk_any m mbm wd nn M q' kn w4 HB4.out.cc.mp HQ.out HKN.out HB4.out.tab (by have := HB4.out.cc.len; omega)
      refine tA.mono ?_
      clear tA
      rintro e w5 ⟨v5, rfl, t5⟩
      obtain ⟨T, hT⟩ : ∃ T, T = topL kn (hitsOf q' M) := ⟨_, rfl⟩
      rw [← hT] at t5
      obtain ⟨a5, c5, hv, -, l5⟩ := t5.lat
      subst hv
      have HB5 : Hid (BB w w5 wd n m mbm p2 mb2 c mbc p mbp M Bk (Bk.reverse ++ []) nn (Bk.length : Int) (ns : Int) at') := HB4.out.more t5.2.2
      obtain ⟨nt, hnt⟩ : ∃ nt, nt = T.length := ⟨_, rfl⟩
      rw [← hnt]
      have HT5 : Hid (T = topL kn (hitsOf q' M) ∧ nt = T.length ∧ LAt w5 a5 T ∧ (mm : Int) = wd + 1) := ⟨hT, hnt, l5, HMM.out⟩
      clear hT hnt t5 l5 HB4
      go_wp2_with fail
      exact HC.out _ _ (way_B (kn := kn) HB5 HS HQ HKN HT5)
end Go.Proofs.YtekgppmhcbmpeaaDoor
set_option linter.unusedVariables false
set_option linter.unusedSimpArgs false
namespace Go.Proofs.YtekgppmhcbmpeaaDoor
open Go.RowKit Go.Proofs.BitMath
theorem oper_append_eq {P : Program} {w : World} {o : Oper} {a : Act} {K : Act → World → Prop} {Q : Exit → Act → World → Prop} (s x : Operand) (t u : TypeId)
    (ho : o.op = .call { callee := .builtin .append, args := #[s, x], argTypes := #[t, u] }) (v xv v' : Value) (w' : World) (hs : a.eval s = v) (hx : a.eval x = xv) (hr : (Builtin.append_ #[t, u] o.type #[v, xv]).run P w = .ok v' w')
    (h : K (a.put o.dst v') w') : Oper.wp P o a w K Q := by
  unfold Oper.wp execOp
  simp only [ho, resolve, invoke, builtin, Sem.run_bind, Sem.run_pure, Result.andThen_ok, List.map_toArray, List.map_cons, List.map_nil, hs, hx, hr]
  exact h
structure WI (W wr : World) (Bk : List Pr) (t : Nat) (bv uv : Value) : Prop where
  pr : PRow wr bv (Bk.take t)
  ur : URow wr uv (upsOf 0 (Bk.take t))
  bf : ∀ k, bv.ownBlock = some k → W.heap.size ≤ k
  uf : ∀ k, uv.ownBlock = some k → W.heap.size ≤ k
  st : Below W.heap.size W wr
theorem pu_apart {wr : World} {bv uv : Value} {X : List Pr} {Y : List Up} (h : PRow wr bv X) (h' : URow wr uv Y) (k : Nat) (h1 : bv.ownBlock = some k) : uv.ownBlock ≠ some k := fun h2 => by
  obtain ⟨c1, e1⟩ := row_block h h1
  obtain ⟨c2, e2⟩ := row_block h' h2
  rw [e1] at e2
  simp at e2
def RW (W : World) (Bk : List Pr) (ns : Nat) (bv uv iv : Value) (wr : World) : Prop := ∃ (t : Nat) (ab au : Option Addr) (cb cu : Nat), bv = .slice ab t cb ∧ uv = .slice au t cu ∧ iv = .int .i64 ((ns : Int) - 1 - (t : Int)) ∧ t ≤ ns ∧ Hid (WI W wr Bk t (.slice ab t cb) (.slice au t cu))
set_option maxHeartbeats 8000000 in
set_option maxRecDepth 100000 in
theorem way_1 {t1 t2 t5 t6 t7 t8 t9 t10 t11 t13 t14 t15 t16 t17 t18 t19 t20 t21 t22 t23 t24 t25 t26 t27 t28 t29 t30 t31 t32 t33 t34 t35 t36 t37 t38 t39 t40 t41 t42 t43 t44 t45 t46 t47 t48 t49 t50 t51 t52 t53 t54 t55 t56 t57 t58 t59 t60 t61 t62 t63 t64 t65 t66 t67 t68 t69 t70 t71 t72 t73 t74 t75 t76 t77 t78 t79 t80 t81 t82 t83 t84 t85 t86 t87 t88 t89 t90 t91 t92 t93 t94 t95 t96 t97 t98 t99 t100 t101 t102 t103 t104 t105 t106 t107 t108 t109 t110 t111 t112 t113 t114 t115 t116 t117 t118 t119 t120 t121 t122 t123 t124 t125 t126 t127 t128 t129 t130 t131 t132 t133 t134 t135 t136 t137 t138 t139 t140 t141 t142 t143 t144 t145 t146 t147 t148 t149 t150 t151 t152 t153 t154 t155 t156 t157 t158 t159 t160 t161 t162 t163 t164 t165 t166 t167 t168 t169 t170 t171 t172 t173 t174 t175 t176 t177 t178 t179 t180 t181 t182 t183 t184 t185 t186 t187 t188 t189 t190 t191 t192 t193 t194 t195 t196 t197 t198 t199 t200 t201 t202 t203 t204 t205 t206 t207 t208 t209 t210 t211 t212 t213 t214 t215 t216 t217 t218 t219 t220 t221 t222 t223 t224 t225 t226 t227 t228 t229 t230 t231 t232 t233 t234 t235 t236 t237 t238 t239 t240 t241 t242 t243 t244 t245 t246 t247 t248 t249 t250 t251 t252 t253 t254 t255 t256 t257 t258 t259 t260 t261 t262 t263 t264 t265 t266 t267 t268 t269 t270 t271 t272 t273 t274 t275 t276 t277 t278 t279 t280 t281 t282 t283 t284 t285 t286 t287 t288 t289 t290 t291 t292 t293 t294 t295 t296 t297 t298 t299 t300 : Value} {w W : World} {wd nn k : Int} {n m mbm : Nat} {M : List Pr} {q' : ByteArray} (HK : Hid (Kept wd n M ∧ M.length ≤ 80)) (HM : Hid (MP W m mbm wd M nn ∧ Tab W ∧ Below w.heap.size w W)) (HN : Hid ((w.heap.size ≤ m ∧ w.heap.size ≤ mbm) ∧ 0 ≤ nn ∧ nn ≤ 1000)) (HQ : Hid ((q'.size : Int) = wd / 8)) :
    Code.wp Tryd.prog (dropC 7 (Tryd.f6.body.getD .skip)) (bodyPost Tryd.prog Tryd.f6 fun e w' => e = .returned (.bool true) ∧ Below w.heap.size w w') { tmps := #[.int .i64 wd, t1, t2, .string q', .int .i64 k, t5, t6, t7, t8, t9, t10, t11, Pt m, t13, t14, t15, t16, t17, t18, t19, t20, t21, t22, t23, t24, t25, t26, t27, t28, t29, t30, t31, t32, t33, t34, t35, t36, t37, t38, t39, t40, t41, t42, t43, t44, t45, t46, t47, t48, t49, t50, t51, t52, t53, t54, t55, t56, t57, t58, t59, t60, t61, t62, t63, t64, t65, t66, t67, t68, t69, t70, t71, t72, t73, t74, t75, t76, t77, t78, t79, t80, t81, t82, t83, t84, t85, t86, t87, t88, t89, t90, t91, t92, t93, t94, t95, t96, t97, t98, t99, t100, t101, t102, t103, t104, t105, t106, t107, t108, t109, t110, t111, t112, t113, t114, t115, t116, t117, t118, t119, t120, t121, t122, t123, t124, t125, t126, t127, t128, t129, t130, t131, t132, t133, t134, t135, t136, t137, t138, t139, t140, t141, t142, t143, t144, t145, t146, t147, t148, t149, t150, t151, t152, t153, t154, t155, t156, t157, t158, t159, t160, t161, t162, t163, t164, t165, t166, t167, t168, t169, t170, t171, t172, t173, t174, t175, t176, t177, t178, t179, t180, t181, t182, t183, t184, t185, t186, t187, t188, t189, t190, t191, t192, t193, t194, t195, t196, t197, t198, t199, t200, t201, t202, t203, t204, t205, t206, t207, t208, t209, t210, t211, t212, t213, t214, t215, t216, t217, t218, t219, t220, t221, t222, t223, t224, t225, t226, t227, t228, t229, t230, t231, t232, t233, t234, t235, t236, t237, t238, t239, t240, t241, t242, t243, t244, t245, t246, t247, t248, t249, t250, t251, t252, t253, t254, t255, t256, t257, t258, t259, t260, t261, t262, t263, t264, t265, t266, t267, t268, t269, t270, t271, t272, t273, t274, t275, t276, t277, t278, t279, t280, t281, t282, t283, t284, t285, t286, t287, t288, t289, t290, t291, t292, t293, t294, t295, t296, t297, t298, t299, t300], defers := [] } W := by
  have pr := pairs_any m mbm wd nn M W HM.out.1 (by have := HK.out.2; omega)
  simp only [dropC, sndC, Tryd.f6, Option.getD_some]
  go_wp2_with fail
  refine pr.mono ?_
  clear pr
  rintro e w1 ⟨v1, rfl, r1, f1, b1⟩
  obtain ⟨at', ct, hv, l1⟩ := r1.lat
  subst hv
  obtain ⟨ns, hns⟩ : ∃ ns, ns = (srtP M).length := ⟨_, rfl⟩
  have HS := Hid.mk hns
  have hn80 : ns ≤ 80 := by rw [hns, (srtP_perm M).length_eq]; exact HK.out.2
  rw [← hns]
  obtain ⟨Bk, hBk⟩ : ∃ Bk, Bk = (srtP M).reverse := ⟨_, rfl⟩
  have HG : Hid (Bk = (srtP M).reverse ∧ PLAt w1 at' (srtP M) ∧ Below W.heap.size W w1 ∧ ∀ g off, at' = some ⟨g, off, none⟩ → g < w1.heap.size) := ⟨hBk, l1, b1, fun g off e => row_lt r1 (by rw [e]; rfl)⟩
  have H0 : Hid (WI w1 w1 Bk 0 (.slice none 0 0) (.slice none 0 0)) := ⟨by simpa using PRow.nil w1, by simpa [upsOf] using URow.nil w1, fun k hk => (by cases hk), fun k hk => (by cases hk), Below.refl _ _⟩
  have hw0 : IntKind.i64.wrap ((ns : Int) - 1) = (ns : Int) - 1 := by rw [IntKind.wrap_i64]; omega
  clear hns hBk l1 r1 f1 b1
  go_wp2_with fail
  rename_i K9 a9
  have HC9 := Hid.mk a9
  clear a9
  go_loopw [20, 21, 22] (fun bv uv iv wr => RW w1 Bk ns bv uv iv wr) (fun _ _ u _ => (intOf u + 1).toNat)
  case atStart => exact ⟨0, none, none, 0, 0, rfl, rfl, by simp, Nat.zero_le _, H0⟩
  case round =>
    clear H0
    obtain ⟨t, ab, au, cb, cu, rfl, rfl, rfl, ht, HI⟩ := hrel
    by_cases hlt : t < ns
    · obtain ⟨i, hi⟩ : ∃ i : Nat, (i : Int) = (ns : Int) - 1 - (t : Int) := ⟨ns - 1 - t, by omega⟩
      have hit : i + t + 1 = ns := by omega
      rw [← hi]
      have i1 : (0 : Int) ≤ (i : Int) := by omega
      have i2 : (i : Int) < (ns : Int) := by omega
      have hiS : i < (srtP M).length := by have := HS.out; omega
      obtain ⟨g, o, e1, x0, x1⟩ := HG.out.2.1.pr HI.out.st i hiS
      obtain ⟨x, hx⟩ : ∃ x, x = (srtP M)[i] := ⟨_, rfl⟩
      rw [← hx] at x0 x1
      have htB : t < Bk.length := by rw [HG.out.1, List.length_reverse, ← HS.out]; exact hlt
      have hxB : Bk[t] = x := by
        have e2 : Bk[t]? = some x := by
          rw [HG.out.1, List.getElem?_reverse (by rw [← HS.out]; exact hlt), List.getElem?_eq_getElem (by have := HS.out; omega), hx]
          congr 2
          have := HS.out
          omega
        rw [List.getElem?_eq_getElem htB] at e2
        exact Option.some.inj e2
      have htk : Bk.take (t + 1) = Bk.take t ++ [x] := by rw [List.take_succ_eq_append_getElem htB, hxB]
      have hlt' : (Bk.take t).length = t := by rw [List.length_take]; omega
      have hul : (upsOf 0 (Bk.take t)).length = t := by rw [ups_len]; exact hlt'
      obtain ⟨a2, c2, w2, hap1, r2, s2, loc2⟩ := pair_app1 wr (Bk.take t) (.slice ab t cb) HI.out.pr x (by omega)
      rw [hlt'] at hap1 r2 loc2
      have b2 : Below w1.heap.size w1 w2 := HI.out.st.trans (s2.toBelow (fun k hk e => by have := HI.out.bf k e; omega) HI.out.st.size)
      have u2 : URow w2 (.slice au t cu) (upsOf 0 (Bk.take t)) := row_kept HI.out.ur s2 (fun k hk e => pu_apart HI.out.pr HI.out.ur k e hk)
      have u2d : URow w2.drew (.slice au t cu) (upsOf 0 (Bk.take t)) := World.ownsRow.drew u2
      obtain ⟨a3, c3, w3, hap2, r3, s3, loc3⟩ := upd_app1 w2.drew (upsOf 0 (Bk.take t)) (.slice au t cu) u2d ⟨((0 + t : Nat) : Int) + 1, 1, x.i, x.c⟩ (by omega)
      rw [hul] at hap2 r3 loc3
      have b3 : Below w1.heap.size w1 w3 := b2.trans ((Stay.undrew s3).toBelow (fun k hk e => by have := HI.out.uf k e; omega) b2.size)
      have HN : Hid (RW w1 Bk ns (.slice a2 (t + 1) c2) (.slice a3 (t + 1) c3) (.int .i64 ((ns : Int) - 1 - ((t + 1 : Nat) : Int))) w3) := by
        refine ⟨t + 1, a2, a3, c2, c3, rfl, rfl, rfl, hlt, ?_, ?_, ?_, ?_, b3⟩
        · rw [htk]
          exact row_kept r2 (Stay.undrew s3) (fun k hk e => pu_apart r2 u2 k hk e)
        · rw [htk, ups_snoc, hlt']
          exact r3
        · intro k hk
          rcases loc2 k hk with h | h
          · exact HI.out.bf k h
          · exact Nat.le_trans HI.out.st.size h
        · intro k hk
          rcases loc3 k hk with h | h
          · exact HI.out.uf k h
          · exact Nat.le_trans b2.size h
      have y0 : w2.cell? ⟨g, o + i * 2, none⟩ = some (.int .i64 x.i) ∧ w2.cell? ⟨g, o + i * 2 + 1, none⟩ = some (.string x.c) ∧ w3.cell? ⟨g, o + i * 2, none⟩ = some (.int .i64 x.i) ∧ w3.cell? ⟨g, o + i * 2 + 1, none⟩ = some (.string x.c) := by
        obtain ⟨g', o', e', z0, z1⟩ := HG.out.2.1.pr b2 i hiS
        obtain ⟨g3, o3, e3, z2, z3⟩ := HG.out.2.1.pr b3 i hiS
        rw [e1] at e' e3
        simp only [Option.some.injEq, Addr.mk.injEq] at e' e3
        obtain ⟨rfl, rfl, -⟩ := e'
        obtain ⟨rfl, rfl, -⟩ := e3
        rw [← hx] at z0 z1 z2 z3
        exact ⟨z0, z1, z2, z3⟩
      obtain ⟨y0, y1, y2, y3⟩ := y0
      subst e1
      have hwi : IntKind.i64.wrap ((i : Int) - 1) = (ns : Int) - 1 - ((t + 1 : Nat) : Int) := by rw [IntKind.wrap_i64]; omega
      have e5 : ((0 + t : Nat) : Int) + 1 = (t : Int) + 1 := by omega
      rw [e5] at hap2
      have hsz2 : w2.drew.heap.size = w2.heap.size := rfl
      rw [hsz2] at hap2
      simp only [pC] at hap1
      simp only [uC] at hap2
      have hap3 : (Builtin.append_ #[45, 45] 45 #[.slice au t cu, .slice (some ⟨w2.heap.size, 0, none⟩) 1 1]).run Tryd.prog (w2.alloc (.cells #[.int .i64 ((t : Int) + 1), .int .i64 1, .int .i64 x.i, .string x.c] 53)).drew = .ok (.slice a3 (t + 1) c3) w3 := hap2
      have HHI := Hid.mk hi
      clear hx htB hxB htk hlt' hul r2 s2 loc2 b2 u2 u2d r3 s3 loc3 b3 HI hiS hit e5 hsz2 hi
      go_wp2_with (first
        | (at_builtin; refine wpList_append_eq rfl _ _ _ _ rfl _ _ _ _ rfl rfl hap1 ?_; clear hap1)
        | go_in)
      refine wp_region_held_drew (S := fun w' => w'.cell? ⟨g, o + i * 2, none⟩ = some (.int .i64 x.i) ∧ w'.cell? ⟨g, o + i * 2 + 1, none⟩ = some (.string x.c)) (by kernel_rfl) ?_ (fun hHeld => ?_)
      · exact ⟨y0, y1⟩
      refine wpAnyH_take (i := 0) (oi := { dst := some 111, op := Op.move (Operand.tmp 21), type := 45, pos := "plain.go:146", after := #[], guard := none }) (v := ?vw0) rfl (by kernel_rfl) (by kernel_rfl) (by kernel_rfl) (fun _ _ _ h => h) (Or.inl ⟨by rfl, ?hw0⟩) (by assumption) ?rw0
      case hw0 => (intro w0 hSw; (try dsimp only at hSw); go_simp; try (with_reducible rfl))
      simp only [Act.put, List.setIfInBounds_toArray, List.set_cons_zero, List.set_cons_succ]
      refine wpAnyH_take (i := 1) (oi := { dst := some 112, op := Op.move (Operand.tmp 20), type := 22, pos := "plain.go:146", after := #[], guard := none }) (v := ?vw1) rfl (by kernel_rfl) (by kernel_rfl) (by kernel_rfl) (fun _ _ _ h => h) (Or.inl ⟨by rfl, ?hw1⟩) (by assumption) ?rw1
      case hw1 => (intro w0 hSw; (try dsimp only at hSw); go_simp; try (with_reducible rfl))
      simp only [Act.put, List.setIfInBounds_toArray, List.set_cons_zero, List.set_cons_succ]
      refine wpAnyH_take (i := 2) (oi := { dst := some 113, op := Op.call { callee := Callee.builtin Builtin.len, args := #[Operand.tmp 112], argTypes := #[22] }, type := 3, pos := "plain.go:146", after := #[{ on := 1, ground := Ground.data }], guard := none }) (v := ?vw2) rfl (by kernel_rfl) (by kernel_rfl) (by kernel_rfl) (fun _ _ _ h => h) (Or.inl ⟨by rfl, ?hw2⟩) (by assumption) ?rw2
      case hw2 => (intro w0 hSw; (try dsimp only at hSw); go_simp; try (with_reducible rfl))
      simp only [Act.put, List.setIfInBounds_toArray, List.set_cons_zero, List.set_cons_succ]
      refine wpAnyH_take (i := 3) (oi := { dst := some 114, op := Op.move (Operand.tmp 19), type := 22, pos := "plain.go:146", after := #[], guard := none }) (v := ?vw3) rfl (by kernel_rfl) (by kernel_rfl) (by kernel_rfl) (fun _ _ _ h => h) (Or.inl ⟨by rfl, ?hw3⟩) (by assumption) ?rw3
      case hw3 => (intro w0 hSw; (try dsimp only at hSw); go_simp; try (with_reducible rfl))
      simp only [Act.put, List.setIfInBounds_toArray, List.set_cons_zero, List.set_cons_succ]
      refine wpAnyH_take (i := 4) (oi := { dst := some 115, op := Op.move (Operand.tmp 22), type := 3, pos := "plain.go:146", after := #[], guard := none }) (v := ?vw4) rfl (by kernel_rfl) (by kernel_rfl) (by kernel_rfl) (fun _ _ _ h => h) (Or.inl ⟨by rfl, ?hw4⟩) (by assumption) ?rw4
      case hw4 => (intro w0 hSw; (try dsimp only at hSw); go_simp; try (with_reducible rfl))
      simp only [Act.put, List.setIfInBounds_toArray, List.set_cons_zero, List.set_cons_succ]
      refine wpAnyH_take (i := 5) (oi := { dst := some 116, op := Op.indexAddr 22 (Operand.tmp 114) (Operand.tmp 115), type := 0, pos := "plain.go:146", after := #[{ on := 3, ground := Ground.data }, { on := 4, ground := Ground.data }], guard := none }) (v := ?vw5) rfl (by kernel_rfl) (by kernel_rfl) (by kernel_rfl) (fun _ _ _ h => h) (Or.inl ⟨by rfl, ?hw5⟩) (by assumption) ?rw5
      case hw5 => (intro w0 hSw; (try dsimp only at hSw); go_simp; try (with_reducible rfl))
      simp only [Act.put, List.setIfInBounds_toArray, List.set_cons_zero, List.set_cons_succ]
      refine wpAnyH_take (i := 6) (oi := { dst := some 117, op := Op.fieldAddr 56 (Operand.tmp 116) 0, type := 0, pos := "plain.go:146", after := #[{ on := 5, ground := Ground.data }], guard := none }) (v := ?vw6) rfl (by kernel_rfl) (by kernel_rfl) (by kernel_rfl) (fun _ _ _ h => h) (Or.inl ⟨by rfl, ?hw6⟩) (by assumption) ?rw6
      case hw6 => (intro w0 hSw; (try dsimp only at hSw); go_simp; try (with_reducible rfl))
      simp only [Act.put, List.setIfInBounds_toArray, List.set_cons_zero, List.set_cons_succ]
      refine wpAnyH_take (i := 7) (oi := { dst := some 118, op := Op.load 3 (Operand.tmp 117), type := 3, pos := "plain.go:146", after := #[{ on := 6, ground := Ground.data }], guard := none }) (v := ?vw7) rfl (by kernel_rfl) (by kernel_rfl) (by kernel_rfl) (fun _ _ _ h => h) (Or.inl ⟨by rfl, ?hw7⟩) (by assumption) ?rw7
      case hw7 => (intro w0 hSw; (try dsimp only at hSw); go_simp; try (with_reducible rfl))
      simp only [Act.put, List.setIfInBounds_toArray, List.set_cons_zero, List.set_cons_succ]
      refine wpAnyH_take (i := 8) (oi := { dst := some 119, op := Op.move (Operand.tmp 19), type := 22, pos := "plain.go:146", after := #[], guard := none }) (v := ?vw8) rfl (by kernel_rfl) (by kernel_rfl) (by kernel_rfl) (fun _ _ _ h => h) (Or.inl ⟨by rfl, ?hw8⟩) (by assumption) ?rw8
      case hw8 => (intro w0 hSw; (try dsimp only at hSw); go_simp; try (with_reducible rfl))
      simp only [Act.put, List.setIfInBounds_toArray, List.set_cons_zero, List.set_cons_succ]
      refine wpAnyH_take (i := 9) (oi := { dst := some 120, op := Op.move (Operand.tmp 22), type := 3, pos := "plain.go:146", after := #[], guard := none }) (v := ?vw9) rfl (by kernel_rfl) (by kernel_rfl) (by kernel_rfl) (fun _ _ _ h => h) (Or.inl ⟨by rfl, ?hw9⟩) (by assumption) ?rw9
      case hw9 => (intro w0 hSw; (try dsimp only at hSw); go_simp; try (with_reducible rfl))
      simp only [Act.put, List.setIfInBounds_toArray, List.set_cons_zero, List.set_cons_succ]
      refine wpAnyH_take (i := 10) (oi := { dst := some 121, op := Op.indexAddr 22 (Operand.tmp 119) (Operand.tmp 120), type := 0, pos := "plain.go:146", after := #[{ on := 8, ground := Ground.data }, { on := 9, ground := Ground.data }], guard := none }) (v := ?vw10) rfl (by kernel_rfl) (by kernel_rfl) (by kernel_rfl) (fun _ _ _ h => h) (Or.inl ⟨by rfl, ?hw10⟩) (by assumption) ?rw10
      case hw10 => (intro w0 hSw; (try dsimp only at hSw); go_simp; try (with_reducible rfl))
      simp only [Act.put, List.setIfInBounds_toArray, List.set_cons_zero, List.set_cons_succ]
      refine wpAnyH_take (i := 11) (oi := { dst := some 122, op := Op.fieldAddr 56 (Operand.tmp 121) 1, type := 0, pos := "plain.go:146", after := #[{ on := 10, ground := Ground.data }], guard := none }) (v := ?vw11) rfl (by kernel_rfl) (by kernel_rfl) (by kernel_rfl) (fun _ _ _ h => h) (Or.inl ⟨by rfl, ?hw11⟩) (by assumption) ?rw11
      case hw11 => (intro w0 hSw; (try dsimp only at hSw); go_simp; try (with_reducible rfl))
      simp only [Act.put, List.setIfInBounds_toArray, List.set_cons_zero, List.set_cons_succ]
      refine wpAnyH_take (i := 12) (oi := { dst := some 123, op := Op.load 9 (Operand.tmp 122), type := 9, pos := "plain.go:146", after := #[{ on := 11, ground := Ground.data }], guard := none }) (v := ?vw12) rfl (by kernel_rfl) (by kernel_rfl) (by kernel_rfl) (fun _ _ _ h => h) (Or.inl ⟨by rfl, ?hw12⟩) (by assumption) ?rw12
      case hw12 => (intro w0 hSw; (try dsimp only at hSw); go_simp; try (with_reducible rfl))
      simp only [Act.put, List.setIfInBounds_toArray, List.set_cons_zero, List.set_cons_succ]
      refine wpAnyH_take (i := 13) (oi := { dst := some 124, op := Op.build 53 #[(0, Operand.tmp 113), (1, Operand.const (Value.int IntKind.i64 1)), (2, Operand.tmp 118), (3, Operand.tmp 123)], type := 53, pos := "plain.go:146", after := #[{ on := 2, ground := Ground.data }, { on := 7, ground := Ground.data }, { on := 12, ground := Ground.data }], guard := none }) (v := ?vw13) rfl (by kernel_rfl) (by kernel_rfl) (by kernel_rfl) (fun _ _ _ h => h) (Or.inl ⟨by rfl, ?hw13⟩) (by assumption) ?rw13
      case hw13 => (intro w0 hSw; (try dsimp only at hSw); go_simp; try (with_reducible rfl))
      simp only [Act.put, List.setIfInBounds_toArray, List.set_cons_zero, List.set_cons_succ]
      refine wpAnyH_ready (rs := [14]) (by kernel_rfl) (by simp) ?_
      refine AllReadyH.cons rfl (fun K0 hK0 => ?_) AllReadyH.nil
      go_simp
      refine hK0.out _ _ ?_ (fun hHeld => ?_)
      · first | exact ⟨cell_lat ((Below.refl _ w2.drew).alloc (Nat.le_refl _) _) y0, cell_lat ((Below.refl _ w2.drew).alloc (Nat.le_refl _) _) y1⟩ | exact ⟨cell_lat (((Below.refl _ w2).alloc (Nat.le_refl _) _).drew) y0, cell_lat (((Below.refl _ w2).alloc (Nat.le_refl _) _).drew) y1⟩
      clear hK0 K0
      refine wpAnyH_ready (rs := [15]) (by kernel_rfl) (by simp) ?_
      refine AllReadyH.cons rfl (fun K0 hK0 => ?_) AllReadyH.nil
      rw [if_pos (by rfl)]
      refine oper_append_eq _ _ _ _ rfl _ _ _ _ rfl rfl hap2 ?_
      go_simp
      refine hK0.out _ _ ?_ (fun hHeld => ?_)
      · exact ⟨y2, y3⟩
      clear hK0 K0
      refine wpAnyH_take (i := 16) (oi := { dst := some 21, op := Op.assign (Operand.tmp 126), type := 45, pos := "plain.go:146", after := #[{ on := 15, ground := Ground.data }, { on := 15, ground := Ground.chain }, { on := 0, ground := Ground.phase }, { on := 1, ground := Ground.phase }, { on := 2, ground := Ground.phase }, { on := 3, ground := Ground.phase }, { on := 4, ground := Ground.phase }, { on := 5, ground := Ground.phase }, { on := 6, ground := Ground.phase }, { on := 7, ground := Ground.phase }, { on := 8, ground := Ground.phase }, { on := 9, ground := Ground.phase }, { on := 10, ground := Ground.phase }, { on := 11, ground := Ground.phase }, { on := 12, ground := Ground.phase }, { on := 13, ground := Ground.phase }, { on := 14, ground := Ground.phase }, { on := 15, ground := Ground.phase }], guard := none }) (v := ?vw16) rfl (by kernel_rfl) (by kernel_rfl) (by kernel_rfl) (fun _ _ _ h => h) (Or.inl ⟨by rfl, ?hw16⟩) (by assumption) ?rw16
      case hw16 => (intro w0 hSw; (try dsimp only at hSw); go_simp; try (with_reducible rfl))
      simp only [Act.put, List.setIfInBounds_toArray, List.set_cons_zero, List.set_cons_succ]
      refine wpAnyH_done (by kernel_rfl) ?_ _
      all_goals
        go_wp2_with fail
        exact ⟨HN.out, by have h9 := HHI.out; simp only [intOf]; omega⟩
    · obtain rfl : t = ns := by omega
      obtain ⟨z, hz⟩ : ∃ z : Int, z = (t : Int) - 1 - (t : Int) := ⟨_, rfl⟩
      have z1 : ¬ (0 : Int) ≤ z := by omega
      rw [← hz]
      have hBl : Bk.length = t := by rw [HG.out.1, List.length_reverse, ← HS.out]
      have hpr := HI.out.pr
      have hur := HI.out.ur
      rw [List.take_of_length_le (by omega)] at hpr hur
      obtain ⟨a4, c4, e4, l4⟩ := hpr.lat
      obtain ⟨a5, c5, e5, l5⟩ := hur.lat
      obtain ⟨rfl, -⟩ : ab = a4 ∧ cb = c4 := by simp only [Value.slice.injEq] at e4; exact ⟨e4.1, e4.2.2⟩
      obtain ⟨rfl, -⟩ : au = a5 ∧ cu = c5 := by simp only [Value.slice.injEq] at e5; exact ⟨e5.1, e5.2.2⟩
      have bW : Below W.heap.size W wr := HG.out.2.2.1.trans (HI.out.st.mono HG.out.2.2.1.size)
      have HA : Hid (AA w wr wd n m mbm M Bk nn at' ab au) := ⟨HK.out.1, HK.out.2, HM.out.1.below bW, HG.out.2.1.below HI.out.st, l4, l5, HG.out.1, HM.out.2.1.lat bW, HM.out.2.2.trans (bW.mono HM.out.2.2.size), HN.out.1, HN.out.2, fun g off e => Nat.lt_of_lt_of_le (HG.out.2.2.2 g off e) HI.out.st.size, fun g off e => row_lt hur (by rw [e]; rfl)⟩
      clear hz hBl hpr hur e4 e5 l4 l5 bW HI ht hlt
      go_wp2_with fail
      exact HC9.out _ _ (way_A HA HS HQ)
end Go.Proofs.YtekgppmhcbmpeaaDoor
set_option linter.unusedVariables false
set_option linter.unusedSimpArgs false
namespace Go.Proofs.YtekgppmhcbmpeaaDoor
open Go.RowKit Go.ChangeShapes Go.WideShapes Go.Deep
/-- A list of numbers, as a slice that may lie anywhere. -/
def IAt (W : World) (la : Option Addr) (l : List Int) : Prop := ∀ j q, l[j]? = some q → ∃ g off, la = some ⟨g, off, none⟩ ∧ W.cell? ⟨g, off + j, none⟩ = some (.int .i64 q)
theorem IAt.below {w w' : World} {la : Option Addr} {l : List Int} (h : IAt w la l) (b : Below w.heap.size w w') : IAt w' la l := fun j q hq => by
  obtain ⟨g, off, e, hc⟩ := h j q hq
  exact ⟨g, off, e, cell_lat b hc⟩
theorem open_ints2 {H : Type} {enc : TypeId × Value → H} {W : World} {base : Nat} {spare : Nat → Bool} {held : Bool} {fuel : Nat} {a0 : Option Addr} {len cap : Nat} {d : DataW H} {ps : List MemPlace}
    (h : DataW.trod enc Tryd.prog W base spare held fuel 38 [.slice a0 len cap] = some (d, ps)) (hsz : ∀ n ∈ d.weights Tryd.prog 38, n ≤ reachBytes) :
    ∃ l : List Int, l.length = len ∧ (IAt W a0 l ∧ ∀ x ∈ l, I64 x) ∧ l.length < 4611686018427387904 := by
  rcases open_ints Tryd.underlying38 Tryd.underlying3 cells3 h with ⟨hcs, hx⟩ | ⟨a, len', cap', zs, hcs, _, hl, hm, hz, hx, hcell, hwz⟩
  · simp at hcs
    obtain ⟨rfl, rfl, rfl⟩ := hcs
    exact ⟨[], rfl, ⟨fun j q hq => by simp at hq, fun x hx => by simp at hx⟩, by simp⟩
  · simp at hcs
    obtain ⟨rfl, rfl, rfl⟩ := hcs
    have hlz : len ≤ zs.length := by rw [hz]; split <;> omega
    simp only [Prod.mk.injEq] at hx
    have hb : Tryd.prog.bytesOf 3 = 8 := by kernel_rfl
    have hlen : len < 4611686018427387904 := by
      have hw := hsz (((lits .i64 (zs.take len) : List (DataW H)).length + (lits .i64 (zs.drop len) : List (DataW H)).length) * Tryd.prog.bytesOf 3) (by
        rw [hx.1]
        unfold DataW.weights
        rw [Tryd.underlying38]
        exact List.mem_cons_self)
      rw [hb] at hw
      have h1 : (lits .i64 (zs.take len) : List (DataW H)).length = len := by simp [lits]; omega
      rw [h1] at hw
      have : reachBytes = 140737488351232 := by decide
      omega
    refine ⟨zs.take len, by simp; omega, ⟨fun j q hq => ?_, fun x hx => i64_wf (hwz x (List.mem_of_mem_take hx))⟩, by simp; omega⟩
    obtain ⟨hj, hjq⟩ := List.getElem?_eq_some_iff.1 hq
    have hj' : j < zs.length := by rw [List.length_take] at hj; omega
    obtain ⟨b, off, spot⟩ := a
    have hspot : spot = none := by simpa [Addr.add] using World.cell?_spot (hcell 0 (by omega))
    subst hspot
    refine ⟨b, off, rfl, ?_⟩
    have := hcell j hj'
    rw [add_plain, List.getD_eq_getElem?_getD, List.getElem?_eq_getElem hj'] at this
    rw [List.getElem_take] at hjq
    rw [← hjq]
    simpa using this
end Go.Proofs.YtekgppmhcbmpeaaDoor
set_option linter.unusedVariables false
set_option linter.unusedSimpArgs false
namespace Go.Proofs.YtekgppmhcbmpeaaDoor
open Go.RowKit Go.Proofs.BitMath
/-- While pairs are taken away. -/
structure GI (w w5 wr : World) (wd : Int) (n m mb : Nat) (C : List Pr) (nc : Int) (i : Nat) : Prop where
  k : Kept wd n C
  len : C.length ≤ 80
  mp : MP wr m mb wd C nc
  st : Stay (fun j => j = m ∨ j = mb) w5 wr
  num : 0 ≤ nc ∧ nc ≤ 80 + (i : Int)
theorem GI.step {w w5 wr w' : World} {wd : Int} {n m mb : Nat} {C : List Pr} {nc : Int} {i : Nat} {z : Int} (h : GI w w5 wr wd n m mb C nc i) (h2 : MP w' m mb wd (delX C z) (delN C z nc)) (s : Stay (fun j => j = m ∨ j = mb) wr w') : GI w w5 w' wd n m mb (delX C z) (delN C z nc) (i + 1) := by
  have hsub : ∀ x ∈ delX C z, x ∈ C := fun x hx => by
    unfold delX at hx
    split at hx
    · exact (delP_mem.1 hx).1
    · exact hx
  have hl : (delX C z).length ≤ C.length := by
    unfold delX
    split
    · exact List.length_filter_le _ _
    · exact Nat.le_refl _
  refine ⟨⟨fun x hx => h.k.fit x (hsub x hx), h2.pm.nd, h.k.wd', h.k.n8⟩, by have := h.len; omega, h2, h.st.trans s, ?_⟩
  have := h.num
  unfold delN
  split <;> (constructor <;> omega)
def RG (w w5 : World) (wd : Int) (n m mb ng : Nat) (iv : Value) (wr : World) : Prop := ∃ (i : Nat) (C : List Pr) (nc : Int), iv = .int .i64 i ∧ i ≤ ng ∧ i ≤ 80 ∧ Hid (GI w w5 wr wd n m mb C nc i)
set_option maxHeartbeats 8000000 in
set_option maxRecDepth 100000 in
theorem law_any (x k : Int) (hk : I64 k) (ps : List Pr) (hps : ∀ y ∈ ps, I64 y.i ∧ y.c.size ≤ 140737488351232) (q : ByteArray) (hq : q.size ≤ 140737488351232) (la : Option Addr) (ca : Nat) (gs : List Int) (lg : Option Addr) (cg : Nat) (w : World) (ha : PLAt w la ps) (hl : ps.length < 4611686018427387904) (hg : IAt w lg gs ∧ ∀ x ∈ gs, I64 x) (hgl : gs.length < 4611686018427387904) (ht : Tab w) :
    Calls Tryd.prog 6 #[.int .i64 x, .slice la ps.length ca, .slice lg gs.length cg, .string q, .int .i64 k] w fun e w' => e = .returned (.bool true) ∧ Below w.heap.size w w' := by
  have hbg := begun_any w ht
  have hwd := fun W => width_any x W
  obtain ⟨wd, hwe⟩ : ∃ wd, wd = wOf x := ⟨_, rfl⟩
  have hW : isW wd = true := by rw [hwe]; exact wOf_isW x
  have hb := isW_bd hW
  rw [← hwe] at hwd
  clear hwe
  obtain ⟨n, hn⟩ : ∃ n : Nat, wd / 8 = n := ⟨(wd / 8).toNat, by omega⟩
  have hn1 : n ≤ 1024 := by omega
  have hf1 := fun W => fit_any q n wd W hq hn1 hn (by omega)
  have sq := fitC_size q n
  obtain ⟨q', hq'⟩ : ∃ q', q' = fitC q n := ⟨_, rfl⟩
  rw [← hq'] at sq hf1
  have hfl := fun W (h : PLAt W la ps) => filled_any wd n hW hn ps hps la ca W h hl
  obtain ⟨len, hlen⟩ : ∃ len, len = ps.length := ⟨_, rfl⟩
  obtain ⟨ng, hng⟩ : ∃ ng, ng = gs.length := ⟨_, rfl⟩
  rw [← hlen] at hfl ⊢
  rw [← hng] at hgl ⊢
  obtain ⟨L, hL⟩ : ∃ L, L = flL n ps := ⟨_, rfl⟩
  rw [← hL] at hfl
  have HQ : Hid ((q'.size : Int) = wd / 8) := by show _ = _; rw [sq, hn]
  have HA := Hid.mk (And.intro ha (And.intro hg (And.intro hn (And.intro ht (And.intro hng hgl)))))
  clear ha ht hq' hL hlen hps hl hq hW hb hn hn1 sq hg hng hgl
  go_enter Tryd.func6, Tryd.ntmps6
  go_wp2_with fail
  refine hbg.mono ?_
  clear hbg
  rintro e w1 ⟨rfl, b1⟩
  go_wp2_with fail
  refine (hwd _).mono ?_
  clear hwd
  rintro e w2 ⟨rfl, h2⟩
  subst h2
  go_wp2_with fail
  refine (hf1 _).mono ?_
  clear hf1
  rintro e w3 ⟨rfl, b3⟩
  have b14 : Below w.heap.size w w3 := b1.trans (b3.mono b1.size)
  have hfl4 := hfl w3 (HA.out.1.below b14)
  clear hfl
  go_wp2_with fail
  refine hfl4.mono ?_
  clear hfl4
  rintro e w5 ⟨m, mb, a0, c0, rfl, F5⟩
  have H0 : Hid (GI w w5 w5 wd n m mb L L.length 0) := ⟨F5.kept HA.out.2.2.1, F5.len, F5.mp, .refl _ _, by have := F5.len; simp; omega⟩
  have HB : Hid (Below w.heap.size w w5 ∧ w.heap.size ≤ m ∧ w.heap.size ≤ mb) := ⟨b14.trans (F5.st.mono b14.size), by have := F5.pf; have := b14.size; omega, by have := F5.mf; have := b14.size; omega⟩
  have HBW : Hid (∀ wr, Stay (fun j => j = m ∨ j = mb) w5 wr → Below w.heap.size w wr) := fun wr s => HB.out.1.trans (s.toBelow (fun k hk e => by have := HB.out.2; omega) HB.out.1.size)
  obtain ⟨nl0, hnl0⟩ : ∃ nl0, nl0 = L.length := ⟨_, rfl⟩
  rw [← hnl0]
  clear F5 b1 b3 b14 hnl0
  go_wp2_with fail
  rename_i K9 a9
  have HC9 := Hid.mk a9
  clear a9
  go_loopw [15] (fun iv wr => RG w w5 wd n m mb ng iv wr) (fun u _ => ng - (intOf u).toNat)
  case atStart => exact ⟨0, L, L.length, rfl, Nat.zero_le _, by omega, H0⟩
  case round =>
    clear H0
    obtain ⟨i, C, nc, rfl, hi, hi80, HI⟩ := hrel
    by_cases hgo : i < ng ∧ i < 80
    · obtain ⟨h1, h2⟩ := hgo
      have i1 : (i : Int) < (ng : Int) := by omega
      have i2 : (0 : Int) ≤ (i : Int) := by omega
      have i3 : (i : Int) < 80 := by omega
      have hig : i < gs.length := by have := HA.out.2.2.2.2.1; omega
      have bwr := HBW.out wr HI.out.st
      obtain ⟨g, o, e1, x0⟩ := HA.out.2.1.1 i gs[i] (List.getElem?_eq_getElem hig)
      have hz64 := HA.out.2.1.2 gs[i] (List.getElem_mem hig)
      obtain ⟨z, hz⟩ : ∃ z, z = gs[i] := ⟨_, rfl⟩
      rw [← hz] at x0 hz64
      replace x0 := cell_lat bwr x0
      subst e1
      have hget := get_any m mb wd nc z C wr HI.out.mp hz64
      have HDL := Hid.mk (fun V (b : Below wr.heap.size wr V) => delete_any m mb wd nc z C V (HI.out.mp.below b) hz64 (by have := HI.out.num; omega))
      have HN : Hid (∀ V V', Below wr.heap.size wr V → MP V' m mb wd (delX C z) (delN C z nc) → Stay (fun j => j = m ∨ j = mb) V V' → RG w w5 wd n m mb ng (.int .i64 ((i + 1 : Nat) : Int)) V') := fun V V' b h s => ⟨i + 1, _, _, rfl, h1, by omega, HI.out.step h ((Stay.below b).trans s)⟩
      obtain ⟨sg, E, hE⟩ : ∃ sg E, getE C z = (sg, E) := ⟨_, _, rfl⟩
      rw [hE] at hget HDL
      have hwi : IntKind.i64.wrap ((i : Int) + 1) = ((i + 1 : Nat) : Int) := by rw [IntKind.wrap_i64]; omega
      have hgl : g < wr.heap.size := World.block_lt_of_cell? wr _ x0
      clear hz hE bwr HI hig hi hi80
      go_wp2_with fail
      refine hget.mono ?_
      clear hget
      rintro e w6 ⟨rfl, b6⟩
      have hdl := HDL.out w6 b6
      have x6 := cell_lat b6 x0
      go_wp2_with fail
      refine hdl.mono ?_
      clear hdl
      rintro e w7 ⟨rfl, m7, s7⟩
      have HX : Hid (RG w w5 wd n m mb ng (.int .i64 ((i + 1 : Nat) : Int)) w7) := HN.out _ _ b6 m7 s7
      clear m7 s7 b6 HN HDL
      go_wp2_with fail
      exact ⟨HX.out, by simp only [intOf]; omega⟩
    · have bwr := HBW.out wr HI.out.st
      have HK1 : Hid (Kept wd n C ∧ C.length ≤ 80) := ⟨HI.out.k, HI.out.len⟩
      have HM1 : Hid (MP wr m mb wd C nc ∧ Tab wr ∧ Below w.heap.size w wr) := ⟨HI.out.mp, HA.out.2.2.2.1.lat bwr, bwr⟩
      have HN1 : Hid ((w.heap.size ≤ m ∧ w.heap.size ≤ mb) ∧ 0 ≤ nc ∧ nc ≤ 1000) := ⟨HB.out.2, by have := HI.out.num; omega⟩
      clear bwr HI
      by_cases h1 : i < ng
      · have i1 : (i : Int) < (ng : Int) := by omega
        have i3 : ¬ (i : Int) < 80 := by omega
        clear hgo
        go_wp2_with fail
        exact HC9.out _ _ (way_1 HK1 HM1 HN1 HQ)
      · have i1 : ¬ (i : Int) < (ng : Int) := by omega
        clear hgo
        go_wp2_with fail
        exact HC9.out _ _ (way_1 HK1 HM1 HN1 HQ)
end Go.Proofs.YtekgppmhcbmpeaaDoor
set_option linter.unusedVariables false
set_option linter.unusedSimpArgs false
namespace Go.Proofs.YtekgppmhcbmpeaaDoor
open Go.ChangeMaps (open_string shut_string)
open Go.ChangeShapes Go.WideShapes Go.ChangeAt Go.WideMaps Go.WideElems Go.RowKit
section
variable {H : Type} {enc : TypeId × Value → H} {P : Program} {w : World} {base : Nat} {spare : Nat → Bool} {held : Bool}
theorem trodAll_five {t t' t'' t3 t4 : TypeId} {args : Array Value} {ds : List (DataW H)} {ps : List MemPlace} (h : DataW.TrodAll enc P w base spare held [t, t', t'', t3, t4] args.toList ds ps) :
    ∃ v v' v'' v3 v4 d d' d'' d3 d4 p p' p'' p3 p4, args = #[v, v', v'', v3, v4] ∧ ds = [d, d', d'', d3, d4] ∧ ps = p ++ p' ++ p'' ++ p3 ++ p4 ∧ DataW.Trod enc P w base spare held t v d p ∧ DataW.Trod enc P w base spare held t' v' d' p' ∧ DataW.Trod enc P w base spare held t'' v'' d'' p'' ∧ DataW.Trod enc P w base spare held t3 v3 d3 p3 ∧ DataW.Trod enc P w base spare held t4 v4 d4 p4 := by
  obtain ⟨v, vs, d, ds', p, q, hargs, rfl, rfl, hd, hrest⟩ := trodAll_cons h
  obtain ⟨v', vs', d', ds'', p', q', rfl, rfl, rfl, hd', hrest'⟩ := trodAll_cons hrest
  obtain ⟨v'', vs'', d'', dsQ, p'', q'', rfl, rfl, rfl, hd'', hrest''⟩ := trodAll_cons hrest'
  obtain ⟨v3, vs3, d3, ds3, p3, q3, rfl, rfl, rfl, hd3, hrest3⟩ := trodAll_cons hrest''
  obtain ⟨v4, vs4, d4, ds4, p4, q4, rfl, rfl, rfl, hd4, hrest4⟩ := trodAll_cons hrest3
  obtain ⟨rfl, rfl, rfl⟩ := trodAll_nil hrest4
  exact ⟨v, v', v'', v3, v4, d, d', d'', d3, d4, p, p', p'', p3, p4, by cases args; simp_all, rfl, by simp, hd, hd', hd'', hd3, hd4⟩
theorem trodAll_mk5 {t t' t'' t3 t4 : TypeId} {v v' v'' v3 v4 : Value} {d d' d'' d3 d4 : DataW H} {p p' p'' p3 p4 : List MemPlace} (h : DataW.Trod enc P w base spare held t v d p) (h' : DataW.Trod enc P w base spare held t' v' d' p')
    (h'' : DataW.Trod enc P w base spare held t'' v'' d'' p'') (h3 : DataW.Trod enc P w base spare held t3 v3 d3 p3) (h4 : DataW.Trod enc P w base spare held t4 v4 d4 p4) : DataW.TrodAll enc P w base spare held [t, t', t'', t3, t4] [v, v', v'', v3, v4] [d, d', d'', d3, d4] (p ++ (p' ++ (p'' ++ (p3 ++ p4)))) := ⟨p, p' ++ (p'' ++ (p3 ++ p4)), h, trodAll_mk4 h' h'' h3 h4, rfl⟩
end
set_option maxRecDepth 100000 in
theorem anyway_lifted (os : Os) (started : os.Started) (H : Type) (enc : TypeId × Value → H) :
    ReturnsInHanded {} Tryd.checked os 6 .any (fun w args => (Rows.plainAnyWaySpec.pre enc Tryd.prog Tryd.f6 [] false w args ∧ laidMetH Tryd.prog lst w) ∧ sizedMet enc Tryd.prog Tryd.f6 (OpenSpec.ofChange Rows.plainAnyWaySpec) false w args)
      (Rows.plainAnyWaySpec.post enc Tryd.prog Tryd.f6 false true false false) := by
  refine returnsInHanded_of_change_and (C := Tryd.checked) (X := fun w _ => laidMetH Tryd.prog lst w) (fun _ _ _ hh h => h.of_heap hh) own started (by kernel_rfl) Tryd.func6
    (ChangeSpec.witness_shaped (enc := enc) (C := Tryd.checked) (os := os) (X := fun w _ => laidMetH Tryd.prog lst w) false (World.doorLaid Tryd.prog 400 os) #[.int .i64 0, .slice none 0 0, .slice none 0 0, .string ⟨#[]⟩, .int .i64 0] 8 rfl (World.shaped_of_RefB (by kernel_rfl) (by kernel_rfl)) (by kernel_rfl) (by kernel_rfl) (by kernel_rfl) (door_met os _)) ?_
  intro W base args ds gs before hval0 hW _ hsz0 hL _
  have hsz : (DataW.weightsEach Tryd.prog (Tryd.f6.params.toList ++ Rows.plainAnyWaySpec.plain.varTypes Tryd.prog) (ds ++ gs)).all (· ≤ reachBytes) = true := hsz0
  clear hsz0
  have hval : ∀ (j : Nat) t v, Tryd.f6.params[j]? = some t → args[j]? = some v → Value.okWide Tryd.prog W .any base t v := hval0
  have hW' := hW
  obtain ⟨p, q, hA0, hV, rfl, hfz, hnd⟩ := hW
  have hA : DataW.TrodAll enc Tryd.prog W 0 (fun _ => true) true Tryd.f6.params.toList args.toList ds p := hA0
  rw [Tryd.params6] at hA hval hsz
  obtain ⟨v0, v1, v2, v3, v4, d0, d1, d2, d3, d4, p0, p1, p2, p3, p4, rfl, rfl, rfl, h0, h1, h2, h3, h4⟩ := trodAll_five hA
  obtain ⟨rfl, rfl⟩ := trodVars_none hV
  obtain ⟨x, rfl, rfl, rfl, wx⟩ := open_int Tryd.underlying3 (hval 0 3 v0 rfl rfl) h0
  obtain ⟨a1, len1, cap1, rfl⟩ := okWide_slice Tryd.underlying22 (hval 1 22 v1 rfl rfl)
  have h1k := h1
  obtain ⟨fuel1, hf1⟩ := h1
  have hs1 : ∀ n ∈ d1.weights Tryd.prog 22, n ≤ reachBytes := fun n hn => by simpa using List.all_eq_true.1 hsz n (DataW.weights_mem_each (j := 1) (t := 22) rfl rfl n hn)
  obtain ⟨l, hl1, hL1, hB1, hC1⟩ := open_prs (by simpa [Value.cells] using hf1) hs1
  subst hl1
  obtain ⟨a2, len2, cap2, rfl⟩ := okWide_slice Tryd.underlying38 (hval 2 38 v2 rfl rfl)
  have h2k := h2
  obtain ⟨fuel2, hf2⟩ := h2
  have hs2 : ∀ n ∈ d2.weights Tryd.prog 38, n ≤ reachBytes := fun n hn => by simpa using List.all_eq_true.1 hsz n (DataW.weights_mem_each (j := 2) (t := 38) rfl rfl n hn)
  obtain ⟨g, hl2, hL2, hB2⟩ := open_ints2 (by simpa [Value.cells] using hf2) hs2
  subst hl2
  obtain ⟨q, rfl, rfl, rfl, hq⟩ := open_string Tryd.underlying9 (hval 3 9 v3 rfl rfl) h3
  have sq : q.size ≤ 140737488351232 := by
    have := sized_string hsz (j := 3) (t := 9) rfl rfl
    simpa [reachBytes] using this
  obtain ⟨k, rfl, rfl, rfl, wk⟩ := open_int Tryd.underlying3 (hval 4 3 v4 rfl rfl) h4
  clear hA0 hval0
  simp only [List.append_nil, List.nil_append] at hW'
  have hlt1 : ∀ x ∈ p1, x.block < W.heap.size := fun x hx => hW'.lt x (by simp [hx])
  have hlt2 : ∀ x ∈ p2, x.block < W.heap.size := fun x hx => hW'.lt x (by simp [hx])
  have ht := tab_of hL
  have hg0 := tab_pos ht
  have e1 : Rows.plainAnyWaySpec.fn H ([.lit (.int .i64 x), d1, d2, .lit (.string q.data.toList), .lit (.int .i64 k)] ++ []) = { results := [.lit (.bool true)], args := [.lit (.int .i64 x), d1, d2, .lit (.string q.data.toList), .lit (.int .i64 k)] } := by simp [Rows.plainAnyWaySpec]
  have fin : ∀ (e : Ending) (W' : World), (e = .returned (.bool true) ∧ Below W.heap.size W W') → ∃ v, e = .returned v ∧ Rows.plainAnyWaySpec.post enc Tryd.prog Tryd.f6 false true false false W #[.int .i64 x, .slice a1 l.length cap1, .slice a2 g.length cap2, .string q, .int .i64 k] v W' := by
    rintro e W' ⟨rfl, hbl⟩
    refine ⟨_, rfl, _, _, _, [], (p1 ++ p2), [], hW', ?_, ?_, ?_, hbl.frame _, fun h => by cases h⟩
    · rw [e1]; exact trodAll_mk1 (shut_bool Tryd.underlying4 true)
    · rw [e1]; have h5 := trodAll_mk5 (shut_int Tryd.underlying3 wx) (Below.trod laidOut (by kernel_rfl) (of_decide_eq_true (by kernel_rfl)) h1k hbl hlt1) (Below.trod laidOut (by kernel_rfl) (of_decide_eq_true (by kernel_rfl)) h2k hbl hlt2) (shut_string Tryd.underlying9 hq) (shut_int Tryd.underlying3 wk); (try simp only [List.append_nil, List.nil_append] at h5); exact h5
    · rw [e1]; rfl
  exact (law_any x k (i64_wf wk) l hC1 q sq a1 cap1 g a2 cap2 W hL1 (by omega) hL2 hB2 ht).mono fin

theorem anyway_row : Rows.PlainAnyWaySaid :=
  OpenClaim.holds_of_wide 6 Tryd.f6 rfl rfl rfl rfl rfl rfl rfl ⟨rfl, rfl, rfl, rfl, rfl⟩ rfl rfl rfl rfl rfl (by kernel_rfl) Tryd.func6 (by kernel_rfl)
    (of_decide_eq_true (by kernel_rfl)) (by unfold Func.isWrapper; rw [if_neg (of_decide_eq_false (by kernel_rfl))]; exact ⟨rfl, rfl⟩)
    (fun os started H enc _ => anyway_lifted os started H enc)
theorem anyway_holds : Rows.PlainAnyWayCardSaid :=
  Claim7.holds_tied_plain_at .later [] [.data] true (true, "09362b874d13d0deb34333306d8eda262aea41fd4d2e30cd755fa82719eade26") true
    anyway_row (fun _ h => by cases h) (by kernel_rfl) (fun _ h => by cases h) plainAnyWay_row_tie rfl ⟨rfl, rfl⟩ (by kernel_rfl) rfl
    (fun f fn hf hfn => by
      obtain rfl : f = 6 := Option.some.inj ((show Tryd.prog.funcNamed "kindred/kindredlaw13.PlainAnyWay" = some 6 by kernel_rfl).symm.trans hf) |>.symm
      obtain rfl : fn = Tryd.f6 := (Option.some.inj (Tryd.func6.symm.trans hfn)).symm
      exact ⟨by kernel_rfl, fun j t ht => by
        rw [Tryd.params6] at ht
        have hm : t ∈ [3, 22, 38, 9, 3] := by simpa using Array.mem_of_getElem? ht
        have hall : ([3, 22, 38, 9, 3].all fun u => !Tryd.prog.wantsStandIn u) = true := by kernel_rfl
        exact (show Tryd.prog.wantsStandIn t = false by simpa using List.all_eq_true.1 hall t hm)⟩)
    (by kernel_rfl)
#print axioms anyway_holds
end Go.Proofs.YtekgppmhcbmpeaaDoor
