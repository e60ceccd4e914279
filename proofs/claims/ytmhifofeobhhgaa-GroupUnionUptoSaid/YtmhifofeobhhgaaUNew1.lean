/-
  DERIVED. The document's New.
-/
import Derived.Test.YtmhifofeobhhgaaUNew0
import Derived.BigQuiet
set_option linter.unusedVariables false
set_option linter.unusedSimpArgs false
namespace Go.Proofs.Ytmhifofeobhhgaa
open Go.RowKit Go.Proofs.UnionMath
/-- What the document's New comes to. -/
def RnO (w : World) (l : List Int) (e : Ending) (w' : World) : Prop := Below w.heap.size w w' ∧
  ((∃ T p iv lv, nwE [] l = (0, T) ∧ e = .returned (.tuple #[Pt p, .int .i64 0]) ∧ RU w' p iv lv T (fun k => k) ∧ w.heap.size ≤ p ∧ (∀ k, iv.ownBlock = some k → w.heap.size ≤ k) ∧ ∀ k, lv.ownBlock = some k → w.heap.size ≤ k) ∨
   ∃ c, nwE [] l = (c, []) ∧ c ≠ 0 ∧ e = .returned (.tuple #[.pointer none, .int .i64 c]))
/-- What stands while ids are put in. -/
structure NI (w wr : World) (l : List Int) (i : Nat) (S : List Int) (iv : Value) : Prop where
  box : wr.heap[w.heap.size]? = some (.cells #[iv, .slice none 0 0] 50 (0, 0))
  row : iE.Row wr iv S
  up : S.Pairwise (· < ·)
  bd : ∀ z ∈ S, 0 ≤ z ∧ z ≤ 281474976710656
  len : S.length = i
  eq : nwE [] l = nwE S (l.drop i)
  bl : Below w.heap.size w wr
  own : ∀ k, iv.ownBlock = some k → w.heap.size < k
theorem NI.cell {w wr : World} {l : List Int} {i : Nat} {S : List Int} {iv : Value} (h : NI w wr l i S iv) : wr.cell? ⟨w.heap.size, 0, none⟩ = some iv := by
  have hb := h.box
  simp [World.cell?, hb]
theorem NI.below {w wr wy : World} {l : List Int} {i : Nat} {S : List Int} {iv : Value} (h : NI w wr l i S iv) (b : Below wr.heap.size wr wy) : NI w wy l i S iv :=
  ⟨(b.block _ (Array.getElem?_eq_some_iff.1 h.box).1).trans h.box, El.Row.below h.row b, h.up, h.bd, h.len, h.eq, chain h.bl b (Nat.le_refl _), h.own⟩
/-- The first two appends. -/
theorem NI.two {w wy : World} {l : List Int} {i : Nat} {S : List Int} {a : Option Addr} {c : Nat} (h : NI w wy l i S (.slice a i c)) (k : Nat) (hk : k ≤ i) (hi : i ≤ 1048576) (x : Int) :
    ∃ v1 w1 v2 w2, (Builtin.append_ #[22, 22] 22 #[.slice none 0 0, .slice a k c]).run Try.prog wy = .ok v1 w1 ∧ (Builtin.append_ #[22, 22] 22 #[v1, .slice (some ⟨w1.heap.size, 0, none⟩) 1 1]).run Try.prog (w1.alloc (.cells #[.int .i64 x] 3)) = .ok v2 w2 ∧
      Below wy.heap.size wy w1 ∧ Below wy.heap.size wy w2 ∧ iE.Row w2 v2 (S.take k ++ [x]) ∧ ∀ b, v2.ownBlock = some b → wy.heap.size ≤ b := by
  obtain ⟨a', c', e, hAt⟩ := El.Row.lat h.row
  injection e with e1 e2 e3
  subst e1
  have hS := h.len
  have hkl : (S.take k).length = k := by rw [List.length_take]; omega
  have hap := El.appL iOk wy [] (S.take k) (.slice none 0 0) (El.Row.nil iE wy) a c (i_take hAt k) (by rw [hkl]; simp [iE]; omega) (by rw [hkl]; simp; omega)
  rw [hkl] at hap
  obtain ⟨v1, w1, hap1, r1, s1, o1⟩ := hap
  rw [List.nil_append] at r1
  obtain ⟨v2, w2, hap2, r2, s2, o2⟩ := El.app1 iOk w1 (S.take k) v1 r1 x (by rw [hkl]; simp [iE]; omega) (by omega)
  have b1 : Below wy.heap.size wy w1 := s1.toBelow (fun _ _ h => by cases h) (Nat.le_refl _)
  have hv1 : ∀ b, v1.ownBlock = some b → wy.heap.size ≤ b := fun b hb => by
    rcases o1 b hb with q | q
    · cases q
    · exact q
  refine ⟨v1, w1, v2, w2, hap1, hap2, b1, b1.trans (s2.toBelow (fun b hb q => by have := hv1 b q; omega) b1.size), r2, fun b hb => ?_⟩
  rcases o2 b hb with q | q
  · exact hv1 b q
  · exact Nat.le_trans b1.size q
/-- The third, and what stands when it is kept. -/
theorem NI.three {w wy w2 : World} {l : List Int} {i : Nat} {S : List Int} {iv v2 : Value} {x : Int} {k : Nat} (h : NI w wy l i S iv) (b : Below wy.heap.size wy w2) (r2 : iE.Row w2 v2 (S.take k ++ [x])) (o2 : ∀ b, v2.ownBlock = some b → wy.heap.size ≤ b) (hk : k ≤ i) (hi : i ≤ 1048575) (a3 : Option Addr) (c3 : Nat) (hA : iE.At wy a3 (S.drop k)) (hpl : plN S x = k) (hx : x ∉ S) (hb : 0 ≤ x ∧ x ≤ 281474976710656) (heq : nwE [] l = nwE (insN S x) (l.drop (i + 1))) :
    ∃ v3 w3, (Builtin.append_ #[22, 22] 22 #[v2, .slice a3 (i - k) c3]).run Try.prog w2 = .ok v3 w3 ∧ NI w (w3.setCell ⟨w.heap.size, 0, none⟩ v3) l (i + 1) (insN S x) v3 ∧ w3.frozen? ⟨w.heap.size, 0, none⟩ = false ∧ w3.cell? ⟨w.heap.size, 0, none⟩ = some iv := by
  have hS := h.len
  have hkl : (S.take k).length = k := by rw [List.length_take]; omega
  have hdl : (S.drop k).length = i - k := by rw [List.length_drop, hS]
  have hap := El.appL iOk w2 (S.take k ++ [x]) (S.drop k) v2 r2 a3 c3 (hA.below b) (by rw [List.length_append, hkl, hdl]; simp [iE]; omega) (by rw [List.length_append, hkl, hdl]; simp; omega)
  rw [hdl] at hap
  obtain ⟨v3, w3, hap3, r3, s3, o3⟩ := hap
  have b3 : Below wy.heap.size wy w3 := b.trans (s3.toBelow (fun b hb q => by have := o2 b q; omega) b.size)
  have hbx := h.box
  have hlt := (Array.getElem?_eq_some_iff.1 hbx).1
  have hbx3 := (b3.block _ hlt).trans hbx
  have hv3 : ∀ b, v3.ownBlock = some b → wy.heap.size ≤ b := fun b' hb => by
    rcases o3 b' hb with q | q
    · exact o2 b' q
    · exact Nat.le_trans b.size q
  have e3 : S.take k ++ [x] ++ S.drop k = insN S x := by rw [insN, hpl]
  rw [e3] at r3
  refine ⟨v3, w3, hap3, ⟨?_, ?_, insN_up h.up hx, fun z hz => ?_, by rw [insN_len, hS], heq, ?_, fun b hb => ?_⟩, ?_⟩
  · rw [heap_setCell_same w3 w.heap.size 0 _ _ _ hbx3]; rfl
  · exact row_kept r3 (Stay.setCell (F := fun k => k = w.heap.size) (p := ⟨w.heap.size, 0, none⟩) (Stay.refl _ w3) (fun _ => rfl) _) (fun b hb e => by have := hv3 b hb; omega)
  · rcases (insN_mem S x z).1 hz with q | q
    · rw [q]; exact hb
    · exact h.bd z q
  · exact (chain h.bl b3 (Nat.le_refl _)).setCell (Nat.le_refl _) _
  · have := hv3 b hb; omega
  · exact ⟨by simp [World.frozen?, hbx3], by simp [World.cell?, hbx3]⟩
theorem NI.start (w : World) (l : List Int) : NI w (w.alloc (.cells #[.slice none 0 0, .slice none 0 0] 50)) l 0 [] (.slice none 0 0) :=
  ⟨heap_alloc_last w _, El.Row.nil iE _, .nil, (fun z hz => by simp at hz), rfl, by simp, (Below.refl _ w).alloc (Nat.le_refl _) _, fun k hk => by cases hk⟩
theorem setC_at {w : World} {b i : Nat} {cs : Array Value} {t : TypeId} {fr : Nat × Nat} (h : w.heap[b]? = some (.cells cs t fr)) (v : Value) : (w.setCell ⟨b, i, none⟩ v).heap[b]? = some (.cells (cs.setIfInBounds i v) t fr) := by
  have hb := (Array.getElem?_eq_some_iff.1 h).1
  show (w.heap.modify b _)[b]? = _
  rw [Array.getElem?_modify, if_pos rfl, h]
  rfl
/-- All are in. -/
theorem NI.fin {w wr w1 : World} {l : List Int} {i : Nat} {S : List Int} {iv v1 : Value} (h : NI w wr l i S iv) (b : Below wr.heap.size wr w1) (r : iE.Row w1 v1 S) (o : ∀ k, v1.ownBlock = some k → wr.heap.size ≤ k) (hl : l.drop i = []) (hi : i ≤ 1048576) : RnO w l (.returned (.tuple #[Pt w.heap.size, .int .i64 0])) (w1.setCell ⟨w.heap.size, 1, none⟩ v1) := by
  have heq := h.eq
  rw [hl] at heq
  have hlt := (Array.getElem?_eq_some_iff.1 h.box).1
  have hb1 := (b.block _ hlt).trans h.box
  have st : Stay (fun k => k = w.heap.size) w1 (w1.setCell ⟨w.heap.size, 1, none⟩ v1) := Stay.setCell (F := fun k => k = w.heap.size) (p := ⟨w.heap.size, 1, none⟩) (Stay.refl _ w1) (fun _ => rfl) _
  refine ⟨(chain h.bl b (Nat.le_refl _)).setCell (Nat.le_refl _) _, .inl ⟨S, w.heap.size, iv, v1, heq, rfl, ⟨⟨h.up, h.bd, by rw [h.len]; exact hi⟩, ?_, ?_, ?_, ?_, fun i _ => ⟨Nat.le_refl _, rfl⟩⟩, Nat.le_refl _, fun k hk => Nat.le_of_lt (h.own k hk), fun k hk => Nat.le_trans (Nat.le_of_lt hlt) (o k hk)⟩⟩
  · rw [setC_at hb1]; rfl
  · exact row_kept (El.Row.below h.row b) st (fun k hk e => by have := h.own k hk; omega)
  · rw [lL_id]; exact row_kept r st (fun k hk e => by have := o k hk; omega)
  · intro k hk e
    have h1 := o k hk
    have h2 := row_lt h.row e
    omega
set_option maxHeartbeats 8000000 in
set_option maxRecDepth 100000 in
theorem rnew_any (la : Option Addr) (cap : Nat) (l : List Int) (w : World) (hA : iE.At w la l) (hl : l.length ≤ 1048576) :
    Calls Try.prog 5 #[.slice la l.length cap] w (RnO w l) := by
  obtain ⟨n, hn⟩ : ∃ n, l.length = n := ⟨_, rfl⟩
  rw [hn] at hl ⊢
  have HA := Hid.mk (And.intro hA hn)
  have H0 := Hid.mk (NI.start w l)
  obtain ⟨p, hp⟩ : ∃ p, p = w.heap.size := ⟨_, rfl⟩
  have HP := Hid.mk hp
  clear hA hn
  go_enter Try.func5, Try.ntmps5
  go_wp2
  go_loopw [5] (fun u wr => ∃ (i : Nat) (S : List Int) (iv : Value), u = .int .i64 i ∧ i ≤ n ∧ Hid (NI w wr l i S iv)) (fun u _ => n - (intOf u).toNat)
  case atStart => exact ⟨0, _, _, rfl, Nat.zero_le _, H0⟩
  case round =>
    obtain ⟨i, S, iv, rfl, hin, HI⟩ := hrel
    clear H0
    by_cases hlt : i < n
    · have hlt' : (i : Int) < (n : Int) := by omega
      have hil : i < l.length := by rw [HA.out.2]; exact hlt
      obtain ⟨g, off, hla, hr⟩ := HA.out.1.at' (fun e => by rw [e] at hil; simp at hil)
      subst hla
      obtain ⟨x, hx⟩ : ∃ x, x = l[i] := ⟨_, rfl⟩
      have k0 : wr.cell? ⟨g, off + i, none⟩ = some (.int .i64 x) := cell_lat HI.out.bl (hr i _ (by rw [iCells, List.getElem?_map, List.getElem?_eq_getElem hil, hx]; rfl))
      have hd : l.drop i = x :: l.drop (i + 1) := by rw [hx]; exact List.drop_eq_getElem_cons hil
      have wi : IntKind.i64.wrap ((i : Int) + 1) = ((i + 1 : Nat) : Int) := i64_in _ (by omega) (by omega)
      have heq := HI.out.eq
      rw [hd] at heq
      by_cases h1 : x < 0
      · rw [nwE_id (.inl h1)] at heq
        have HQ := Hid.mk (And.intro heq HI.out.bl)
        clear heq hd hx hr hil HI
        go_wp2
        go_ret2
        exact ⟨HQ.out.2, .inr ⟨60, HQ.out.1, by decide, rfl⟩⟩
      · by_cases h2 : 281474976710656 < x
        · rw [nwE_id (.inr h2)] at heq
          have HQ := Hid.mk (And.intro heq HI.out.bl)
          clear heq hd hx hr hil HI
          go_wp2
          go_ret2
          exact ⟨HQ.out.2, .inr ⟨60, HQ.out.1, by decide, rfl⟩⟩
        · have hIds : Ids S := ⟨HI.out.up, HI.out.bd, by rw [HI.out.len]; omega⟩
          have hat := rat_any w.heap.size iv S x wr hIds HI.out.cell HI.out.row
          by_cases h3 : x ∈ S
          · rw [nwE_two (by omega) h3] at heq
            have HQ := Hid.mk (And.intro heq HI.out.bl)
            obtain ⟨j, hj, ej⟩ := List.mem_iff_getElem.1 h3
            rw [← ej, plc_some HI.out.up hj] at hat
            simp only [Option.getD_some] at hat
            have hj0 : (0 : Int) ≤ (j : Int) := by omega
            rw [ej] at hat
            clear heq hd hx hr hil HI h3 ej hj hIds
            go_wp2_with (go_at_call 16; refine hat.mono ?_; clear hat; rintro e w' ⟨rfl, hw'⟩; replace hw' := hw'.symm; subst hw')
            go_ret2
            exact ⟨HQ.out.2, .inr ⟨130, HQ.out.1, by decide, rfl⟩⟩
          · rw [nwE_on (by omega) h3] at heq
            rw [plc_none h3] at hat
            simp only [Option.getD_none] at hat
            have hc0 := HI.out.cell
            obtain ⟨ai, ci, hiv, hcap⟩ := HI.out.row.form
            rw [HI.out.len] at hiv hcap
            subst hiv
            have HX := Hid.mk (And.intro heq (And.intro h3 hIds))
            have hz1 : ¬ (0 : Int) ≤ -1 := by decide
            clear heq hd hx hr hil h3 hIds
            go_wp2_with (go_at_call 16; refine hat.mono ?_; clear hat; rintro e w' ⟨rfl, hw'⟩; replace hw' := hw'.symm; subst hw')
            obtain ⟨wz, hwz⟩ : ∃ wz, wz = wr := ⟨_, rfl⟩
            subst hwz
            go_loopw [7] (fun u wr => ∃ (k : Nat), u = .int .i64 k ∧ k ≤ i ∧ Hid (Drew wz wr ∧ ∀ j (h : j < S.length), j < k → S[j] < x)) (fun u _ => i - (intOf u).toNat)
            case atStart => exact ⟨0, rfl, Nat.zero_le _, Drew.refl _, fun j h hj => by omega⟩
            case round =>
              obtain ⟨k, rfl, hki, HK⟩ := hrel
              have c0 := cell_lat (HK.out.1.below _) hc0
              have c1 := cell_lat (HK.out.1.below _) k0
              by_cases hk : k < i
              · have hk' : (k : Int) < (i : Int) := by omega
                have hkS : k < S.length := by rw [HI.out.len]; exact hk
                obtain ⟨g2, cap2, e2, z0, -⟩ := i_cell HI.out.row k hkS
                replace z0 := cell_lat (HK.out.1.below _) z0
                injection e2 with e21 e22 e23
                subst e21
                obtain ⟨y, hy⟩ : ∃ y, y = S[k] := ⟨_, rfl⟩
                rw [← hy] at z0
                have hb1 : decide ((k : Int) < (i : Int)) = true := by simpa using hk
                by_cases hyx : y < x
                · have hb2 : decide (y < x) = true := by simpa using hyx
                  have wk : IntKind.i64.wrap ((k : Int) + 1) = ((k + 1 : Nat) : Int) := i64_in _ (by omega) (by omega)
                  have HN : ∀ nq, Hid (Drew wz (wr.drewN nq) ∧ ∀ j (h : j < S.length), j < k + 1 → S[j] < x) := fun nq => ⟨HK.out.1.more nq, fun j h hj => by
                    by_cases q : j = k
                    · subst q; rw [← hy]; exact hyx
                    · exact HK.out.2 j h (by omega)⟩
                  clear hkS e22 e23 hy HK
                  go_wp2_with fail
                  go_quiet (fail)
                  go_wp2
                  go_roundw
                  case rel => exact ⟨k + 1, by go_num, by omega, HN _⟩
                  case measure => simp [intOf]; omega
                · have hb2 : decide (y < x) = false := by simpa using hyx
                  have hpl : plN S x = k := plN_eq S x k (by omega) HK.out.2 (fun _ => by rw [← hy]; exact hyx)
                  have HNY : Hid (∀ nq, NI w (wr.drewN nq) l i S (.slice (some ⟨g2, 0, none⟩) i ci) ∧ (wr.drewN nq).cell? ⟨g, off + i, none⟩ = some (.int .i64 x)) := fun nq => ⟨HI.out.below ((HK.out.1.more nq).below _), cell_lat ((HK.out.1.more nq).below _) k0⟩
                  have HPL := Hid.mk hpl
                  clear hkS e22 e23 hy HK hpl
                  go_wp2_with fail
                  go_quiet (fail)
                  rename_i nq
                  obtain ⟨wy, hwy⟩ : ∃ wy, wy = wr.drewN nq := ⟨_, rfl⟩
                  have HNy := HNY.out nq
                  rw [← hwy] at HNy ⊢
                  obtain ⟨v1, w1, v2, w2, hap1, hap2, b1, b2, r2, o2⟩ := HNy.1.two k (by omega) (by omega) x
                  have q0 := HNy.1.cell
                  have q1 := cell_lat b1 HNy.2
                  have q2 := cell_lat b2 HNy.1.cell
                  have hA3 : iE.At wy (some ⟨g2, k, none⟩) (S.drop k) := by
                    obtain ⟨a', c', e, hAt⟩ := El.Row.lat HNy.1.row
                    injection e with e1 e2 e3
                    subst e1
                    have := i_drop hAt k
                    rw [Nat.zero_add] at this
                    exact this
                  obtain ⟨v3, w3, hap3, N3, fz3, cz3⟩ := HNy.1.three b2 r2 o2 (by omega) (by omega) (some ⟨g2, k, none⟩) (ci - k) hA3 HPL.out HX.out.2.1 (by omega) HX.out.1
                  obtain ⟨a4, c4, hv4, -⟩ := N3.row.form
                  subst hv4
                  have HZ := Hid.mk N3
                  clear HNy b1 b2 r2 o2 hwy z0 c0 c1 HNY hA3 N3
                  go_wp2_with (first
                    | (at_builtin; refine wpList_append_eq rfl _ _ 22 22 rfl _ _ _ _ rfl rfl hap1 ?_; clear hap1)
                    | (at_builtin; refine wpList_append_eq rfl _ _ 22 22 rfl _ _ _ _ rfl rfl hap2 ?_; clear hap2)
                    | (at_builtin; refine wpList_append_eq rfl _ _ 22 22 rfl _ _ _ _ rfl rfl hap3 ?_; clear hap3)
                    | fail)
                  go_roundw
                  case rel => exact ⟨i + 1, _, _, by go_num, by omega, HZ⟩
                  case measure => simp [intOf]; omega
              · have hke : k = i := by omega
                subst hke
                have hpl : plN S x = k := plN_eq S x k (by rw [HI.out.len]; exact Nat.le_refl _) HK.out.2 (fun h => by rw [HI.out.len] at h; omega)
                have hb1 : decide ((k : Int) < (k : Int)) = false := by simp
                have HNY : Hid (∀ nq, NI w (wr.drewN nq) l k S (.slice ai k ci) ∧ (wr.drewN nq).cell? ⟨g, off + k, none⟩ = some (.int .i64 x)) := fun nq => ⟨HI.out.below ((HK.out.1.more nq).below _), cell_lat ((HK.out.1.more nq).below _) k0⟩
                have HPL := Hid.mk hpl
                clear HK hpl
                go_wp2_with fail
                go_quiet (fail)
                rename_i nq
                obtain ⟨wy, hwy⟩ : ∃ wy, wy = wr.drewN nq := ⟨_, rfl⟩
                have HNy := HNY.out nq
                rw [← hwy] at HNy ⊢
                obtain ⟨v1, w1, v2, w2, hap1, hap2, b1, b2, r2, o2⟩ := HNy.1.two k (by omega) (by omega) x
                have q0 := HNy.1.cell
                have q1 := cell_lat b1 HNy.2
                have q2 := cell_lat b2 HNy.1.cell
                have hdn : S.drop k = [] := by rw [← HNy.1.len, List.drop_length]
                cases ai with
                | none =>
                  have hk0 : k = 0 ∧ ci = 0 := by
                    rcases HNy.1.row.2 with ⟨e, _⟩ | ⟨_, _, _, e, _⟩
                    · injection e with e1 e2 e3
                      exact ⟨e2, e3⟩
                    · cases e
                  have hA3 : iE.At wy none (S.drop k) := ⟨fun hn => absurd (by rw [hdn]) hn⟩
                  obtain ⟨v3, w3, hap3, N3, fz3, cz3⟩ := HNy.1.three b2 r2 o2 (by omega) (by omega) none 0 hA3 HPL.out HX.out.2.1 (by omega) HX.out.1
                  rw [Nat.sub_self] at hap3
                  obtain ⟨a4, c4, hv4, -⟩ := N3.row.form
                  subst hv4
                  have HZ := Hid.mk N3
                  obtain ⟨hk0, hc0'⟩ := hk0
                  subst hk0
                  subst hc0'
                  rw [Nat.add_zero] at q1
                  clear HNy b1 b2 r2 o2 hwy c0 c1 HNY hA3 N3
                  go_wp2_with (first
                    | (at_builtin; refine wpList_append_eq rfl _ _ 22 22 rfl _ _ _ _ rfl rfl hap1 ?_; clear hap1)
                    | (at_builtin; refine wpList_append_eq rfl _ _ 22 22 rfl _ _ _ _ rfl rfl hap2 ?_; clear hap2)
                    | (at_builtin; refine wpList_append_eq rfl _ _ 22 22 rfl _ _ _ _ rfl rfl hap3 ?_; clear hap3)
                    | fail)
                  go_roundw
                  case rel => exact ⟨1, _, _, by go_num, by omega, HZ⟩
                  case measure => simp [intOf]; omega
                | some a2 => 
                  have hA3 : iE.At wy ((if ci = k then some a2 else some (a2.add k))) (S.drop k) := ⟨fun hn => absurd (by rw [hdn]) hn⟩
                  obtain ⟨v3, w3, hap3, N3, fz3, cz3⟩ := HNy.1.three b2 r2 o2 (by omega) (by omega) ((if ci = k then some a2 else some (a2.add k))) (ci - k) hA3 HPL.out HX.out.2.1 (by omega) HX.out.1
                  rw [Nat.sub_self] at hap3
                  obtain ⟨a4, c4, hv4, -⟩ := N3.row.form
                  subst hv4
                  have HZ := Hid.mk N3
                  clear HNy b1 b2 r2 o2 hwy c0 c1 HNY hA3 N3
                  go_wp2_with (first
                    | (at_builtin; refine wpList_append_eq rfl _ _ 22 22 rfl _ _ _ _ rfl rfl hap1 ?_; clear hap1)
                    | (at_builtin; refine wpList_append_eq rfl _ _ 22 22 rfl _ _ _ _ rfl rfl hap2 ?_; clear hap2)
                    | (at_builtin; refine wpList_append_eq rfl _ _ 22 22 rfl _ _ _ _ rfl rfl hap3 ?_; clear hap3)
                    | fail)
                  go_roundw
                  case rel => exact ⟨k + 1, _, _, by go_num, by omega, HZ⟩
                  case measure => simp [intOf]; omega
    · have hlt' : ¬ (i : Int) < (n : Int) := by omega
      have hie : i = n := by omega
      subst hie
      have hrow := HI.out.row
      obtain ⟨ai, ci, hiv, hcap⟩ := hrow.form
      have hbox := HI.out.box
      have q0 := HI.out.cell
      rw [hiv] at q0
      rw [HI.out.len] at q0
      have q1 : wr.cell? ⟨w.heap.size, 1, none⟩ = some (.slice none 0 0) := by simp [World.cell?, hbox]
      have q2 : wr.frozen? ⟨w.heap.size, 1, none⟩ = false := by simp [World.frozen?, hbox]
      obtain ⟨a', c', e, hAt⟩ := El.Row.lat hrow
      obtain ⟨v1, w1, hap, r1, s1, o1⟩ := El.appL iOk wr.drew [] S (.slice none 0 0) (El.Row.nil iE _) ai ci (by rw [hiv] at e; injection e with e1 e2 e3; subst e1; exact hAt.below (b_drew wr)) (by rw [HI.out.len]; simp [iE]; omega) (by rw [HI.out.len]; simp; omega)
      rw [List.nil_append] at r1
      rw [HI.out.len] at hap
      have hv1 : ∀ b, v1.ownBlock = some b → wr.heap.size ≤ b := fun b hb => by
        rcases o1 b hb with q | q
        · cases q
        · exact q
      have b1 : Below wr.heap.size wr w1 := (b_drew wr).trans (s1.toBelow (fun _ _ h => by cases h) (Nat.le_refl _))
      have HF := Hid.mk (NI.fin HI.out b1 r1 hv1 (by rw [← HA.out.2]; exact List.drop_length) hl)
      have hb1 := (b1.block _ (Array.getElem?_eq_some_iff.1 hbox).1).trans hbox
      have d0 : w1.cell? ⟨w.heap.size, 0, none⟩ = some (.slice ai i ci) := cell_lat b1 q0
      have d1 : w1.cell? ⟨w.heap.size, 1, none⟩ = some (.slice none 0 0) := cell_lat b1 q1
      have df : w1.frozen? ⟨w.heap.size, 1, none⟩ = false := by simp [World.frozen?, hb1]
      have d2 : (w1.setCell ⟨w.heap.size, 1, none⟩ v1).cell? ⟨w.heap.size, 0, none⟩ = some (.slice ai i ci) := by
        have hq := setC_at (i := 1) hb1 v1
        rw [← d0]
        simp [World.cell?, hq, hb1]
      obtain ⟨a1, c1, hv1', -⟩ := r1.form
      subst hv1'
      clear hlt hrow hbox hb1 b1 r1 s1 o1 hv1 hAt e hiv
      go_wp2_with fail
      refine wp_region_held_drew (S := fun w' => w'.cell? ⟨w.heap.size, 0, none⟩ = some (.slice ai i ci)) (by kernel_rfl) ?_ (fun hHeld => ?_)
      · exact q0
      refine wpAnyH_take (i := 0) (oi := { dst := some 84, op := Op.move (Operand.tmp 4), type := 28, pos := "group.go:51", after := #[], guard := none }) (v := ?v0) rfl (by kernel_rfl) (by kernel_rfl) (by kernel_rfl) (fun _ _ _ h => h) (Or.inl ⟨by rfl, ?h0⟩) (by assumption) ?r0
      case h0 => (intro w0 hSw; (try dsimp only at hSw); go_simp; try (with_reducible rfl))
      simp only [Act.put, List.setIfInBounds_toArray, List.set_cons_zero, List.set_cons_succ]
      refine wpAnyH_take (i := 1) (oi := { dst := some 85, op := Op.move (Operand.tmp 4), type := 28, pos := "group.go:51", after := #[], guard := none }) (v := ?v1) rfl (by kernel_rfl) (by kernel_rfl) (by kernel_rfl) (fun _ _ _ h => h) (Or.inl ⟨by rfl, ?h1⟩) (by assumption) ?r1
      case h1 => (intro w0 hSw; (try dsimp only at hSw); go_simp; try (with_reducible rfl))
      simp only [Act.put, List.setIfInBounds_toArray, List.set_cons_zero, List.set_cons_succ]
      refine wpAnyH_take (i := 2) (oi := { dst := some 86, op := Op.nilCheck (Operand.tmp 85), type := 0, pos := "group.go:51", after := #[{ on := 1, ground := Ground.data }], guard := none }) (v := ?v2) rfl (by kernel_rfl) (by kernel_rfl) (by kernel_rfl) (fun _ _ _ h => h) (Or.inl ⟨by rfl, ?h2⟩) (by assumption) ?r2
      case h2 => (intro w0 hSw; (try dsimp only at hSw); go_simp; try (with_reducible rfl))
      simp only [Act.put, List.setIfInBounds_toArray, List.set_cons_zero, List.set_cons_succ]
      refine wpAnyH_take (i := 3) (oi := { dst := some 87, op := Op.fieldAddr 50 (Operand.tmp 86) 1, type := 0, pos := "group.go:51", after := #[{ on := 2, ground := Ground.data }], guard := none }) (v := ?v3) rfl (by kernel_rfl) (by kernel_rfl) (by kernel_rfl) (fun _ _ _ h => h) (Or.inl ⟨by rfl, ?h3⟩) (by assumption) ?r3
      case h3 => (intro w0 hSw; (try dsimp only at hSw); go_simp; try (with_reducible rfl))
      simp only [Act.put, List.setIfInBounds_toArray, List.set_cons_zero, List.set_cons_succ]
      refine wpAnyH_take (i := 5) (oi := { dst := some 89, op := Op.move (Operand.tmp 4), type := 28, pos := "group.go:51", after := #[], guard := none }) (v := ?v5) rfl (by kernel_rfl) (by kernel_rfl) (by kernel_rfl) (fun _ _ _ h => h) (Or.inl ⟨by rfl, ?h5⟩) (by assumption) ?r5
      case h5 => (intro w0 hSw; (try dsimp only at hSw); go_simp; try (with_reducible rfl))
      simp only [Act.put, List.setIfInBounds_toArray, List.set_cons_zero, List.set_cons_succ]
      refine wpAnyH_take (i := 6) (oi := { dst := some 90, op := Op.nilCheck (Operand.tmp 89), type := 0, pos := "group.go:51", after := #[{ on := 5, ground := Ground.data }], guard := none }) (v := ?v6) rfl (by kernel_rfl) (by kernel_rfl) (by kernel_rfl) (fun _ _ _ h => h) (Or.inl ⟨by rfl, ?h6⟩) (by assumption) ?r6
      case h6 => (intro w0 hSw; (try dsimp only at hSw); go_simp; try (with_reducible rfl))
      simp only [Act.put, List.setIfInBounds_toArray, List.set_cons_zero, List.set_cons_succ]
      refine wpAnyH_take (i := 7) (oi := { dst := some 91, op := Op.fieldAddr 50 (Operand.tmp 90) 0, type := 0, pos := "group.go:51", after := #[{ on := 6, ground := Ground.data }], guard := none }) (v := ?v7) rfl (by kernel_rfl) (by kernel_rfl) (by kernel_rfl) (fun _ _ _ h => h) (Or.inl ⟨by rfl, ?h7⟩) (by assumption) ?r7
      case h7 => (intro w0 hSw; (try dsimp only at hSw); go_simp; try (with_reducible rfl))
      simp only [Act.put, List.setIfInBounds_toArray, List.set_cons_zero, List.set_cons_succ]
      refine wpAnyH_take (i := 8) (oi := { dst := some 92, op := Op.load 22 (Operand.tmp 91), type := 22, pos := "group.go:51", after := #[{ on := 7, ground := Ground.data }], guard := none }) (v := ?v8) rfl (by kernel_rfl) (by kernel_rfl) (by kernel_rfl) (fun _ _ _ h => h) (Or.inl ⟨by rfl, ?h8⟩) (by assumption) ?r8
      case h8 => (intro w0 hSw; (try dsimp only at hSw); go_simp; try (with_reducible rfl))
      simp only [Act.put, List.setIfInBounds_toArray, List.set_cons_zero, List.set_cons_succ]
      refine wpAnyH_ready (rs := [4]) (by kernel_rfl) (by simp) ?_
      refine AllReadyH.cons rfl (fun K hK => ?_) AllReadyH.nil
      go_simp
      go_wp2_with (fail)
      refine hK.out _ _ ?_ (fun hHeld => ?_)
      · exact q0
      clear hK K
      refine wpAnyH_ready (rs := [9]) (by kernel_rfl) (by simp) ?_
      refine AllReadyH.cons rfl (fun K hK => ?_) AllReadyH.nil
      rw [if_pos (by rfl)]
      refine oper_append_eq _ _ _ _ rfl _ _ _ _ rfl rfl hap ?_
      go_simp
      refine hK.out _ _ ?_ (fun hHeld => ?_)
      · exact d0
      clear hK K
      refine wpAnyH_take (i := 10) (oi := { dst := some 94, op := Op.nilCheck (Operand.tmp 84), type := 0, pos := "group.go:51", after := #[{ on := 0, ground := Ground.data }, { on := 0, ground := Ground.phase }, { on := 1, ground := Ground.phase }, { on := 2, ground := Ground.phase }, { on := 3, ground := Ground.phase }, { on := 4, ground := Ground.phase }, { on := 5, ground := Ground.phase }, { on := 6, ground := Ground.phase }, { on := 7, ground := Ground.phase }, { on := 8, ground := Ground.phase }, { on := 9, ground := Ground.phase }], guard := none }) (v := ?v10) rfl (by kernel_rfl) (by kernel_rfl) (by kernel_rfl) (fun _ _ _ h => h) (Or.inl ⟨by rfl, ?h10⟩) (by assumption) ?r10
      case h10 => (intro w0 hSw; (try dsimp only at hSw); go_simp; try (with_reducible rfl))
      simp only [Act.put, List.setIfInBounds_toArray, List.set_cons_zero, List.set_cons_succ]
      refine wpAnyH_take (i := 11) (oi := { dst := some 95, op := Op.fieldAddr 50 (Operand.tmp 94) 1, type := 0, pos := "group.go:51", after := #[{ on := 10, ground := Ground.data }, { on := 0, ground := Ground.phase }, { on := 1, ground := Ground.phase }, { on := 2, ground := Ground.phase }, { on := 3, ground := Ground.phase }, { on := 4, ground := Ground.phase }, { on := 5, ground := Ground.phase }, { on := 6, ground := Ground.phase }, { on := 7, ground := Ground.phase }, { on := 8, ground := Ground.phase }, { on := 9, ground := Ground.phase }], guard := none }) (v := ?v11) rfl (by kernel_rfl) (by kernel_rfl) (by kernel_rfl) (fun _ _ _ h => h) (Or.inl ⟨by rfl, ?h11⟩) (by assumption) ?r11
      case h11 => (intro w0 hSw; (try dsimp only at hSw); go_simp; try (with_reducible rfl))
      simp only [Act.put, List.setIfInBounds_toArray, List.set_cons_zero, List.set_cons_succ]
      refine wpAnyH_ready (rs := [12]) (by kernel_rfl) (by simp) ?_
      refine AllReadyH.cons rfl (fun K hK => ?_) AllReadyH.nil
      go_simp
      go_wp2_with (fail)
      refine hK.out _ _ ?_ (fun hHeld => ?_)
      · exact d2
      clear hK K
      refine wpAnyH_done (by kernel_rfl) ?_ _
      go_wp2
      go_ret2
      exact HF.out
end Go.Proofs.Ytmhifofeobhhgaa
