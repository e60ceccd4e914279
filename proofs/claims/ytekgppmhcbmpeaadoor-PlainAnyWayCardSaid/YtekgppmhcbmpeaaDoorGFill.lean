/-
  DERIVED. The laws' filled: a map with pairs as they come.
-/
import Derived.Test.YtekgppmhcbmpeaaDoorGRow
import Derived.Test.YtekgppmhcbmpeaaDoorESort
set_option linter.unusedVariables false
set_option linter.unusedSimpArgs false
namespace Go.Proofs.YtekgppmhcbmpeaaDoor
open Go.RowKit
/-- One more pair, if it goes. -/
def flS (n : Nat) (L : List Pr) (x : Pr) : List Pr := if L.length < 80 ∧ (0 ≤ x.i ∧ x.i ≤ 281474976710656) ∧ getP L x.i = none then L ++ [⟨x.i, fitC x.c n⟩] else L
def flL (n : Nat) (ps : List Pr) : List Pr := ps.foldl (flS n) []
theorem fl_full (n : Nat) : ∀ (ps : List Pr) (L : List Pr), 80 ≤ L.length → ps.foldl (flS n) L = L
  | [], _, _ => rfl
  | x :: ps, L, h => by
    rw [List.foldl_cons]
    have : flS n L x = L := by unfold flS; rw [if_neg (by omega)]
    rw [this]
    exact fl_full n ps L h
theorem fl_snoc (n : Nat) (ps : List Pr) (i : Nat) (hi : i < ps.length) : flL n (ps.take (i + 1)) = flS n (flL n (ps.take i)) ps[i] := by
  unfold flL
  rw [List.take_succ_eq_append_getElem hi, List.foldl_append]; rfl
theorem fl_end (n : Nat) (ps : List Pr) (i : Nat) (h : 80 ≤ (flL n (ps.take i)).length) : flL n ps = flL n (ps.take i) := by
  have e : flL n ps = (ps.drop i).foldl (flS n) (flL n (ps.take i)) := by
    unfold flL
    rw [← List.foldl_append, List.take_append_drop]
  rw [e]
  exact fl_full n _ _ h
/-- What holds while a map is filled. -/
structure FI (w wr : World) (wd : Int) (v : Value) (p mb : Nat) (L : List Pr) : Prop where
  mp : MP wr p mb wd L L.length
  row : PRow wr v L
  far : ∀ k, v.ownBlock = some k → w.heap.size ≤ k
  pf : w.heap.size ≤ p
  mf : w.heap.size ≤ mb
  st : Below w.heap.size w wr
  len : L.length ≤ 80
theorem FI.more {w wr W : World} {wd : Int} {v : Value} {p mb : Nat} {L : List Pr} (h : FI w wr wd v p mb L) (b : Below wr.heap.size wr W) : FI w W wd v p mb L :=
  ⟨h.mp.below b, h.row.below b, h.far, h.pf, h.mf, h.st.trans (b.mono h.st.size), h.len⟩
/-- The map's blocks are not the list's. -/
theorem FI.apart {w wr : World} {wd : Int} {v : Value} {p mb : Nat} {L : List Pr} (h : FI w wr wd v p mb L) (k : Nat) (hk : v.ownBlock = some k) : k ≠ p ∧ k ≠ mb := by
  obtain ⟨cur, hc⟩ := row_block h.row hk
  refine ⟨fun e => ?_, fun e => ?_⟩
  · have := h.mp.at'
    unfold MapAt at this
    rw [← e, hc] at this; simp at this
  · obtain ⟨es, c, hb⟩ := h.mp.pm.isMap
    rw [← e, hc] at hb; simp at hb
theorem box2 {wr w4 : World} (b : Below (wr.drew.alloc (.cells #[.int .i64 0, .string ⟨#[]⟩] 56)).heap.size (wr.drew.alloc (.cells #[.int .i64 0, .string ⟨#[]⟩] 56)) w4) : w4.heap[wr.heap.size]? = some (.cells #[.int .i64 0, .string ⟨#[]⟩] 56 (0, 0)) :=
  (b.block _ (by simp)).trans (heap_alloc_new wr.drew _)
theorem box2c {w4 : World} {b : Nat} {i : Int} {c : ByteArray} (h : w4.heap[b]? = some (.cells #[.int .i64 i, .string c] 56 (0, 0))) : w4.cell? ⟨b, 0, none⟩ = some (.int .i64 i) ∧ w4.cell? ⟨b, 1, none⟩ = some (.string c) ∧ ∀ j, w4.frozen? ⟨b, j, none⟩ = false :=
  ⟨by rw [cell_of_row _ _ 0 _ _ (0, 0) h]; rfl, by rw [cell_of_row _ _ 1 _ _ (0, 0) h]; rfl, fun j => frozen_of_row _ _ _ _ _ h⟩
theorem FI.ins {w wr w5 : World} {wd : Int} {v : Value} {p mb : Nat} {L : List Pr} (h : FI w wr wd v p mb L) (h5 : MP w5 p mb wd L L.length) (s : Stay (fun k => k = p ∨ k = mb) wr w5) : FI w w5 wd v p mb L :=
  ⟨h5, row_kept h.row s (fun k hk => by have := h.apart k hk; omega), h.far, h.pf, h.mf, h.st.trans (s.toBelow (fun k hk => by have := h.pf; have := h.mf; omega) h.st.size), h.len⟩
theorem FI.app {w wr w5 w6 : World} {wd : Int} {v v' : Value} {p mb : Nat} {L : List Pr} {y : Pr} (h : FI w wr wd v p mb L) (h5 : MP w5 p mb wd (y :: L) (L.length + 1)) (s : Stay (fun k => k = p ∨ k = mb) wr w5) (hr : PRow w6 v' (L ++ [y])) (s6 : Stay (fun k => v.ownBlock = some k) w5 w6) (hloc : ∀ k, v'.ownBlock = some k → v.ownBlock = some k ∨ w5.heap.size ≤ k) (hl : L.length < 80) : FI w w6 wd v' p mb (L ++ [y]) := by
  have b5 := h.st.trans (s.toBelow (B := w.heap.size) (fun k hk => by have := h.pf; have := h.mf; omega) h.st.size)
  refine ⟨?_, hr, fun k hk => ?_, h.pf, h.mf, ?_, by simp; omega⟩
  · have h6 : MP w6 p mb wd (y :: L) (L.length + 1) := h5.keep s6 (fun e => (h.apart p e).1 rfl) (fun e => (h.apart mb e).2 rfl)
    have := h6.perm (ys := L ++ [y]) (List.perm_append_comm (l₁ := [y]))
    rw [List.length_append]
    exact_mod_cast this
  · rcases hloc k hk with h1 | h1
    · exact h.far k h1
    · exact Nat.le_trans b5.size h1
  · exact b5.trans (s6.toBelow (fun k hk e => by have := h.far k e; omega) b5.size)
theorem any_take (L : List Pr) (i : Int) (j : Nat) (hj : j < L.length) : (L.take (j + 1)).any (fun y => y.i == i) = ((L.take j).any (fun y => y.i == i) || (L[j].i == i)) := by
  rw [List.take_succ_eq_append_getElem hj, List.any_append]; simp
theorem any_getP (L : List Pr) (i : Int) : L.any (fun y => y.i == i) = (getP L i).isSome := by
  rw [Bool.eq_iff_iff]
  simp [getP, List.find?_isSome]
def RFi (W : World) (x : Pr) (L : List Pr) (tv jv : Value) (wr : World) : Prop := ∃ (j : Nat) (tw : Bool), tv = .bool tw ∧ jv = .int .i64 j ∧ j ≤ L.length ∧ Hid (tw = (L.take j).any (fun y => y.i == x.i)) ∧ Drew W wr
def RFo (w : World) (wd : Int) (n p mb : Nat) (ps : List Pr) (v u : Value) (wr : World) : Prop := ∃ (i : Nat) (a : Option Addr) (m c : Nat), v = .slice a m c ∧ u = .int .i64 i ∧ i ≤ ps.length ∧ m = (flL n (ps.take i)).length ∧ m ≤ 80 ∧ Hid (FI w wr wd (.slice a m c) p mb (flL n (ps.take i)))
set_option maxHeartbeats 4000000 in
set_option maxRecDepth 100000 in
theorem filled_any (wd : Int) (n : Nat) (hW : isW wd = true) (hn : wd / 8 = n) (ps : List Pr) (hps : ∀ x ∈ ps, I64 x.i ∧ x.c.size ≤ 140737488351232) (la : Option Addr) (ca : Nat) (w : World) (ha : PLAt w la ps) (hl : ps.length < 4611686018427387904) :
    Calls Tryd.prog 10 #[.int .i64 wd, .slice la ps.length ca] w fun e w' => ∃ p mb a c, e = .returned (.tuple #[Pt p, .slice a (flL n ps).length c, .bool true]) ∧ FI w w' wd (.slice a (flL n ps).length c) p mb (flL n ps) := by
  have hnew := pnew_yes wd hW w
  have hwb := isW_bd hW
  obtain ⟨len, hlen⟩ : ∃ len, len = ps.length := ⟨_, rfl⟩
  have HA := Hid.mk (And.intro ha (And.intro hps (And.intro hlen (And.intro hW (And.intro hn (And.intro hl hwb))))))
  rw [← hlen] at hl ⊢
  clear ha hps hlen hW hn hwb
  go_enter Tryd.func10, Tryd.ntmps10
  go_wp2_with (go_at_call 24; refine hnew.mono ?_; clear hnew; rintro e w1 ⟨p, mb, rfl, m1, b1, pf, mf⟩)
  have H0 : Hid (FI w w1 wd (.slice none 0 0) p mb []) := ⟨m1, PRow.nil _, fun k hk => (by cases hk), pf, mf, b1, by simp⟩
  clear m1 b1 pf mf
  go_loopw [9, 10] (fun v u wr => RFo w wd n p mb ps v u wr) (fun _ u _ => len - (intOf u).toNat)
  case atStart => exact ⟨0, none, 0, 0, rfl, rfl, Nat.zero_le _, rfl, by omega, H0⟩
  case round =>
    clear H0
    obtain ⟨i, a, m, c, rfl, rfl, hi, hm, hm80, HR⟩ := hrel
    by_cases hgo : i < len ∧ m < 80
    · obtain ⟨hil, hm8⟩ := hgo
      have hip : i < ps.length := by have := HA.out.2.2.1; omega
      have i1 : (i : Int) < (len : Int) := by omega
      have i2 : (0 : Int) ≤ (i : Int) := by omega
      have m1 : (m : Int) < 80 := by omega
      obtain ⟨g, o, e1, x0, x1⟩ := HA.out.1.pr HR.out.st i hip
      subst e1
      obtain ⟨x, hx⟩ : ∃ x, x = ps[i] := ⟨_, rfl⟩
      rw [← hx] at x0 x1
      have hxW := HA.out.2.1 x (by rw [hx]; exact List.getElem_mem hip)
      have hft := fun W => fit_any x.c n wd W hxW.2 (by have := HA.out.2.2.2.2.1; have := HA.out.2.2.2.2.2.2; omega) HA.out.2.2.2.2.1 (by have := HA.out.2.2.2.2.2.2; omega)
      have HX := Hid.mk (And.intro hx hxW)
      have HMe := Hid.mk hm
      clear hx hxW hm
      go_wp2
      go_region_held (fun w' => Below wr.heap.size wr w' ∧ w'.cell? ⟨g, o + i * 2, none⟩ = some (.int .i64 x.i) ∧ w'.cell? ⟨g, o + i * 2 + 1, none⟩ = some (.string x.c))
        ((refine (fun hb => ⟨hb, cell_lat hb x0, cell_lat hb x1⟩) ?_; first | exact b_drew wr | exact b4 | exact b4.alloc b4.size _ | exact (b_drew wr).alloc (Nat.le_refl _) _ | exact (b4.setCell (Nat.le_refl _) _).setCell (Nat.le_refl _) _ | exact b4.setCell (Nat.le_refl _) _))
        ((go_at_call 9; refine (hft _).mono ?_; clear hft; rintro e w4 ⟨rfl, b4'⟩; first | (have b4 : Below wr.heap.size wr w4 := below_d b4') | (have b4 : Below wr.heap.size wr w4 := ((b_drew wr).alloc (Nat.le_refl _) _).trans (b4'.mono (by simp)); have hb4 := box2 b4'; obtain ⟨z0, z1, zf⟩ := box2c hb4)))
      · have hbox := heap_alloc_last w4 (.cells #[.int .i64 x.i, .string (fitC x.c n)] 56)
        have hBW : Below wr.heap.size wr (w4.alloc (.cells #[.int .i64 x.i, .string (fitC x.c n)] 56)) := b4.alloc b4.size _
        have hge := b4.size
        obtain ⟨bx, hbx⟩ : ∃ bx, bx = w4.heap.size := ⟨_, rfl⟩
        obtain ⟨W, hWe⟩ : ∃ W, W = w4.alloc (.cells #[.int .i64 x.i, .string (fitC x.c n)] 56) := ⟨_, rfl⟩
        rw [← hWe] at hbox hBW ⊢
        rw [← hbx] at hbox hge ⊢
        clear hWe hbx b4 b4' x0 x1
        have FW : Hid (FI w W wd (.slice a m c) p mb (flL n (ps.take i))) := HR.out.more hBW
        obtain ⟨L, hL⟩ : ∃ L, L = flL n (ps.take i) := ⟨_, rfl⟩
        have HNx := Hid.mk (fl_snoc n ps i hip)
        rw [← hL, ← HX.out.1] at HNx
        rw [← hL] at FW HMe
        clear HR hL
        obtain ⟨y0, y1, yf⟩ := box2c hbox
        go_wp2
        go_loopw [12, 13] (fun tv jv wr2 => RFi W x L tv jv wr2) (fun _ u _ => m - (intOf u).toNat)
        case atStart => exact ⟨0, false, rfl, rfl, Nat.zero_le _, rfl, Drew.refl _⟩
        case round =>
          obtain ⟨j, tw, rfl, rfl, hj, htw, hd⟩ := hrel
          have hmL := HMe.out
          by_cases hjl : j < m
          · have hjL : j < L.length := by omega
            obtain ⟨g2, c2, ev, v0, v1⟩ := FW.out.row.cells j hjL
            obtain ⟨rfl, -, -⟩ : a = some ⟨g2, 0, none⟩ ∧ m = L.length ∧ c = c2 := by simpa using ev
            have j1 : (j : Int) < (m : Int) := by omega
            have j2 : (0 : Int) ≤ (j : Int) := by omega
            have HT := Hid.mk (any_take L x.i j hjL)
            obtain ⟨z, hz⟩ : ∃ z : Int, z = L[j].i := ⟨_, rfl⟩
            rw [← hz] at v0 HT
            rw [← htw.out] at HT
            have hcl : ∀ q, wr.cell? q = W.cell? q := fun q => by obtain ⟨k, rfl⟩ := hd; rfl
            have v0' : wr.cell? ⟨g2, j * 2, none⟩ = some (.int .i64 z) := by rw [hcl]; exact v0
            have y0' : wr.cell? ⟨bx, 0, none⟩ = some (.int .i64 x.i) := by rw [hcl]; exact y0
            have hwj : IntKind.i64.wrap ((j : Int) + 1) = ((j + 1 : Nat) : Int) := by rw [IntKind.wrap_i64]; omega
            have HJ : Hid (j + 1 ≤ L.length) := hjL
            clear htw v0 v1 ev hz hcl hmL hjL y0 y1
            cases tw with
            | true =>
              go_wp2
              go_quiet (fail)
              go_wp2
              exact ⟨⟨j + 1, true, rfl, by go_num, HJ.out, by show _ = _; rw [HT.out]; rfl, hd.more _⟩, by simp only [intOf]; omega⟩
            | false =>
              go_wp2
              go_quiet (fail)
              go_wp2
              exact ⟨⟨j + 1, (z == x.i), rfl, by go_num, HJ.out, by show _ = _; rw [HT.out]; rfl, hd.more _⟩, by simp only [intOf]; omega⟩
          · have ej : j = L.length := by omega
            have HTW : Hid (tw = (getP L x.i).isSome) := by show _ = _; rw [htw.out, ej, List.take_of_length_le (Nat.le_refl _), any_getP]
            have j1 : ¬ (j : Int) < (m : Int) := by omega
            have F2 : Hid (FI w wr wd (.slice a m c) p mb L) := FW.out.more (hd.below _)
            have hl80 : L.length < 80 := by omega
            have hins := insert_any p mb wd (L.length) x.i L (fitC x.c n) wr F2.out.mp HX.out.2.1 ⟨by omega, by omega⟩ (by omega)
            have hcl : ∀ q, wr.cell? q = W.cell? q := fun q => by obtain ⟨k, rfl⟩ := hd; rfl
            have y0' : wr.cell? ⟨bx, 0, none⟩ = some (.int .i64 x.i) := by rw [hcl]; exact y0
            have y1' : wr.cell? ⟨bx, 1, none⟩ = some (.string (fitC x.c n)) := by rw [hcl]; exact y1
            have hbp : bx ≠ p := fun e => by
              have := FW.out.mp.at'
              unfold MapAt at this
              rw [← e, hbox] at this; simp at this
            have hbm : bx ≠ mb := fun e => by
              obtain ⟨es, cc, hb⟩ := FW.out.mp.pm.isMap
              rw [← e, hbox] at hb; simp at hb
            have HB : Hid (∀ w5, Stay (fun k => k = p ∨ k = mb) wr w5 → w5.cell? ⟨bx, 0, none⟩ = some (.int .i64 x.i) ∧ w5.cell? ⟨bx, 1, none⟩ = some (.string (fitC x.c n))) := fun w5 s5 => by
              have hlt : bx < wr.heap.size := World.block_lt_of_cell? wr _ y0'
              have hb := s5.block bx hlt (by omega)
              exact ⟨by rw [← y0']; simp only [World.cell?, hb], by rw [← y1']; simp only [World.cell?, hb]⟩
            have hwi : IntKind.i64.wrap ((i : Int) + 1) = ((i + 1 : Nat) : Int) := by rw [IntKind.wrap_i64]; omega
            have hfs : ((fitC x.c n).size : Int) = wd / 8 := by rw [fitC_size]; exact HA.out.2.2.2.2.1.symm
            by_cases hid : 0 ≤ x.i ∧ x.i ≤ 281474976710656
            · have k1 : decide (x.i < 0) = false := decide_eq_false (by omega)
              have k2 : decide (281474976710656 < x.i) = false := decide_eq_false (by omega)
              cases hg : getP L x.i with
              | some y =>
                have hE : insE wd L x.i (fitC x.c n) = 130 := by unfold insE; rw [if_pos hid, if_pos hfs, hg]; rfl
                have hX : insX wd L x.i (fitC x.c n) = L := by unfold insX; rw [hE]; rfl
                have hN : insN wd L x.i (fitC x.c n) L.length = L.length := by unfold insN; rw [hE]; rfl
                rw [hE, hX, hN] at hins
                have htt : tw = true := by rw [HTW.out, hg]; rfl
                subst htt
                have HN : Hid (∀ w5, MP w5 p mb wd L L.length → Stay (fun k => k = p ∨ k = mb) wr w5 → RFo w wd n p mb ps (.slice a m c) (.int .i64 ((i + 1 : Nat) : Int)) w5) := fun w5 m5 s5 => by
                  have e : flL n (ps.take (i + 1)) = L := by rw [HNx.out]; unfold flS; rw [if_neg (by rw [hg]; simp)]
                  exact ⟨i + 1, a, m, c, rfl, rfl, hip, by rw [e]; exact hmL, hm80, by rw [e]; exact F2.out.ins m5 s5⟩
                clear hE hX hN hg hid HTW htw F2 FW hbox hcl hbp hbm hfs y0 y1 yf hmL ej hl80
                go_wp2_with (go_at_call 19; refine hins.mono ?_; clear hins; rintro e w5 ⟨rfl, m5, s5⟩; obtain ⟨z0, z1⟩ := HB.out w5 s5)
                exact ⟨HN.out _ m5 s5, by simp only [intOf]; omega⟩
              | none =>
                have hE : insE wd L x.i (fitC x.c n) = 0 := by unfold insE; rw [if_pos hid, if_pos hfs, hg]; show (if 1048576 ≤ L.length then (43 : Int) else 0) = 0; rw [if_neg (by omega)]
                have hX : insX wd L x.i (fitC x.c n) = ⟨x.i, fitC x.c n⟩ :: L := by unfold insX; rw [hE]; rfl
                have hN : insN wd L x.i (fitC x.c n) L.length = L.length + 1 := by unfold insN; rw [hE]; rfl
                rw [hE, hX, hN] at hins
                have htt : tw = false := by rw [HTW.out, hg]; rfl
                subst htt
                have HN : Hid (∀ w5, MP w5 p mb wd (⟨x.i, fitC x.c n⟩ :: L) (L.length + 1) → Stay (fun k => k = p ∨ k = mb) wr w5 → ∃ a' c' w6, (Builtin.append_ #[22, 22] 22 #[.slice a m c, .slice (some ⟨w5.heap.size, 0, none⟩) 1 1]).run Tryd.prog (w5.alloc (.cells #[.int .i64 x.i, .string (fitC x.c n)] 56)) = .ok (.slice a' (m + 1) c') w6 ∧ RFo w wd n p mb ps (.slice a' (m + 1) c') (.int .i64 ((i + 1 : Nat) : Int)) w6) := fun w5 m5 s5 => by
                  have e : flL n (ps.take (i + 1)) = L ++ [⟨x.i, fitC x.c n⟩] := by rw [HNx.out]; unfold flS; rw [if_pos ⟨hl80, hid, hg⟩]
                  have hr5 : PRow w5 (.slice a m c) L := row_kept F2.out.row s5 (fun k hk => by have := F2.out.apart k hk; omega)
                  obtain ⟨a', c', w6, hap, hr6, s6, hloc⟩ := pair_app1 w5 L (.slice a m c) hr5 ⟨x.i, fitC x.c n⟩ (by omega)
                  rw [← hmL] at hap hr6 hloc
                  refine ⟨a', c', w6, hap, i + 1, a', m + 1, c', rfl, rfl, hip, by rw [e]; simp [hmL], by omega, ?_⟩
                  rw [e]
                  exact F2.out.app m5 s5 hr6 s6 hloc hl80
                clear hE hX hN hg hid HTW htw F2 FW hbox hcl hbp hbm hfs y0 y1 yf hmL ej hl80
                go_wp2_with (first
                  | (go_at_call 19; refine hins.mono ?_; clear hins; rintro e w5 ⟨rfl, m5, s5⟩; obtain ⟨z0, z1⟩ := HB.out w5 s5; obtain ⟨a', c', w6, hap, hro⟩ := HN.out w5 m5 s5)
                  | (at_builtin; refine wpList_append_eq rfl _ _ _ _ rfl _ _ _ _ rfl rfl hap ?_; clear hap))
                exact ⟨hro, by simp only [intOf]; omega⟩
            · have hE : insE wd L x.i (fitC x.c n) = 60 := by unfold insE; rw [if_neg hid]
              have hX : insX wd L x.i (fitC x.c n) = L := by unfold insX; rw [hE]; rfl
              have hN : insN wd L x.i (fitC x.c n) L.length = L.length := by unfold insN; rw [hE]; rfl
              rw [hE, hX, hN] at hins
              have HN : Hid (∀ w5, MP w5 p mb wd L L.length → Stay (fun k => k = p ∨ k = mb) wr w5 → RFo w wd n p mb ps (.slice a m c) (.int .i64 ((i + 1 : Nat) : Int)) w5) := fun w5 m5 s5 => by
                have e : flL n (ps.take (i + 1)) = L := by rw [HNx.out]; unfold flS; rw [if_neg (fun h => hid h.2.1)]
                exact ⟨i + 1, a, m, c, rfl, rfl, hip, by rw [e]; exact hmL, hm80, by rw [e]; exact F2.out.ins m5 s5⟩
              by_cases k0 : x.i < 0
              · have k1 : decide (x.i < 0) = true := decide_eq_true k0
                clear hE hX hN hid HTW htw F2 FW hbox hcl hbp hbm hfs y0 y1 yf hmL ej hl80 k0
                go_wp2_with (go_at_call 19; refine hins.mono ?_; clear hins; rintro e w5 ⟨rfl, m5, s5⟩; obtain ⟨z0, z1⟩ := HB.out w5 s5)
                exact ⟨HN.out _ m5 s5, by simp only [intOf]; omega⟩
              · have k1 : decide (x.i < 0) = false := decide_eq_false k0
                have k2 : decide (281474976710656 < x.i) = true := decide_eq_true (by omega)
                clear hE hX hN hid HTW htw F2 FW hbox hcl hbp hbm hfs y0 y1 yf hmL ej hl80 k0
                go_wp2_with (go_at_call 19; refine hins.mono ?_; clear hins; rintro e w5 ⟨rfl, m5, s5⟩; obtain ⟨z0, z1⟩ := HB.out w5 s5)
                exact ⟨HN.out _ m5 s5, by simp only [intOf]; omega⟩
      · have hbox : ((w4.setCell ⟨wr.heap.size, 0, none⟩ (.int .i64 x.i)).setCell ⟨wr.heap.size, 1, none⟩ (.string (fitC x.c n))).heap[wr.heap.size]? = some (.cells #[.int .i64 x.i, .string (fitC x.c n)] 56 (0, 0)) := by
          have h1 : (w4.setCell ⟨wr.heap.size, 0, none⟩ (.int .i64 x.i)).heap[wr.heap.size]? = some (.cells #[.int .i64 x.i, .string ⟨#[]⟩] 56 (0, 0)) := heap_setCell_same w4 wr.heap.size 0 _ _ _ hb4
          exact heap_setCell_same _ wr.heap.size 1 _ _ _ h1
        have hBW : Below wr.heap.size wr ((w4.setCell ⟨wr.heap.size, 0, none⟩ (.int .i64 x.i)).setCell ⟨wr.heap.size, 1, none⟩ (.string (fitC x.c n))) := (b4.setCell (Nat.le_refl _) _).setCell (Nat.le_refl _) _
        have hge : wr.heap.size ≤ wr.heap.size := Nat.le_refl _
        obtain ⟨W, hWe⟩ : ∃ W, W = (w4.setCell ⟨wr.heap.size, 0, none⟩ (.int .i64 x.i)).setCell ⟨wr.heap.size, 1, none⟩ (.string (fitC x.c n)) := ⟨_, rfl⟩
        rw [← hWe] at hbox hBW ⊢
        obtain ⟨bx, hbx⟩ : ∃ bx, bx = wr.heap.size := ⟨_, rfl⟩
        rw [← hbx] at hbox ⊢
        have hge : wr.heap.size ≤ bx := by omega
        clear hWe hbx b4 b4' x0 x1 hb4 z0 z1 zf
        have FW : Hid (FI w W wd (.slice a m c) p mb (flL n (ps.take i))) := HR.out.more hBW
        obtain ⟨L, hL⟩ : ∃ L, L = flL n (ps.take i) := ⟨_, rfl⟩
        have HNx := Hid.mk (fl_snoc n ps i hip)
        rw [← hL, ← HX.out.1] at HNx
        rw [← hL] at FW HMe
        clear HR hL
        obtain ⟨y0, y1, yf⟩ := box2c hbox
        go_wp2
        go_loopw [12, 13] (fun tv jv wr2 => RFi W x L tv jv wr2) (fun _ u _ => m - (intOf u).toNat)
        case atStart => exact ⟨0, false, rfl, rfl, Nat.zero_le _, rfl, Drew.refl _⟩
        case round =>
          obtain ⟨j, tw, rfl, rfl, hj, htw, hd⟩ := hrel
          have hmL := HMe.out
          by_cases hjl : j < m
          · have hjL : j < L.length := by omega
            obtain ⟨g2, c2, ev, v0, v1⟩ := FW.out.row.cells j hjL
            obtain ⟨rfl, -, -⟩ : a = some ⟨g2, 0, none⟩ ∧ m = L.length ∧ c = c2 := by simpa using ev
            have j1 : (j : Int) < (m : Int) := by omega
            have j2 : (0 : Int) ≤ (j : Int) := by omega
            have HT := Hid.mk (any_take L x.i j hjL)
            obtain ⟨z, hz⟩ : ∃ z : Int, z = L[j].i := ⟨_, rfl⟩
            rw [← hz] at v0 HT
            rw [← htw.out] at HT
            have hcl : ∀ q, wr.cell? q = W.cell? q := fun q => by obtain ⟨k, rfl⟩ := hd; rfl
            have v0' : wr.cell? ⟨g2, j * 2, none⟩ = some (.int .i64 z) := by rw [hcl]; exact v0
            have y0' : wr.cell? ⟨bx, 0, none⟩ = some (.int .i64 x.i) := by rw [hcl]; exact y0
            have hwj : IntKind.i64.wrap ((j : Int) + 1) = ((j + 1 : Nat) : Int) := by rw [IntKind.wrap_i64]; omega
            have HJ : Hid (j + 1 ≤ L.length) := hjL
            clear htw v0 v1 ev hz hcl hmL hjL y0 y1
            cases tw with
            | true =>
              go_wp2
              go_quiet (fail)
              go_wp2
              exact ⟨⟨j + 1, true, rfl, by go_num, HJ.out, by show _ = _; rw [HT.out]; rfl, hd.more _⟩, by simp only [intOf]; omega⟩
            | false =>
              go_wp2
              go_quiet (fail)
              go_wp2
              exact ⟨⟨j + 1, (z == x.i), rfl, by go_num, HJ.out, by show _ = _; rw [HT.out]; rfl, hd.more _⟩, by simp only [intOf]; omega⟩
          · have ej : j = L.length := by omega
            have HTW : Hid (tw = (getP L x.i).isSome) := by show _ = _; rw [htw.out, ej, List.take_of_length_le (Nat.le_refl _), any_getP]
            have j1 : ¬ (j : Int) < (m : Int) := by omega
            have F2 : Hid (FI w wr wd (.slice a m c) p mb L) := FW.out.more (hd.below _)
            have hl80 : L.length < 80 := by omega
            have hins := insert_any p mb wd (L.length) x.i L (fitC x.c n) wr F2.out.mp HX.out.2.1 ⟨by omega, by omega⟩ (by omega)
            have hcl : ∀ q, wr.cell? q = W.cell? q := fun q => by obtain ⟨k, rfl⟩ := hd; rfl
            have y0' : wr.cell? ⟨bx, 0, none⟩ = some (.int .i64 x.i) := by rw [hcl]; exact y0
            have y1' : wr.cell? ⟨bx, 1, none⟩ = some (.string (fitC x.c n)) := by rw [hcl]; exact y1
            have hbp : bx ≠ p := fun e => by
              have := FW.out.mp.at'
              unfold MapAt at this
              rw [← e, hbox] at this; simp at this
            have hbm : bx ≠ mb := fun e => by
              obtain ⟨es, cc, hb⟩ := FW.out.mp.pm.isMap
              rw [← e, hbox] at hb; simp at hb
            have HB : Hid (∀ w5, Stay (fun k => k = p ∨ k = mb) wr w5 → w5.cell? ⟨bx, 0, none⟩ = some (.int .i64 x.i) ∧ w5.cell? ⟨bx, 1, none⟩ = some (.string (fitC x.c n))) := fun w5 s5 => by
              have hlt : bx < wr.heap.size := World.block_lt_of_cell? wr _ y0'
              have hb := s5.block bx hlt (by omega)
              exact ⟨by rw [← y0']; simp only [World.cell?, hb], by rw [← y1']; simp only [World.cell?, hb]⟩
            have hwi : IntKind.i64.wrap ((i : Int) + 1) = ((i + 1 : Nat) : Int) := by rw [IntKind.wrap_i64]; omega
            have hfs : ((fitC x.c n).size : Int) = wd / 8 := by rw [fitC_size]; exact HA.out.2.2.2.2.1.symm
            by_cases hid : 0 ≤ x.i ∧ x.i ≤ 281474976710656
            · have k1 : decide (x.i < 0) = false := decide_eq_false (by omega)
              have k2 : decide (281474976710656 < x.i) = false := decide_eq_false (by omega)
              cases hg : getP L x.i with
              | some y =>
                have hE : insE wd L x.i (fitC x.c n) = 130 := by unfold insE; rw [if_pos hid, if_pos hfs, hg]; rfl
                have hX : insX wd L x.i (fitC x.c n) = L := by unfold insX; rw [hE]; rfl
                have hN : insN wd L x.i (fitC x.c n) L.length = L.length := by unfold insN; rw [hE]; rfl
                rw [hE, hX, hN] at hins
                have htt : tw = true := by rw [HTW.out, hg]; rfl
                subst htt
                have HN : Hid (∀ w5, MP w5 p mb wd L L.length → Stay (fun k => k = p ∨ k = mb) wr w5 → RFo w wd n p mb ps (.slice a m c) (.int .i64 ((i + 1 : Nat) : Int)) w5) := fun w5 m5 s5 => by
                  have e : flL n (ps.take (i + 1)) = L := by rw [HNx.out]; unfold flS; rw [if_neg (by rw [hg]; simp)]
                  exact ⟨i + 1, a, m, c, rfl, rfl, hip, by rw [e]; exact hmL, hm80, by rw [e]; exact F2.out.ins m5 s5⟩
                clear hE hX hN hg hid HTW htw F2 FW hbox hcl hbp hbm hfs y0 y1 yf hmL ej hl80
                go_wp2_with (go_at_call 19; refine hins.mono ?_; clear hins; rintro e w5 ⟨rfl, m5, s5⟩; obtain ⟨z0, z1⟩ := HB.out w5 s5)
                exact ⟨HN.out _ m5 s5, by simp only [intOf]; omega⟩
              | none =>
                have hE : insE wd L x.i (fitC x.c n) = 0 := by unfold insE; rw [if_pos hid, if_pos hfs, hg]; show (if 1048576 ≤ L.length then (43 : Int) else 0) = 0; rw [if_neg (by omega)]
                have hX : insX wd L x.i (fitC x.c n) = ⟨x.i, fitC x.c n⟩ :: L := by unfold insX; rw [hE]; rfl
                have hN : insN wd L x.i (fitC x.c n) L.length = L.length + 1 := by unfold insN; rw [hE]; rfl
                rw [hE, hX, hN] at hins
                have htt : tw = false := by rw [HTW.out, hg]; rfl
                subst htt
                have HN : Hid (∀ w5, MP w5 p mb wd (⟨x.i, fitC x.c n⟩ :: L) (L.length + 1) → Stay (fun k => k = p ∨ k = mb) wr w5 → ∃ a' c' w6, (Builtin.append_ #[22, 22] 22 #[.slice a m c, .slice (some ⟨w5.heap.size, 0, none⟩) 1 1]).run Tryd.prog (w5.alloc (.cells #[.int .i64 x.i, .string (fitC x.c n)] 56)) = .ok (.slice a' (m + 1) c') w6 ∧ RFo w wd n p mb ps (.slice a' (m + 1) c') (.int .i64 ((i + 1 : Nat) : Int)) w6) := fun w5 m5 s5 => by
                  have e : flL n (ps.take (i + 1)) = L ++ [⟨x.i, fitC x.c n⟩] := by rw [HNx.out]; unfold flS; rw [if_pos ⟨hl80, hid, hg⟩]
                  have hr5 : PRow w5 (.slice a m c) L := row_kept F2.out.row s5 (fun k hk => by have := F2.out.apart k hk; omega)
                  obtain ⟨a', c', w6, hap, hr6, s6, hloc⟩ := pair_app1 w5 L (.slice a m c) hr5 ⟨x.i, fitC x.c n⟩ (by omega)
                  rw [← hmL] at hap hr6 hloc
                  refine ⟨a', c', w6, hap, i + 1, a', m + 1, c', rfl, rfl, hip, by rw [e]; simp [hmL], by omega, ?_⟩
                  rw [e]
                  exact F2.out.app m5 s5 hr6 s6 hloc hl80
                clear hE hX hN hg hid HTW htw F2 FW hbox hcl hbp hbm hfs y0 y1 yf hmL ej hl80
                go_wp2_with (first
                  | (go_at_call 19; refine hins.mono ?_; clear hins; rintro e w5 ⟨rfl, m5, s5⟩; obtain ⟨z0, z1⟩ := HB.out w5 s5; obtain ⟨a', c', w6, hap, hro⟩ := HN.out w5 m5 s5)
                  | (at_builtin; refine wpList_append_eq rfl _ _ _ _ rfl _ _ _ _ rfl rfl hap ?_; clear hap))
                exact ⟨hro, by simp only [intOf]; omega⟩
            · have hE : insE wd L x.i (fitC x.c n) = 60 := by unfold insE; rw [if_neg hid]
              have hX : insX wd L x.i (fitC x.c n) = L := by unfold insX; rw [hE]; rfl
              have hN : insN wd L x.i (fitC x.c n) L.length = L.length := by unfold insN; rw [hE]; rfl
              rw [hE, hX, hN] at hins
              have HN : Hid (∀ w5, MP w5 p mb wd L L.length → Stay (fun k => k = p ∨ k = mb) wr w5 → RFo w wd n p mb ps (.slice a m c) (.int .i64 ((i + 1 : Nat) : Int)) w5) := fun w5 m5 s5 => by
                have e : flL n (ps.take (i + 1)) = L := by rw [HNx.out]; unfold flS; rw [if_neg (fun h => hid h.2.1)]
                exact ⟨i + 1, a, m, c, rfl, rfl, hip, by rw [e]; exact hmL, hm80, by rw [e]; exact F2.out.ins m5 s5⟩
              by_cases k0 : x.i < 0
              · have k1 : decide (x.i < 0) = true := decide_eq_true k0
                clear hE hX hN hid HTW htw F2 FW hbox hcl hbp hbm hfs y0 y1 yf hmL ej hl80 k0
                go_wp2_with (go_at_call 19; refine hins.mono ?_; clear hins; rintro e w5 ⟨rfl, m5, s5⟩; obtain ⟨z0, z1⟩ := HB.out w5 s5)
                exact ⟨HN.out _ m5 s5, by simp only [intOf]; omega⟩
              · have k1 : decide (x.i < 0) = false := decide_eq_false k0
                have k2 : decide (281474976710656 < x.i) = true := decide_eq_true (by omega)
                clear hE hX hN hid HTW htw F2 FW hbox hcl hbp hbm hfs y0 y1 yf hmL ej hl80 k0
                go_wp2_with (go_at_call 19; refine hins.mono ?_; clear hins; rintro e w5 ⟨rfl, m5, s5⟩; obtain ⟨z0, z1⟩ := HB.out w5 s5)
                exact ⟨HN.out _ m5 s5, by simp only [intOf]; omega⟩
    · have hfin : flL n ps = flL n (ps.take i) := by
        by_cases h1 : i < len
        · exact fl_end n ps i (by omega)
        · rw [List.take_of_length_le (by have := HA.out.2.2.1; omega)]
      have hcnt := count_any p mb wd _ _ wr HR.out.mp
      have hseq := seq_any p mb wd _ _ wr HR.out.mp
      rw [← hm] at hcnt hseq
      have HE : Hid (FI w wr wd (.slice a m c) p mb (flL n ps) ∧ m = (flL n ps).length) := ⟨by rw [hfin]; exact HR.out, by rw [hfin]; exact hm⟩
      have HM := Hid.mk hm
      clear hm hfin HR
      by_cases h1 : i < len
      · have h2 : ¬ (m : Int) < 80 := by omega
        have i1 : (i : Int) < (len : Int) := by omega
        clear hgo
        go_wp2_with (first
          | (go_at_call 26; refine hcnt.mono ?_; clear hcnt; rintro e w5 ⟨rfl, h5⟩; subst h5)
          | (go_at_call 18; refine hseq.mono ?_; clear hseq; rintro e w6 ⟨rfl, h6⟩; subst h6))
        go_ret3
        exact ⟨p, mb, a, c, by rw [← HE.out.2]; rfl, by rw [← HE.out.2]; exact HE.out.1⟩
      · have i1 : ¬ (i : Int) < (len : Int) := by omega
        clear hgo
        go_wp2_with (first
          | (go_at_call 26; refine hcnt.mono ?_; clear hcnt; rintro e w5 ⟨rfl, h5⟩; subst h5)
          | (go_at_call 18; refine hseq.mono ?_; clear hseq; rintro e w6 ⟨rfl, h6⟩; subst h6))
        go_ret3
        exact ⟨p, mb, a, c, by rw [← HE.out.2]; rfl, by rw [← HE.out.2]; exact HE.out.1⟩
end Go.Proofs.YtekgppmhcbmpeaaDoor
