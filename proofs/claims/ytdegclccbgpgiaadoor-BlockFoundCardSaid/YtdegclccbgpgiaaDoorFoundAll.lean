/-
  DERIVED. BFndW, FoundRow, as one text.
-/
import Derived.Test.YtdegclccbgpgiaaDoorBkC
import Derived.BigQuiet
import Derived.Deep.RegionHeldLaw
import Derived.Deep.RegionHeld
import Derived.Test.YtdegclccbgpgiaaDoorSTable
import Derived.ChangeMaps5
set_option linter.unusedVariables false
set_option linter.unusedSimpArgs false
namespace Go.Proofs.YtdegclccbgpgiaaDoor
open Go.RowKit Go.Proofs.SealMath
/-- What stands while the values are asked for. -/
def FndI (w w1 : World) (fb : Nat) (h : Hd) (bl : List (List UInt8)) (ix : List En) (bv iv : Value) (n : Nat) (u : Value) (wr : World) : Prop :=
  ∃ (i rd : Nat), u = .int .i64 i ∧ i ≤ n ∧ rd ≤ i * 131072 ∧ FA wr fb h bl ix bv iv rd ∧ Below w.heap.size w wr ∧ Below w1.heap.size w1 wr
/-- What stands while a list is picked. -/
def PickI (wz : World) (f : List En → List En) (l : List En) (v u : Value) (wr : World) : Prop :=
  ∃ k : Nat, u = .int .i64 k ∧ k ≤ l.length ∧ wr.ownsRow 0 40 5 v (f (l.take k)).length ((f (l.take k)).flatMap enC) ∧ (∀ j, v.ownBlock = some j → wz.heap.size ≤ j) ∧ Below wz.heap.size wz wr
def PickM (wz : World) (p : En) (mo : Int) (l : List En) (v u : Value) (wr : World) : Prop :=
  ∃ k : Nat, u = .int .i64 k ∧ k ≤ l.length ∧ wr.ownsRow 0 40 5 v (geV p (l.take k)).length ((geV p (l.take k)).flatMap enC) ∧ (∀ j, v.ownBlock = some j → wz.heap.size ≤ j) ∧ Below wz.heap.size wz wr ∧ ((geV p (l.take k)).length : Int) ≤ max mo 0
theorem hitV_le (x : Int) (l : List En) : (hitV x l).length ≤ l.length := by unfold hitV; exact List.length_filter_le _ _
theorem geV_le (p : En) (l : List En) : (geV p l).length ≤ l.length := by unfold geV; exact List.length_filter_le _ _
theorem takeK {l : List En} {k : Nat} {x : En} (h : l[k]? = some x) : l.take (k + 1) = l.take k ++ [x] := by rw [List.take_add_one, h]; rfl
theorem hit_yes (q : Int) (l : List En) (k : Nat) (x : En) (h : l[k]? = some x) (hv : x.v = q) : hitV q (l.take (k + 1)) = hitV q (l.take k) ++ [x] := by
  rw [takeK h, hitV_app]; congr 1; unfold hitV; simp [hv]
theorem hit_no (q : Int) (l : List En) (k : Nat) (x : En) (h : l[k]? = some x) (hv : x.v ≠ q) : hitV q (l.take (k + 1)) = hitV q (l.take k) := by
  rw [takeK h, hitV_app]
  have : hitV q [x] = [] := by unfold hitV; simp [hv]
  rw [this, List.append_nil]
theorem ge_yes (p : En) (l : List En) (k : Nat) (x : En) (h : l[k]? = some x) (hv : lsB x p = false) : geV p (l.take (k + 1)) = geV p (l.take k) ++ [x] := by
  have h1 : ¬ cpE x p < 0 := fun e => by have := (cpE_ls x p).1 e; rw [hv] at this; cases this
  rw [takeK h, geV_app]; congr 1; unfold geV; simp; omega
theorem ge_no (p : En) (l : List En) (k : Nat) (x : En) (h : l[k]? = some x) (hv : lsB x p = true) : geV p (l.take (k + 1)) = geV p (l.take k) := by
  have h1 : cpE x p < 0 := (cpE_ls x p).2 hv
  rw [takeK h, geV_app]
  have : geV p [x] = [] := by unfold geV; simp [h1]
  rw [this, List.append_nil]
/-- The picked ones are the first so many. -/
theorem ge_done (p : En) (l : List En) (k : Nat) (m : Int) (hle : ((geV p (l.take k)).length : Int) ≤ max m 0) (h : k = l.length ∨ ¬ ((geV p (l.take k)).length : Int) < m) : geV p (l.take k) = (geV p l).take m.toNat := by
  have e : geV p l = geV p (l.take k) ++ geV p (l.drop k) := by rw [← geV_app, List.take_append_drop]
  have hf : (geV p (l.take k)).length ≤ m.toNat := by omega
  rcases h with h | h
  · rw [h, List.take_of_length_le (Nat.le_refl l.length)] at hf ⊢
    exact (List.take_of_length_le hf).symm
  · have h1 : ((geV p (l.take k)) ++ geV p (l.drop k)).take m.toNat = (geV p (l.take k)).take m.toNat := List.take_append_of_le_length (by omega)
    rw [e, h1]
    exact (List.take_of_length_le hf).symm
/-- One more. -/
theorem pick_put {wz wr W2 : World} {L : List En} {v : Value} (hrow : wr.ownsRow 0 40 5 v L.length (L.flatMap enC)) (hown : ∀ j, v.ownBlock = some j → wz.heap.size ≤ j) (hbz : Below wz.heap.size wz wr) (b2 : Below wr.heap.size wr W2) (x : En) (hl : L.length ≤ 2097152) :
    ∃ v' w', (Builtin.append_ #[24, 24] 24 #[v, .slice (some ⟨W2.heap.size, 0, none⟩) 1 1]).run Tryd.prog (W2.alloc (.cells (enV x) 40)) = .ok v' w' ∧ w'.ownsRow 0 40 5 v' (L ++ [x]).length ((L ++ [x]).flatMap enC) ∧ (∀ j, v'.ownBlock = some j → wz.heap.size ≤ j) ∧ Below wz.heap.size wz w' := by
  have hr2 := row_kept (F := fun _ => False) hrow (.below b2) (fun _ _ h => h)
  obtain ⟨v', w', h1, h2, h3, h4⟩ := en_app W2 L v hr2 x (by omega)
  have hz2 := chain hbz b2 (Nat.le_refl _)
  refine ⟨v', w', h1, h2, fun j hj => ?_, hz2.trans (h3.toBelow (fun j hj e => by have := hown j e; omega) hz2.size)⟩
  rcases h4 j hj with h | h
  · exact hown j h
  · have := hz2.size; omega
theorem row_nil (w : World) : w.ownsRow 0 40 5 (.slice none 0 0) 0 [] := ⟨rfl, .inl ⟨rfl, rfl⟩⟩
theorem wrap_up2 (i : Nat) (h : i < 17592186044416) : wrap64 ((i : Int) + 1) = (i : Int) + 1 := by unfold wrap64; omega
set_option maxHeartbeats 8000000 in
set_option maxRecDepth 100000 in
theorem law_found (h : Hd) (l : List En) (la : Option Addr) (cap : Nat) (vs : List Int) (va : Option Addr) (vc : Nat) (p : En) (mo : Int) (w : World) (ht : Tab w) (hg : 0 < w.heap.size) (hl : LAt w la l) (hcap : l.length ≤ cap) (hv : IAt w va vs) (hvl : vs.length ≤ 17592186044416) :
    Calls Tryd.prog 5 #[.agg (hdC h).toArray, .slice la l.length cap, .slice va vs.length vc, .agg (enC p).toArray, .int .i64 mo] w fun r w' => r = .returned (.bool true) ∧ Below w.heap.size w w' := by
  obtain ⟨W, hW⟩ : ∃ W, W = (w.alloc (.cells (hdC h).toArray 23)).alloc (.cells (enC p).toArray 40) := ⟨_, rfl⟩
  have bW : Below w.heap.size w W := by rw [hW]; exact ((Below.refl _ w).alloc (Nat.le_refl _) _).alloc (by simp) _
  have hH : W.heap[w.heap.size]? = some (.cells (hdC h).toArray 23 (0, 0)) := by
    rw [hW]
    have h1 := heap_alloc_last w (.cells (hdC h).toArray 23)
    exact (Below.heap_alloc (w.alloc (.cells (hdC h).toArray 23)) (.cells (enC p).toArray 40) _ (Array.getElem?_eq_some_iff.1 h1).1).trans h1
  have hP : W.heap[w.heap.size + 1]? = some (.cells (enC p).toArray 40 (0, 0)) := by
    rw [hW]
    have h1 := heap_alloc_last (w.alloc (.cells (hdC h).toArray 23)) (.cells (enC p).toArray 40)
    simpa using h1
  obtain ⟨htW, hgW⟩ := ht.blk hg bW
  have hbg := begun6_any W htW hgW
  have HL := Hid.mk (And.intro ht (And.intro hg (And.intro hl (And.intro hcap (And.intro hv hvl)))))
  obtain ⟨n, hn⟩ : ∃ n, n = l.length := ⟨_, rfl⟩
  obtain ⟨mm, hm⟩ : ∃ mm, mm = vs.length := ⟨_, rfl⟩
  rw [← hn, ← hm]
  have HN := Hid.mk (And.intro hn hm)
  clear ht hg hl hcap hv hvl htW hgW hn hm
  obtain ⟨wd, t, bt, lo, hi, cn⟩ := h
  obtain ⟨pv, pc, pi, ps, pd⟩ := p
  simp only [hdC, enC] at hW hH hP ⊢
  have HW := Hid.mk hW
  clear hW
  go_enter Tryd.func5, Tryd.ntmps5
  go_wp2_with fail
  rw [← HW.out]
  refine hbg.mono ?_
  clear hbg
  rintro r w1 ⟨rfl, b1⟩
  have hH1 : w1.heap[w.heap.size]? = _ := (b1.block _ (Array.getElem?_eq_some_iff.1 hH).1).trans hH
  have hP1 : w1.heap[w.heap.size + 1]? = _ := (b1.block _ (Array.getElem?_eq_some_iff.1 hP).1).trans hP
  have bw1 := chain bW b1 (Nat.le_refl _)
  obtain ⟨ht1, hg1⟩ := HL.out.1.blk HL.out.2.1 bw1
  have hbd := build_any ⟨wd, t, bt, lo, hi, cn⟩ l la cap w1 ht1 (HL.out.2.2.1.below bw1) HL.out.2.2.2.1
  simp only [hdC] at hbd
  rw [← HN.out.1] at hbd
  have x0 : w1.cell? ⟨w.heap.size, 0, none⟩ = some (.int .i64 wd) := by rw [cell_of_row _ _ 0 _ _ (0, 0) hH1]; rfl
  have x1 : w1.cell? ⟨w.heap.size, 1, none⟩ = some (.int .i64 t) := by rw [cell_of_row _ _ 1 _ _ (0, 0) hH1]; rfl
  have x2 : w1.cell? ⟨w.heap.size, 2, none⟩ = some (.int .i64 bt) := by rw [cell_of_row _ _ 2 _ _ (0, 0) hH1]; rfl
  have x3 : w1.cell? ⟨w.heap.size, 3, none⟩ = some (.int .i64 lo) := by rw [cell_of_row _ _ 3 _ _ (0, 0) hH1]; rfl
  have x4 : w1.cell? ⟨w.heap.size, 4, none⟩ = some (.int .i64 hi) := by rw [cell_of_row _ _ 4 _ _ (0, 0) hH1]; rfl
  have x5 : w1.cell? ⟨w.heap.size, 5, none⟩ = some (.int .i64 cn) := by rw [cell_of_row _ _ 5 _ _ (0, 0) hH1]; rfl
  have H1 := Hid.mk (And.intro hP1 bw1)
  clear hH1 hP1 bw1 ht1 hg1 b1 bW hH hP HW
  by_cases hE : bdE ⟨wd, t, bt, lo, hi, cn⟩ l = 0
  · have hT2 : bdT ⟨wd, t, bt, lo, hi, cn⟩ l = fileT ⟨wd, t, bt, lo, hi, cn⟩ l := by unfold bdT; rw [if_pos hE]
    rw [hE, hT2] at hbd
    have HE := Hid.mk hE
    clear hE hT2
    go_wp2_with fail
    refine hbd.mono ?_
    clear hbd
    rintro r w2 ⟨rfl, b2⟩
    have bw2 := chain H1.out.2 b2 (Nat.le_refl _)
    obtain ⟨ht2, hg2⟩ := HL.out.1.blk HL.out.2.1 bw2
    have hop := open_few ⟨wd, t, bt, lo, hi, cn⟩ l w2 ht2 hg2 HE.out
    clear ht2 hg2
    go_wp2_with fail
    refine hop.mono ?_
    clear hop
    rintro r w3 ⟨b3, fb, bv, iv, bl, ix, rfl, hfw, hF, P, hsm, hfew⟩
    have bw3 := chain bw2 b3 (Nat.le_refl _)
    have hfb : w.heap.size + 2 ≤ fb ∧ w1.heap.size ≤ fb := by
      have h1 := (Array.getElem?_eq_some_iff.1 H1.out.1).1
      have h2 := b2.size
      omega
    have hok := bdE_ok HE.out
    have hwd := isW_bd (hdE0 hok.1).1
    have H3 := Hid.mk (And.intro P (And.intro hsm (And.intro hfew (And.intro hfb (And.intro hok.2.1 hwd)))))
    have HF := Hid.mk (And.intro hF (And.intro bw3 (chain b2 b3 (Nat.le_refl _))))
    clear hfw hF P hsm hfew hfb hok hwd bw2 bw3 b2 b3 x0 x1 x2 x3 x4 x5
    go_wp2
    go_loopw [16, 17, 18] (fun u _ _ wr => FndI w w1 fb { (⟨wd, t, bt, lo, hi, cn⟩ : Hd) with n := l.length } bl ix bv iv mm u wr) (fun u _ _ _ => mm - (intOf u).toNat)
    case atStart => exact ⟨0, 0, rfl, Nat.zero_le _, Nat.zero_le _, HF.out.1, HF.out.2.1, HF.out.2.2⟩
    case round =>
      obtain ⟨i, rd, rfl, hi', hrd, hF, hb, hb1⟩ := hrel
      obtain ⟨wz, hwz⟩ : ∃ wz, wz = wr := ⟨_, rfl⟩
      subst hwz
      by_cases hlt : i < mm
      · have hiv : i < vs.length := by have := HN.out.2; omega
        have hq : vs[i]? = some vs[i] := List.getElem?_eq_getElem hiv
        obtain ⟨g, off, e, hc⟩ := HL.out.2.2.2.2.1 i _ hq
        generalize vs[i] = q at hc
        have hcr := cell_lat hb hc
        have i1 : (i : Int) < (mm : Int) := by omega
        have i2 : 0 ≤ (i : Int) := by omega
        have hrb : rd + bl.length ≤ 4611686018427387904 := by have := HL.out.2.2.2.2.2; have := H3.out.2.2.1; omega
        have HR := Hid.mk (And.intro hrd (And.intro hb (And.intro hb1 (And.intro hF hrb))))
        rw [e]
        clear hq hiv hc e hrd hb hb1 hF hrb hi'
        go_wp2
        go_loopw [17, 18] (fun v u wr => PickI wz (hitV q) l v u wr) (fun _ u _ => n - (intOf u).toNat)
        case atStart => exact ⟨0, rfl, Nat.zero_le _, by simpa [hitV] using row_nil wz, (fun j hj => by cases hj), Below.refl _ _⟩
        case round =>
          obtain ⟨k, rfl, hk, hrow, hown, hbz⟩ := hrel
          have hnl := HN.out.1
          by_cases hkn : k < n
          · have hkl : k < l.length := by omega
            have hne : l ≠ [] := fun h => by rw [h] at hkl; simp at hkl
            obtain ⟨g2, o2, e2, r2⟩ := (HL.out.2.2.1.below (HR.out.2.1.trans (hbz.mono HR.out.2.1.size))).at' hne
            obtain ⟨y0, y1, y2, y3, y4⟩ := row_en r2 (rfl : wr.heap[g2]? = wr.heap[g2]?) k hkl
            obtain ⟨x, hx⟩ : ∃ x, x = l[k] := ⟨_, rfl⟩
            rw [← hx] at y0 y1 y2 y3 y4
            have hcr2 := cell_lat hbz hcr
            have k1 : (k : Int) < (n : Int) := by omega
            have k2 : 0 ≤ (k : Int) := by omega
            have hxk : l[k]? = some x := by rw [hx]; exact List.getElem?_eq_getElem hkl
            have HK := Hid.mk (And.intro hrow (And.intro hown (And.intro hbz hxk)))
            rw [e2]
            clear r2 e2 hne hx hkl hrow hown hbz hnl hk hxk
            have hlk : (hitV q (l.take k)).length ≤ 2097152 := by have h1 := hitV_le q (l.take k); have h2 := List.length_take_le k l; have h3 := H3.out.2.2.2.2.1; have h4 := List.length_take_le' k l; omega
            have HLK := Hid.mk hlk
            clear hlk
            have hend : n - (intOf (.int .i64 ((k : Int) + 1))).toNat < n - (intOf (.int .i64 (k : Int))).toNat := by simp only [intOf]; omega
            have HEnd := Hid.mk hend
            clear hend
            have hwk := wrap_up2 k (by have := HN.out.1; have := H3.out.2.2.2.2.1; omega)
            by_cases hxq : x.v = q
            · have HXQ := Hid.mk hxq
              have hxq' : (x.v == q) = true := by simp [hxq]
              clear hxq
              go_wp2
              go_quiet (fail)
              obtain ⟨W2, hW2⟩ : ∃ W2, W2 = wr.drewN nq := ⟨_, rfl⟩
              have b2 : Below wr.heap.size wr W2 := by rw [hW2]; exact Drew.below (a := wr) ⟨nq, rfl⟩ _
              rw [← hW2]
              clear hW2
              obtain ⟨v', w', hr, hrow', hown', hb'⟩ := pick_put HK.out.1 HK.out.2.1 HK.out.2.2.1 b2 x HLK.out
              rw [← hit_yes q l k x HK.out.2.2.2 HXQ.out] at hrow'
              replace y0 := cell_lat b2 y0
              replace y1 := cell_lat b2 y1
              replace y2 := cell_lat b2 y2
              replace y3 := cell_lat b2 y3
              replace y4 := cell_lat b2 y4
              have HF' := Hid.mk (And.intro hrow' (And.intro hown' hb'))
              simp only [enV] at hr
              clear hrow' hown' hb' b2 hcr2
              go_wp2_with (at_builtin; refine wpList_append_eq rfl _ _ _ _ rfl _ _ _ _ rfl rfl hr ?_; clear hr)
              rw [hwk]
              exact ⟨⟨k + 1, rfl, by have := HN.out.1; omega, HF'.out.1, HF'.out.2.1, HF'.out.2.2⟩, HEnd.out⟩
            · have HXQ := Hid.mk hxq
              have hxq' : (x.v == q) = false := by simp [hxq]
              clear hxq
              go_wp2
              go_quiet (fail)
              have b2 : Below wr.heap.size wr (wr.drewN nq) := Drew.below (a := wr) ⟨nq, rfl⟩ _
              have hrow' := row_kept (F := fun _ => False) HK.out.1 (.below b2) (fun _ _ h => h)
              rw [← hit_no q l k x HK.out.2.2.2 HXQ.out] at hrow'
              have HF' := Hid.mk (And.intro hrow' (chain HK.out.2.2.1 b2 (Nat.le_refl _)))
              clear hrow' b2
              go_wp2
              rw [hwk]
              exact ⟨⟨k + 1, rfl, by have := HN.out.1; omega, HF'.out.1, HK.out.2.1, HF'.out.2⟩, HEnd.out⟩
          · have hkn' : k = n := by omega
            have hlk : l.take k = l := List.take_of_length_le (by omega)
            rw [hlk] at hrow
            have hF5 := HR.out.2.2.2.1.below hbz
            have hf := find_any fb _ bl ix bv iv rd q wr hF5 H3.out.2.2.2.2.2 H3.out.2.1 H3.out.1.len H3.out.1.upix HR.out.2.2.2.2
            have hcr2 := cell_lat hbz hcr
            have k1 : ¬ (k : Int) < (n : Int) := by omega
            have HK := Hid.mk (And.intro hrow (And.intro hown (And.intro hbz hF5)))
            clear hlk hkn' hrow hown hbz hF5 hnl hk hkn
            go_wp2_with fail
            refine hf.mono ?_
            clear hf
            rintro r w5 ⟨v5, t5, L5, rfl, hO, hrow5, hfr, hF5, st5⟩
            have hL5 := H3.out.1.find (fun e he => (bdE_ok HE.out).2.2.2 e he |>.i.1) hO
            have ht5 := FndO_le hO
            have hle : t5 ≤ bl.length := Nat.le_trans ht5 (by rw [List.length_drop]; omega)
            rw [hL5] at hrow5
            obtain ⟨la5, ca5, rfl, hc5, LA5⟩ := lat_row hrow5
            have hrw5 := row_kept HK.out.1 st5 (fun j hj e => by
              obtain ⟨c, hc⟩ := row_block HK.out.1 hj
              rw [e, HK.out.2.2.2.box] at hc; simp at hc)
            obtain ⟨lw, cw, hw5, hcw, LW⟩ := lat_row hrw5
            subst hw5
            have hsm := same6_any (hitV q l) la5 lw ca5 cw w5 LA5 LW (by have h1 := hitV_le q l; have h2 := H3.out.2.2.2.2.1; omega)
            have HS := Hid.mk (And.intro hF5 (And.intro st5 hle))
            clear hrow5 hrw5 hO ht5 hle hL5 hfr hF5 st5 hc5 LA5 LW hcw
            go_wp2_with fail
            refine hsm.mono ?_
            clear hsm
            rintro r w6 ⟨rfl, d6⟩
            have b6 := d6.below w5.heap.size
            have bz5 : Below w.heap.size w w5 := (HR.out.2.1.trans (HK.out.2.2.1.mono HR.out.2.1.size)).trans (HS.out.2.1.toBelow (fun j hj e => by have := H3.out.2.2.2.1.1; omega) (Nat.le_trans HR.out.2.1.size HK.out.2.2.1.size))
            have bz1 : Below w1.heap.size w1 w5 := (HR.out.2.2.1.trans (HK.out.2.2.1.mono HR.out.2.2.1.size)).trans (HS.out.2.1.toBelow (fun j hj e => by have := H3.out.2.2.2.1.2; omega) (Nat.le_trans HR.out.2.2.1.size HK.out.2.2.1.size))
            have fin : FndI w w1 fb { (⟨wd, t, bt, lo, hi, cn⟩ : Hd) with n := l.length } bl ix bv iv mm (.int .i64 ((i : Int) + 1)) w6 := ⟨i + 1, rd + t5, rfl, hlt, by have := HS.out.2.2; have := H3.out.2.2.1; have := HR.out.1; omega, HS.out.1.below b6, chain bz5 b6 (Nat.le_refl _), chain bz1 b6 (Nat.le_refl _)⟩
            have HX := Hid.mk fin
            clear fin b6 d6 bz5 bz1
            have hwu := wrap_up2 i (by have := HN.out.2; have := HL.out.2.2.2.2.2; omega)
            have hend : mm - (intOf (.int .i64 ((i : Int) + 1))).toNat < mm - (intOf (.int .i64 (i : Int))).toNat := by simp only [intOf]; omega
            go_wp2
            first | exact ⟨HX.out, hend⟩ | (rw [hwu]; exact ⟨HX.out, hend⟩)
      · have HR := Hid.mk (And.intro hF (And.intro hb (And.intro hb1 (show rd ≤ i * 131072 ∧ i ≤ mm from ⟨hrd, hi'⟩))))
        have i1 : ¬ (i : Int) < (mm : Int) := by omega
        clear hF hb hb1 hrd hi' hlt
        go_wp2
        go_loopw [19, 20] (fun v u wr => PickM wz ⟨pv, pc, pi, ps, pd⟩ mo l v u wr) (fun _ u _ => n - (intOf u).toNat)
        case atStart => exact ⟨0, rfl, Nat.zero_le _, by simpa [geV] using row_nil wz, (fun j hj => by cases hj), Below.refl _ _, by simp [geV]; omega⟩
        case round =>
          obtain ⟨k, rfl, hk, hrow, hown, hbz, hmx⟩ := hrel
          have hnl := HN.out.1
          obtain ⟨nv, nc, hnv, hncap⟩ := slice_form hrow
          subst hnv
          obtain ⟨L, hL⟩ : ∃ L, L = (geV ⟨pv, pc, pi, ps, pd⟩ (l.take k)).length := ⟨_, rfl⟩
          rw [← hL]
          have hPr : wr.heap[w.heap.size + 1]? = _ := (hbz.block _ (by have h1 := (Array.getElem?_eq_some_iff.1 H1.out.1).1; have h2 := HR.out.2.2.1.size; omega)).trans ((HR.out.2.2.1.block _ (Array.getElem?_eq_some_iff.1 H1.out.1).1).trans H1.out.1)
          have q0 : wr.cell? ⟨w.heap.size + 1, 0, none⟩ = some (.int .i64 pv) := by rw [cell_of_row _ _ 0 _ _ (0, 0) hPr]; rfl
          have q1 : wr.cell? ⟨w.heap.size + 1, 1, none⟩ = some (.string pc) := by rw [cell_of_row _ _ 1 _ _ (0, 0) hPr]; rfl
          have q2 : wr.cell? ⟨w.heap.size + 1, 2, none⟩ = some (.int .i64 pi) := by rw [cell_of_row _ _ 2 _ _ (0, 0) hPr]; rfl
          have q3 : wr.cell? ⟨w.heap.size + 1, 3, none⟩ = some (.int .i64 ps) := by rw [cell_of_row _ _ 3 _ _ (0, 0) hPr]; rfl
          have q4 : wr.cell? ⟨w.heap.size + 1, 4, none⟩ = some (.bool pd) := by rw [cell_of_row _ _ 4 _ _ (0, 0) hPr]; rfl
          clear hPr
          by_cases hgo : k < n ∧ (L : Int) < mo
          · obtain ⟨hkn, hLm⟩ := hgo
            have hkl : k < l.length := by omega
            have hne : l ≠ [] := fun h => by rw [h] at hkl; simp at hkl
            obtain ⟨g2, o2, e2, r2⟩ := (HL.out.2.2.1.below (HR.out.2.1.trans (hbz.mono HR.out.2.1.size))).at' hne
            obtain ⟨y0, y1, y2, y3, y4⟩ := row_en r2 (rfl : wr.heap[g2]? = wr.heap[g2]?) k hkl
            obtain ⟨x, hx⟩ : ∃ x, x = l[k] := ⟨_, rfl⟩
            rw [← hx] at y0 y1 y2 y3 y4
            have k1 : (k : Int) < (n : Int) := by omega
            have k2 : 0 ≤ (k : Int) := by omega
            have hxk : l[k]? = some x := by rw [hx]; exact List.getElem?_eq_getElem hkl
            have hlk : (geV ⟨pv, pc, pi, ps, pd⟩ (l.take k)).length ≤ 2097152 := by have h1 := geV_le ⟨pv, pc, pi, ps, pd⟩ (l.take k); have h3 := H3.out.2.2.2.2.1; have h4 := List.length_take_le' k l; omega
            have HK := Hid.mk (And.intro hrow (And.intro hown (And.intro hbz (And.intro hxk (And.intro hlk (And.intro hL (And.intro hmx hLm)))))))
            have hend : n - (intOf (.int .i64 ((k : Int) + 1))).toNat < n - (intOf (.int .i64 (k : Int))).toNat := by simp only [intOf]; omega
            have HEnd := Hid.mk hend
            have hwk := wrap_up2 k (by have := H3.out.2.2.2.2.1; omega)
            have hls := less6_any x ⟨pv, pc, pi, ps, pd⟩ wr.drew
            simp only [enC] at hls
            rw [e2]
            have HKN := Hid.mk hkn
            clear r2 e2 hne hx hkl hrow hown hbz hnl hk hxk hlk hend hL hmx hkn
            cases hlsb : lsB x ⟨pv, pc, pi, ps, pd⟩ with
            | false =>
              rw [hlsb] at hls
              go_wp2_with fail
              refine wp_region_held_drew (S := (fun w' => w'.cell? ⟨g2, o2 + k * 5, none⟩ = some (.int .i64 x.v) ∧ w'.cell? ⟨g2, o2 + k * 5 + 1, none⟩ = some (.string x.c) ∧ w'.cell? ⟨g2, o2 + k * 5 + 2, none⟩ = some (.int .i64 x.i) ∧ w'.cell? ⟨g2, o2 + k * 5 + 3, none⟩ = some (.int .i64 x.s) ∧ w'.cell? ⟨g2, o2 + k * 5 + 4, none⟩ = some (.bool x.d) ∧ w'.cell? ⟨w.heap.size + 1, 0, none⟩ = some (.int .i64 pv) ∧ w'.cell? ⟨w.heap.size + 1, 1, none⟩ = some (.string pc) ∧ w'.cell? ⟨w.heap.size + 1, 2, none⟩ = some (.int .i64 pi) ∧ w'.cell? ⟨w.heap.size + 1, 3, none⟩ = some (.int .i64 ps) ∧ w'.cell? ⟨w.heap.size + 1, 4, none⟩ = some (.bool pd))) (by kernel_rfl) ?_ (fun hHeld => ?_)
              · exact ⟨y0, y1, y2, y3, y4, q0, q1, q2, q3, q4⟩
              refine wpAnyH_take (i := 0) (oi := { dst := some 96, op := Op.move (Operand.tmp 1), type := 24, pos := "plain.go:82", after := #[], guard := none }) (v := ?va0) rfl (by kernel_rfl) (by kernel_rfl) (by kernel_rfl) (fun _ _ _ h => h) (Or.inl ⟨by rfl, ?ha0⟩) (by assumption) ?ra0
              case ha0 => (intro w0 hSw; (try dsimp only at hSw); go_simp; try (with_reducible rfl))
              simp only [Act.put, List.setIfInBounds_toArray, List.set_cons_zero, List.set_cons_succ]
              refine wpAnyH_take (i := 1) (oi := { dst := some 97, op := Op.move (Operand.tmp 20), type := 3, pos := "plain.go:82", after := #[], guard := none }) (v := ?va1) rfl (by kernel_rfl) (by kernel_rfl) (by kernel_rfl) (fun _ _ _ h => h) (Or.inl ⟨by rfl, ?ha1⟩) (by assumption) ?ra1
              case ha1 => (intro w0 hSw; (try dsimp only at hSw); go_simp; try (with_reducible rfl))
              simp only [Act.put, List.setIfInBounds_toArray, List.set_cons_zero, List.set_cons_succ]
              refine wpAnyH_take (i := 2) (oi := { dst := some 98, op := Op.indexAddr 24 (Operand.tmp 96) (Operand.tmp 97), type := 0, pos := "plain.go:82", after := #[{ on := 0, ground := Ground.data }, { on := 1, ground := Ground.data }], guard := none }) (v := ?va2) rfl (by kernel_rfl) (by kernel_rfl) (by kernel_rfl) (fun _ _ _ h => h) (Or.inl ⟨by rfl, ?ha2⟩) (by assumption) ?ra2
              case ha2 => (intro w0 hSw; (try dsimp only at hSw); go_simp; try (with_reducible rfl))
              simp only [Act.put, List.setIfInBounds_toArray, List.set_cons_zero, List.set_cons_succ]
              refine wpAnyH_take (i := 3) (oi := { dst := some 99, op := Op.load 40 (Operand.tmp 98), type := 40, pos := "plain.go:82", after := #[{ on := 2, ground := Ground.data }], guard := none }) (v := ?va3) rfl (by kernel_rfl) (by kernel_rfl) (by kernel_rfl) (fun _ _ _ h => h) (Or.inl ⟨by rfl, ?ha3⟩) (by assumption) ?ra3
              case ha3 => (intro w0 hSw; (try dsimp only at hSw); go_simp; try (with_reducible rfl))
              simp only [Act.put, List.setIfInBounds_toArray, List.set_cons_zero, List.set_cons_succ]
              refine wpAnyH_take (i := 4) (oi := { dst := some 100, op := Op.load 40 (Operand.tmp 8), type := 40, pos := "plain.go:82", after := #[], guard := none }) (v := ?va4) rfl (by kernel_rfl) (by kernel_rfl) (by kernel_rfl) (fun _ _ _ h => h) (Or.inl ⟨by rfl, ?ha4⟩) (by assumption) ?ra4
              case ha4 => (intro w0 hSw; (try dsimp only at hSw); go_simp; try (with_reducible rfl))
              simp only [Act.put, List.setIfInBounds_toArray, List.set_cons_zero, List.set_cons_succ]
              refine wpAnyH_ready (rs := [5]) (by kernel_rfl) (by simp) ?_
              refine AllReadyH.cons rfl (fun K hK => ?_) AllReadyH.nil
              go_simp
              go_wp2_with (go_at_call 15; refine hls.mono ?_; clear hls; rintro r w6 ⟨rfl, b6⟩)
              refine hK.out _ _ ?_ (fun hHeld => ?_)
              · exact ⟨cell_lat b6 y0, cell_lat b6 y1, cell_lat b6 y2, cell_lat b6 y3, cell_lat b6 y4, cell_lat b6 q0, cell_lat b6 q1, cell_lat b6 q2, cell_lat b6 q3, cell_lat b6 q4⟩
              clear hK K
              refine wpAnyH_take (i := 6) (oi := { dst := some 102, op := Op.unOp UnOp.not 4 (Operand.tmp 101), type := 4, pos := "plain.go:82", after := #[{ on := 5, ground := Ground.data }], guard := none }) (v := ?va6) rfl (by kernel_rfl) (by kernel_rfl) (by kernel_rfl) (fun _ _ _ h => h) (Or.inl ⟨by rfl, ?ha6⟩) (by assumption) ?ra6
              case ha6 => (intro w0 hSw; (try dsimp only at hSw); go_simp; try (with_reducible rfl))
              simp only [Act.put, List.setIfInBounds_toArray, List.set_cons_zero, List.set_cons_succ]
              refine wpAnyH_done (by kernel_rfl) ?_ _
              have b2 : Below wr.heap.size wr w6 := chain (b_drew wr) b6 (Nat.le_refl _)
              obtain ⟨v', w', hr, hrow', hown', hb'⟩ := pick_put HK.out.1 HK.out.2.1 HK.out.2.2.1 b2 x HK.out.2.2.2.2.1
              rw [← ge_yes _ l k x HK.out.2.2.2.1 hlsb] at hrow'
              replace y0 := cell_lat b2 y0
              replace y1 := cell_lat b2 y1
              replace y2 := cell_lat b2 y2
              replace y3 := cell_lat b2 y3
              replace y4 := cell_lat b2 y4
              have hmx' : ((geV ⟨pv, pc, pi, ps, pd⟩ (l.take (k + 1))).length : Int) ≤ max mo 0 := by
                rw [ge_yes _ l k x HK.out.2.2.2.1 hlsb, List.length_append]
                have h1 := HK.out.2.2.2.2.2.1
                have h2 := HK.out.2.2.2.2.2.2.2
                simp only [List.length_singleton]
                omega
              have HF' := Hid.mk (And.intro hrow' (And.intro hown' (And.intro hb' hmx')))
              rw [← HK.out.2.2.2.2.2.1] at hr
              simp only [enV] at hr
              obtain ⟨V9, hV9⟩ : ∃ V9, V9 = Value.slice nv L nc := ⟨_, rfl⟩
              rw [← hV9] at hr ⊢
              clear hV9
              clear hrow' hown' hb' b2 hmx' q0 q1 q2 q3 q4 b6
              go_wp2_with (at_builtin; refine wpList_append_eq rfl _ _ _ _ rfl _ _ _ _ rfl rfl hr ?_; clear hr)
              rw [hwk]
              exact ⟨⟨k + 1, rfl, by have := HN.out.1; have := HKN.out; omega, HF'.out.1, HF'.out.2.1, HF'.out.2.2.1, HF'.out.2.2.2⟩, HEnd.out⟩
            | true =>
              rw [hlsb] at hls
              go_wp2_with fail
              refine wp_region_held_drew (S := (fun w' => w'.cell? ⟨g2, o2 + k * 5, none⟩ = some (.int .i64 x.v) ∧ w'.cell? ⟨g2, o2 + k * 5 + 1, none⟩ = some (.string x.c) ∧ w'.cell? ⟨g2, o2 + k * 5 + 2, none⟩ = some (.int .i64 x.i) ∧ w'.cell? ⟨g2, o2 + k * 5 + 3, none⟩ = some (.int .i64 x.s) ∧ w'.cell? ⟨g2, o2 + k * 5 + 4, none⟩ = some (.bool x.d) ∧ w'.cell? ⟨w.heap.size + 1, 0, none⟩ = some (.int .i64 pv) ∧ w'.cell? ⟨w.heap.size + 1, 1, none⟩ = some (.string pc) ∧ w'.cell? ⟨w.heap.size + 1, 2, none⟩ = some (.int .i64 pi) ∧ w'.cell? ⟨w.heap.size + 1, 3, none⟩ = some (.int .i64 ps) ∧ w'.cell? ⟨w.heap.size + 1, 4, none⟩ = some (.bool pd))) (by kernel_rfl) ?_ (fun hHeld => ?_)
              · exact ⟨y0, y1, y2, y3, y4, q0, q1, q2, q3, q4⟩
              refine wpAnyH_take (i := 0) (oi := { dst := some 96, op := Op.move (Operand.tmp 1), type := 24, pos := "plain.go:82", after := #[], guard := none }) (v := ?vb0) rfl (by kernel_rfl) (by kernel_rfl) (by kernel_rfl) (fun _ _ _ h => h) (Or.inl ⟨by rfl, ?hb0⟩) (by assumption) ?rb0
              case hb0 => (intro w0 hSw; (try dsimp only at hSw); go_simp; try (with_reducible rfl))
              simp only [Act.put, List.setIfInBounds_toArray, List.set_cons_zero, List.set_cons_succ]
              refine wpAnyH_take (i := 1) (oi := { dst := some 97, op := Op.move (Operand.tmp 20), type := 3, pos := "plain.go:82", after := #[], guard := none }) (v := ?vb1) rfl (by kernel_rfl) (by kernel_rfl) (by kernel_rfl) (fun _ _ _ h => h) (Or.inl ⟨by rfl, ?hb1⟩) (by assumption) ?rb1
              case hb1 => (intro w0 hSw; (try dsimp only at hSw); go_simp; try (with_reducible rfl))
              simp only [Act.put, List.setIfInBounds_toArray, List.set_cons_zero, List.set_cons_succ]
              refine wpAnyH_take (i := 2) (oi := { dst := some 98, op := Op.indexAddr 24 (Operand.tmp 96) (Operand.tmp 97), type := 0, pos := "plain.go:82", after := #[{ on := 0, ground := Ground.data }, { on := 1, ground := Ground.data }], guard := none }) (v := ?vb2) rfl (by kernel_rfl) (by kernel_rfl) (by kernel_rfl) (fun _ _ _ h => h) (Or.inl ⟨by rfl, ?hb2⟩) (by assumption) ?rb2
              case hb2 => (intro w0 hSw; (try dsimp only at hSw); go_simp; try (with_reducible rfl))
              simp only [Act.put, List.setIfInBounds_toArray, List.set_cons_zero, List.set_cons_succ]
              refine wpAnyH_take (i := 3) (oi := { dst := some 99, op := Op.load 40 (Operand.tmp 98), type := 40, pos := "plain.go:82", after := #[{ on := 2, ground := Ground.data }], guard := none }) (v := ?vb3) rfl (by kernel_rfl) (by kernel_rfl) (by kernel_rfl) (fun _ _ _ h => h) (Or.inl ⟨by rfl, ?hb3⟩) (by assumption) ?rb3
              case hb3 => (intro w0 hSw; (try dsimp only at hSw); go_simp; try (with_reducible rfl))
              simp only [Act.put, List.setIfInBounds_toArray, List.set_cons_zero, List.set_cons_succ]
              refine wpAnyH_take (i := 4) (oi := { dst := some 100, op := Op.load 40 (Operand.tmp 8), type := 40, pos := "plain.go:82", after := #[], guard := none }) (v := ?vb4) rfl (by kernel_rfl) (by kernel_rfl) (by kernel_rfl) (fun _ _ _ h => h) (Or.inl ⟨by rfl, ?hb4⟩) (by assumption) ?rb4
              case hb4 => (intro w0 hSw; (try dsimp only at hSw); go_simp; try (with_reducible rfl))
              simp only [Act.put, List.setIfInBounds_toArray, List.set_cons_zero, List.set_cons_succ]
              refine wpAnyH_ready (rs := [5]) (by kernel_rfl) (by simp) ?_
              refine AllReadyH.cons rfl (fun K hK => ?_) AllReadyH.nil
              go_simp
              go_wp2_with (go_at_call 15; refine hls.mono ?_; clear hls; rintro r w6 ⟨rfl, b6⟩)
              refine hK.out _ _ ?_ (fun hHeld => ?_)
              · exact ⟨cell_lat b6 y0, cell_lat b6 y1, cell_lat b6 y2, cell_lat b6 y3, cell_lat b6 y4, cell_lat b6 q0, cell_lat b6 q1, cell_lat b6 q2, cell_lat b6 q3, cell_lat b6 q4⟩
              clear hK K
              refine wpAnyH_take (i := 6) (oi := { dst := some 102, op := Op.unOp UnOp.not 4 (Operand.tmp 101), type := 4, pos := "plain.go:82", after := #[{ on := 5, ground := Ground.data }], guard := none }) (v := ?vb6) rfl (by kernel_rfl) (by kernel_rfl) (by kernel_rfl) (fun _ _ _ h => h) (Or.inl ⟨by rfl, ?hb6⟩) (by assumption) ?rb6
              case hb6 => (intro w0 hSw; (try dsimp only at hSw); go_simp; try (with_reducible rfl))
              simp only [Act.put, List.setIfInBounds_toArray, List.set_cons_zero, List.set_cons_succ]
              refine wpAnyH_done (by kernel_rfl) ?_ _
              have b2 : Below wr.heap.size wr w6 := chain (b_drew wr) b6 (Nat.le_refl _)
              have hrow' := row_kept (F := fun _ => False) HK.out.1 (.below b2) (fun _ _ h => h)
              have hmx' := HK.out.2.2.2.2.2.2.1
              rw [← ge_no _ l k x HK.out.2.2.2.1 hlsb] at hrow' hmx'
              have hLL := HK.out.2.2.2.2.2.1
              rw [← ge_no _ l k x HK.out.2.2.2.1 hlsb] at hLL
              rw [← hLL] at hrow'
              have HF' := Hid.mk (And.intro hrow' (And.intro (chain HK.out.2.2.1 b2 (Nat.le_refl _)) (And.intro hmx' hLL)))
              clear hrow' b2 hmx' hLL b6 y0 y1 y2 y3 y4 q0 q1 q2 q3 q4
              go_wp2
              rw [hwk]
              exact ⟨⟨k + 1, rfl, by have := HN.out.1; have := HKN.out; omega, by rw [← HF'.out.2.2.2]; exact HF'.out.1, fun j hj => HK.out.2.1 j (by rw [HK.out.2.2.2.2.2.1] at hj; exact hj), HF'.out.2.1, HF'.out.2.2.1⟩, HEnd.out⟩
          · have hdone := ge_done ⟨pv, pc, pi, ps, pd⟩ l k mo hmx (by
              rcases Nat.lt_or_ge k n with h | h
              · right; intro h2; exact hgo ⟨h, by rw [hL]; exact h2⟩
              · left; omega)
            have hlk : (geV ⟨pv, pc, pi, ps, pd⟩ (l.take k)).length < 4611686018427387904 := by have h1 := geV_le ⟨pv, pc, pi, ps, pd⟩ (l.take k); have h3 := H3.out.2.2.2.2.1; have h4 := List.length_take_le' k l; omega
            have HK := Hid.mk (And.intro hrow (And.intro (HR.out.2.1.trans (hbz.mono HR.out.2.1.size)) (And.intro hL (And.intro (HR.out.1.below hbz) (And.intro hdone (And.intro hlk (show rd + bl.length ≤ 4611686018427387904 by have h1 := HR.out.2.2.2; have h2 := H3.out.2.2.1; have h3 := HL.out.2.2.2.2.2; have h4 := HN.out.2; omega)))))))
            have hcase : (¬ (k : Int) < (n : Int)) ∨ ((k : Int) < (n : Int) ∧ ¬ (L : Int) < mo) := by
              rcases Nat.lt_or_ge k n with h | h
              · right; exact ⟨by omega, fun h2 => hgo ⟨h, h2⟩⟩
              · left; omega
            clear hgo hrow hown hbz hnl hL hmx hk hdone hlk
            rcases hcase with k1 | ⟨k1, l1⟩
            · by_cases hm1 : 1 ≤ mo
              · skip
                have hfr := from_any fb _ bl ix bv iv rd ⟨pv, pc, pi, ps, pd⟩ mo wr HK.out.2.2.2.1 H3.out.2.2.2.2.2 H3.out.2.1 H3.out.1.len H3.out.1.upix HK.out.2.2.2.2.2.2 hm1
                simp only [enV] at hfr
                go_wp2_with fail
                refine hfr.mono ?_
                clear hfr
                rintro r w5 ⟨v5, t5, L5, rfl, hO, hrow5, -, -, st5⟩
                have hL5 := H3.out.1.from hO
                rw [← HK.out.2.2.2.2.1] at hL5
                rw [hL5] at hrow5
                obtain ⟨la5, ca5, rfl, hc5, LA5⟩ := lat_row hrow5
                have hrw5 := row_kept HK.out.1 st5 (fun j hj e => by
                  obtain ⟨c, hc⟩ := row_block HK.out.1 hj
                  rw [e, HK.out.2.2.2.1.box] at hc; simp at hc)
                obtain ⟨lw, cw, hw5, hcw, LW⟩ := lat_row hrw5
                simp only [Value.slice.injEq] at hw5
                obtain ⟨rfl, -, rfl⟩ := hw5
                have hsm := same6_any _ la5 nv ca5 nc w5 LA5 LW HK.out.2.2.2.2.2.1
                rw [← HK.out.2.2.1] at hsm ⊢
                have bT : Below w.heap.size w w5 := HK.out.2.1.trans (st5.toBelow (fun j hj e => by have := H3.out.2.2.2.1.1; omega) HK.out.2.1.size)
                clear hrow5 hrw5 hO hL5 st5 hc5 LA5 LW hcw
                go_wp2_with (go_at_call 12; refine hsm.mono ?_; clear hsm; rintro r w6 ⟨rfl, d6⟩)
                go_ret
                exact ⟨rfl, chain bT (d6.below _) (Nat.le_refl _)⟩
              · skip
                have hfr := from_none fb ⟨pv, pc, pi, ps, pd⟩ mo wr (by omega)
                simp only [enV] at hfr
                have hnil : geV ⟨pv, pc, pi, ps, pd⟩ (l.take k) = [] := by rw [HK.out.2.2.2.2.1, show mo.toNat = 0 by omega, List.take_zero]
                have hL0 : L = 0 := by rw [HK.out.2.2.1, hnil]; rfl
                subst hL0
                go_wp2_with fail
                refine hfr.mono ?_
                clear hfr
                rintro r w5 ⟨rfl, b5⟩
                have hsm := same6_any [] none nv 0 nc w5 ⟨fun h => absurd rfl h⟩ ⟨fun h => absurd rfl h⟩ (by simp)
                simp only [List.length_nil] at hsm
                clear hnil
                go_wp2_with (go_at_call 12; refine hsm.mono ?_; clear hsm; rintro r w6 ⟨rfl, d6⟩)
                go_ret
                exact ⟨rfl, chain (chain HK.out.2.1 b5 (Nat.le_refl _)) (d6.below _) (Nat.le_refl _)⟩
            · have l2 : decide ((L : Int) < mo) = false := decide_eq_false l1
              by_cases hm1 : 1 ≤ mo
              · skip
                have hfr := from_any fb _ bl ix bv iv rd ⟨pv, pc, pi, ps, pd⟩ mo wr HK.out.2.2.2.1 H3.out.2.2.2.2.2 H3.out.2.1 H3.out.1.len H3.out.1.upix HK.out.2.2.2.2.2.2 hm1
                simp only [enV] at hfr
                go_wp2_with fail
                refine hfr.mono ?_
                clear hfr
                rintro r w5 ⟨v5, t5, L5, rfl, hO, hrow5, -, -, st5⟩
                have hL5 := H3.out.1.from hO
                rw [← HK.out.2.2.2.2.1] at hL5
                rw [hL5] at hrow5
                obtain ⟨la5, ca5, rfl, hc5, LA5⟩ := lat_row hrow5
                have hrw5 := row_kept HK.out.1 st5 (fun j hj e => by
                  obtain ⟨c, hc⟩ := row_block HK.out.1 hj
                  rw [e, HK.out.2.2.2.1.box] at hc; simp at hc)
                obtain ⟨lw, cw, hw5, hcw, LW⟩ := lat_row hrw5
                simp only [Value.slice.injEq] at hw5
                obtain ⟨rfl, -, rfl⟩ := hw5
                have hsm := same6_any _ la5 nv ca5 nc w5 LA5 LW HK.out.2.2.2.2.2.1
                rw [← HK.out.2.2.1] at hsm ⊢
                have bT : Below w.heap.size w w5 := HK.out.2.1.trans (st5.toBelow (fun j hj e => by have := H3.out.2.2.2.1.1; omega) HK.out.2.1.size)
                clear hrow5 hrw5 hO hL5 st5 hc5 LA5 LW hcw
                go_wp2_with (go_at_call 12; refine hsm.mono ?_; clear hsm; rintro r w6 ⟨rfl, d6⟩)
                go_ret
                exact ⟨rfl, chain bT (d6.below _) (Nat.le_refl _)⟩
              · skip
                have hfr := from_none fb ⟨pv, pc, pi, ps, pd⟩ mo wr (by omega)
                simp only [enV] at hfr
                have hnil : geV ⟨pv, pc, pi, ps, pd⟩ (l.take k) = [] := by rw [HK.out.2.2.2.2.1, show mo.toNat = 0 by omega, List.take_zero]
                have hL0 : L = 0 := by rw [HK.out.2.2.1, hnil]; rfl
                subst hL0
                go_wp2_with fail
                refine hfr.mono ?_
                clear hfr
                rintro r w5 ⟨rfl, b5⟩
                have hsm := same6_any [] none nv 0 nc w5 ⟨fun h => absurd rfl h⟩ ⟨fun h => absurd rfl h⟩ (by simp)
                simp only [List.length_nil] at hsm
                clear hnil
                go_wp2_with (go_at_call 12; refine hsm.mono ?_; clear hsm; rintro r w6 ⟨rfl, d6⟩)
                go_ret
                exact ⟨rfl, chain (chain HK.out.2.1 b5 (Nat.le_refl _)) (d6.below _) (Nat.le_refl _)⟩
  · have hne : (bdE ⟨wd, t, bt, lo, hi, cn⟩ l == 0) = false := beq_false_of_ne hE
    have hT2 : bdT ⟨wd, t, bt, lo, hi, cn⟩ l = [] := by unfold bdT; rw [if_neg hE]
    rw [hT2] at hbd
    generalize bdE ⟨wd, t, bt, lo, hi, cn⟩ l = E at *
    clear hE hT2
    go_wp2_with (go_at_call 9; refine hbd.mono ?_; clear hbd; rintro r w2 ⟨rfl, b2⟩)
    go_ret
    exact ⟨rfl, chain H1.out.2 b2 (Nat.le_refl _)⟩
end Go.Proofs.YtdegclccbgpgiaaDoor
set_option linter.unusedSimpArgs false
set_option linter.unusedVariables false
namespace Go.Proofs.YtdegclccbgpgiaaDoor
open Go.ChangeMaps (open_string shut_string)
open Go.ChangeShapes Go.WideShapes Go.ChangeAt Go.WideMaps Go.WideElems Go.RowKit Go.Proofs.SealMath
section
variable {H : Type} {enc : TypeId × Value → H} {P : Program} {w : World} {base : Nat} {spare : Nat → Bool} {held : Bool}
theorem trodAll_five {t t' t'' t3 t4 : TypeId} {args : Array Value} {ds : List (DataW H)} {ps : List MemPlace} (h : DataW.TrodAll enc P w base spare held [t, t', t'', t3, t4] args.toList ds ps) :
    ∃ v v' v'' v3 v4 d d' d'' d3 d4 p p' p'' p3 p4, args = #[v, v', v'', v3, v4] ∧ ds = [d, d', d'', d3, d4] ∧ ps = p ++ p' ++ p'' ++ p3 ++ p4 ∧ DataW.Trod enc P w base spare held t v d p ∧ DataW.Trod enc P w base spare held t' v' d' p' ∧ DataW.Trod enc P w base spare held t'' v'' d'' p'' ∧ DataW.Trod enc P w base spare held t3 v3 d3 p3 ∧ DataW.Trod enc P w base spare held t4 v4 d4 p4 := by
  obtain ⟨v, vs, d, ds', p, q, hargs, rfl, rfl, hd, hrest⟩ := trodAll_cons h
  obtain ⟨v', vs', d', ds'', p', q', rfl, rfl, rfl, hd', hrest'⟩ := trodAll_cons hrest
  obtain ⟨v'', vs'', d'', dsQ, p'', q'', rfl, rfl, rfl, hd'', hrest''⟩ := trodAll_cons hrest'
  obtain ⟨v3, vs3, d3, ds3, p3, q3, rfl, rfl, rfl, hd3, hrest3⟩ := trodAll_cons hrest''
  obtain ⟨v4, vs4, d4, ds4, p4, q4, rfl, rfl, rfl, hd4, hrest4⟩ := trodAll_cons hrest3
  obtain ⟨rfl, rfl, rfl⟩ := trodAll_nil hrest4
  exact ⟨v, v', v'', v3, v4, d, d', d'', d3, d4, p, p', p'', p3, p4, by cases args; simp_all, rfl, by simp, hd, hd', hd'', hd3, hd4⟩
theorem trodAll_mk5 {t t' t'' t3 t4 : TypeId} {v v' v'' v3 v4 : Value} {d d' d'' d3 d4 : DataW H} {p p' p'' p3 p4 : List MemPlace} (h : DataW.Trod enc P w base spare held t v d p) (h' : DataW.Trod enc P w base spare held t' v' d' p')
    (h'' : DataW.Trod enc P w base spare held t'' v'' d'' p'') (h3 : DataW.Trod enc P w base spare held t3 v3 d3 p3) (h4 : DataW.Trod enc P w base spare held t4 v4 d4 p4) : DataW.TrodAll enc P w base spare held [t, t', t'', t3, t4] [v, v', v'', v3, v4] [d, d', d'', d3, d4] (p ++ (p' ++ (p'' ++ (p3 ++ p4)))) := ⟨p, p' ++ (p'' ++ (p3 ++ p4)), h, trodAll_mk4 h' h'' h3 h4, rfl⟩
end
set_option maxRecDepth 100000 in
theorem found_lifted (os : Os) (started : os.Started) (H : Type) (enc : TypeId × Value → H) :
    ReturnsInHanded {} Tryd.checked os 5 .any (fun w args => (Rows.blockFoundSpec.pre enc Tryd.prog Tryd.f5 [] false w args ∧ laidMetH Tryd.prog lst w) ∧ sizedMet enc Tryd.prog Tryd.f5 (OpenSpec.ofChange Rows.blockFoundSpec) false w args)
      (Rows.blockFoundSpec.post enc Tryd.prog Tryd.f5 false true false false) := by
  refine returnsInHanded_of_change_and (C := Tryd.checked) (X := fun w _ => laidMetH Tryd.prog lst w) (fun _ _ _ hh h => h.of_heap hh) own started (by kernel_rfl) Tryd.func5
    (ChangeSpec.witness_shaped (enc := enc) (C := Tryd.checked) (os := os) (X := fun w _ => laidMetH Tryd.prog lst w) false (World.doorLaid Tryd.prog 4000 os) #[.agg #[.int .i64 0, .int .i64 0, .int .i64 0, .int .i64 0, .int .i64 0, .int .i64 0], .slice none 0 0, .slice none 0 0, .agg #[.int .i64 0, .string ⟨#[]⟩, .int .i64 0, .int .i64 0, .bool false], .int .i64 0] 8 rfl (World.shaped_of_RefB (by kernel_rfl) (by kernel_rfl)) (by kernel_rfl) (by kernel_rfl) (by kernel_rfl) (door_met os _)) ?_
  intro W base args ds gs before hval0 hW _ hsz0 hL _
  have hsz : (DataW.weightsEach Tryd.prog (Tryd.f5.params.toList ++ Rows.blockFoundSpec.plain.varTypes Tryd.prog) (ds ++ gs)).all (· ≤ reachBytes) = true := hsz0
  clear hsz0
  have hval : ∀ (j : Nat) t v, Tryd.f5.params[j]? = some t → args[j]? = some v → Value.okWide Tryd.prog W .any base t v := hval0
  have hW' := hW
  obtain ⟨p, q, hA0, hV, rfl, hfz, hnd⟩ := hW
  have hA : DataW.TrodAll enc Tryd.prog W 0 (fun _ => true) true Tryd.f5.params.toList args.toList ds p := hA0
  rw [Tryd.params5] at hA hval hsz
  obtain ⟨v0, v1, v2, v3, v4, d0, d1, d2, d3, d4, p0, p1, p2, p3, p4, rfl, rfl, rfl, h0, h1, h2, h3, h4⟩ := trodAll_five hA
  obtain ⟨rfl, rfl⟩ := trodVars_none hV
  have h0k := h0
  obtain ⟨h, rfl⟩ := open_hd (hval 0 23 v0 rfl rfl) h0
  obtain ⟨a0, len, cap, rfl⟩ := okWide_slice Tryd.underlying24 (hval 1 24 v1 rfl rfl)
  have h1k := h1
  obtain ⟨fuel, hf⟩ := h1
  obtain ⟨a2, len2, cap2, rfl⟩ := okWide_slice Tryd.underlying38 (hval 2 38 v2 rfl rfl)
  have h2k := h2
  obtain ⟨fuel2, hf2⟩ := h2
  have hs2 : ∀ n ∈ d2.weights Tryd.prog 38, n ≤ reachBytes := fun n hn => by simpa using List.all_eq_true.1 hsz n (DataW.weights_mem_each (j := 2) (t := 38) rfl rfl n hn)
  obtain ⟨vs, hl2, hL2, hB2⟩ := open_ints2 (by simpa [Value.cells] using hf2) hs2
  subst hl2
  have h3k := h3
  obtain ⟨p, rfl⟩ := open_en (hval 3 40 v3 rfl rfl) h3
  obtain ⟨m, rfl, rfl, rfl, wm⟩ := open_int Tryd.underlying3 (hval 4 3 v4 rfl rfl) h4
  clear hA0 hval0
  simp only [List.append_nil, List.nil_append] at hW'
  have hlt0 : ∀ x ∈ p0, x.block < W.heap.size := fun x hx => hW'.lt x (by simp [hx])
  have hlt1 : ∀ x ∈ p1, x.block < W.heap.size := fun x hx => hW'.lt x (by simp [hx])
  have hlt2 : ∀ x ∈ p2, x.block < W.heap.size := fun x hx => hW'.lt x (by simp [hx])
  have hlt3 : ∀ x ∈ p3, x.block < W.heap.size := fun x hx => hW'.lt x (by simp [hx])
  have ht := tab_of hL
  have hg0 := tab_pos ht
  have e1 : Rows.blockFoundSpec.fn H ([d0, d1, d2, d3, .lit (.int .i64 m)] ++ []) = { results := [.lit (.bool true)], args := [d0, d1, d2, d3, .lit (.int .i64 m)] } := by simp [Rows.blockFoundSpec]
  have fin : ∀ (e : Ending) (W' : World), (e = .returned (.bool true) ∧ Below W.heap.size W W') → ∃ v, e = .returned v ∧ Rows.blockFoundSpec.post enc Tryd.prog Tryd.f5 false true false false W #[.agg (hdC h).toArray, .slice a0 len cap, .slice a2 vs.length cap2, .agg (enC p).toArray, .int .i64 m] v W' := by
    rintro e W' ⟨rfl, hbl⟩
    refine ⟨_, rfl, _, _, _, [], p0 ++ (p1 ++ (p2 ++ p3)), [], hW', ?_, ?_, ?_, hbl.frame _, fun h => by cases h⟩
    · rw [e1]; exact trodAll_mk1 (shut_bool Tryd.underlying4 true)
    · rw [e1]; have h5 := trodAll_mk5 (Below.trod laidOut (by kernel_rfl) (of_decide_eq_true (by kernel_rfl)) h0k hbl hlt0) (Below.trod laidOut (by kernel_rfl) (of_decide_eq_true (by kernel_rfl)) h1k hbl hlt1) (Below.trod laidOut (by kernel_rfl) (of_decide_eq_true (by kernel_rfl)) h2k hbl hlt2) (Below.trod laidOut (by kernel_rfl) (of_decide_eq_true (by kernel_rfl)) h3k hbl hlt3) (shut_int Tryd.underlying3 wm); (try simp only [List.append_nil, List.nil_append] at h5); exact h5
    · rw [e1]; rfl
  have hcap := open_enc (show DataW.trod enc Tryd.prog W 0 (fun _ => true) true fuel 24 [.slice a0 len cap] = some (d1, p1) by simpa [Value.cells] using hf)
  rcases open_ens (by simpa [Value.cells] using hf) with ⟨rfl, rfl⟩ | ⟨⟨l, hl, hLl⟩, -⟩
  · exact (law_found h [] none cap vs a2 cap2 p m W ht hg0 ⟨fun h => absurd rfl h⟩ (Nat.zero_le _) hL2 hB2).mono fin
  · subst hl
    exact (law_found h l a0 cap vs a2 cap2 p m W ht hg0 hLl hcap hL2 hB2).mono fin

theorem found_row : Rows.BlockFoundSaid :=
  OpenClaim.holds_of_wide 5 Tryd.f5 rfl rfl rfl rfl rfl rfl rfl ⟨rfl, rfl, rfl, rfl, rfl⟩ rfl rfl rfl rfl rfl (by kernel_rfl) Tryd.func5 (by kernel_rfl)
    (of_decide_eq_true (by kernel_rfl)) (by unfold Func.isWrapper; rw [if_neg (of_decide_eq_false (by kernel_rfl))]; exact ⟨rfl, rfl⟩)
    (fun os started H enc _ => found_lifted os started H enc)
theorem found_holds : Rows.BlockFoundCardSaid :=
  Claim7.holds_tied_plain_at .later [] [.called] true (true, "0abfb72c16ebaf4a0467999375ad9d7ca9872b7158b3469ea3fbf7b9b295d44a") false
    found_row (fun _ h => by cases h) (by kernel_rfl) (fun _ h => by cases h) blockFound_row_tie rfl ⟨rfl, rfl⟩ (by kernel_rfl) rfl
    (fun f fn hf hfn => by
      obtain rfl : f = 5 := Option.some.inj ((show Tryd.prog.funcNamed "kindred/kindredlaw6.BlockFound" = some 5 by kernel_rfl).symm.trans hf) |>.symm
      obtain rfl : fn = Tryd.f5 := (Option.some.inj (Tryd.func5.symm.trans hfn)).symm
      exact ⟨by kernel_rfl, fun j t ht => by
        rw [Tryd.params5] at ht
        have hm : t ∈ [23, 24, 38, 40, 3] := by simpa using Array.mem_of_getElem? ht
        have hall : ([23, 24, 38, 40, 3].all fun u => !Tryd.prog.wantsStandIn u) = true := by kernel_rfl
        exact (show Tryd.prog.wantsStandIn t = false by simpa using List.all_eq_true.1 hall t hm)⟩)
    (by kernel_rfl)
#print axioms found_holds
end Go.Proofs.YtdegclccbgpgiaaDoor
