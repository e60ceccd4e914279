/-
  DERIVED. BX9, BX10, BLawH, BY0, as one text.
-/
import Derived.Test.YtjdpolhjbkpnlaaGreatDoorLzAU
import Derived.Test.YtjdpolhjbkpnlaaGreatDoorLzAS
set_option linter.unusedVariables false
set_option linter.unusedSimpArgs false
namespace Go.Proofs.YtjdpolhjbkpnlaaGreatDoor.Dx
open Go.RowKit Go.Proofs.SealMath
open Go.Proofs.YtjdpolhjbkpnlaaGreatDoor.Rb
theorem rF_le (ix : List En) (p : En) : rF ix p ≤ ix.length := by unfold rF; exact (List.takeWhile_sublist _).length_le
/-- What is in the box, and in the rows. -/
theorem RF.cells {W : World} {fb : Nat} {h : Hd} {l : List En} {lv sv : Value} {rd : Nat} (H : RF W fb h l lv sv rd) : W.cell? ⟨fb, 6, none⟩ = some lv ∧ W.cell? ⟨fb, 7, none⟩ = some sv ∧ W.cell? ⟨fb, 8, none⟩ = some (.int .i64 rd) ∧ W.frozen? ⟨fb, 8, none⟩ = false := by
  obtain ⟨-, y6, y7, y8⟩ := rf9 H.box
  exact ⟨y6, y7, by rw [cell_of_row _ _ 8 _ _ (0, 0) H.box]; rfl, by simp [World.frozen?, H.box]⟩
theorem RF.en {W : World} {fb : Nat} {h : Hd} {l : List En} {g off c : Nat} {sv : Value} {rd : Nat} (H : RF W fb h l (.slice (some ⟨g, off, none⟩) l.length c) sv rd) (i : Nat) (hi : i < l.length) :
    W.cell? ⟨g, off + i * 5, none⟩ = some (.int .i64 l[i].v) ∧ W.cell? ⟨g, off + i * 5 + 1, none⟩ = some (.string l[i].c) ∧ W.cell? ⟨g, off + i * 5 + 2, none⟩ = some (.int .i64 l[i].i) ∧ W.cell? ⟨g, off + i * 5 + 3, none⟩ = some (.int .i64 l[i].s) ∧ W.cell? ⟨g, off + i * 5 + 4, none⟩ = some (.bool l[i].d) := by
  obtain ⟨la, lc, e, -, hla⟩ := lat_row H.row
  simp only [Value.slice.injEq] at e
  obtain ⟨g', off', e2, hra⟩ := hla.at' (fun h => by rw [h] at hi; simp at hi)
  rw [← e.1] at e2
  simp only [Option.some.injEq, Addr.mk.injEq] at e2
  obtain ⟨rfl, rfl, -⟩ := e2
  exact row_en hra rfl i hi
theorem RF.sz {W : World} {fb : Nat} {h : Hd} {l : List En} {g n c : Nat} {lv : Value} {rd : Nat} (H : RF W fb h l lv (.slice (some ⟨g, 0, none⟩) n c) rd) {k : Nat} {B : List En} (hk : (Gs l)[k]? = some B) : W.cell? ⟨g, k, none⟩ = some (.int .i64 B.length) := by
  obtain ⟨sa, sc, e, hs⟩ := int_at H.szr
  simp only [Value.slice.injEq] at e
  have hkl : k < (szs l).length := by rw [szs_eq, List.length_map]; exact (List.getElem?_eq_some_iff.1 hk).1
  obtain ⟨g', e2, hc⟩ := hs k hkl
  rw [← e.1] at e2
  simp only [Option.some.injEq, Addr.mk.injEq] at e2
  obtain ⟨rfl, -⟩ := e2
  have : (szs l)[k]? = some B.length := by rw [szs_eq, List.getElem?_map, hk]; rfl
  rw [(List.getElem?_eq_some_iff.1 this).2] at hc
  exact hc
/-- What Find comes to. -/
def FiO (fb : Nat) (h : Hd) (l : List En) (lv sv : Value) (rd : Nat) (R : Nat × List En) (w : World) (r : Ending) (w' : World) : Prop :=
  ∃ v, r = .returned v ∧ w'.ownsRow 0 38 5 v R.2.length (R.2.flatMap enC) ∧ (∀ k, v.ownBlock = some k → w.heap.size ≤ k) ∧ RF w' fb h l lv sv (rd + R.1) ∧ Stay (fun k => k = fb) w w'
/-- What is kept beside the numbers: a list of the call's own, the file. -/
def FK (fb : Nat) (h : Hd) (l : List En) (lv sv : Value) (rd : Nat) (O : List En) (ov : Value) (w wr : World) : Prop :=
  wr.ownsRow 0 38 5 ov O.length (O.flatMap enC) ∧ (∀ k, ov.ownBlock = some k → w.heap.size ≤ k) ∧ RF wr fb h l lv sv rd ∧ Stay (fun k => k = fb) w wr
theorem FK.put {fb : Nat} {h : Hd} {l : List En} {lv sv : Value} {rd : Nat} {O : List En} {ov : Value} {w wr : World} (hk : FK fb h l lv sv rd O ov w wr) (hfb : fb < w.heap.size) (hlv : ∀ k, lv.ownBlock = some k → k < w.heap.size) (hsv : ∀ k, sv.ownBlock = some k → k < w.heap.size) (e : En) (hl : O.length ≤ 2097152) :
    ∃ v' w', (Builtin.append_ #[34, 34] 34 #[ov, .slice (some ⟨wr.heap.size, 0, none⟩) 1 1]).run Tryz.prog (wr.alloc (.cells (enV e) 38)) = .ok v' w' ∧ FK fb h l lv sv rd (O ++ [e]) v' w w' := by
  obtain ⟨v', w', hap, ho, st, hloc⟩ := en_app wr O ov hk.1 e (by omega)
  have hne : ∀ k, ov.ownBlock = some k → k ≠ fb := fun k hk' e => by have := hk.2.1 k hk'; omega
  refine ⟨v', w', hap, ho, fun k hk' => ?_, ?_, ?_⟩
  · rcases hloc k hk' with h1 | h1
    · exact hk.2.1 k h1
    · exact Nat.le_trans hk.2.2.2.size h1
  · refine hk.2.2.1.kept st (fun hc => hne fb hc rfl) (fun k h1 h2 => ?_) (fun k h1 h2 => ?_)
    · have := hlv k h1; have := hk.2.1 k h2; omega
    · have := hsv k h1; have := hk.2.1 k h2; omega
  · exact hk.2.2.2.andThen st (fun k hk1 hk2 => by have := hk.2.1 k hk2; omega)
theorem FK.read {fb : Nat} {h : Hd} {l : List En} {lv sv : Value} {rd : Nat} {O : List En} {ov : Value} {w wr : World} (hk : FK fb h l lv sv rd O ov w wr) (hfb : fb < w.heap.size) (n : Nat) : FK fb h l lv sv n O ov w (wr.setCell ⟨fb, 8, none⟩ (.int .i64 n)) := by
  obtain ⟨h1, h2⟩ := hk.2.2.1.more n
  exact ⟨row_kept hk.1 h2 (fun k h3 h4 => by have := hk.2.1 k h3; omega), hk.2.1, h1, hk.2.2.2.trans h2⟩
theorem FK.lat {fb : Nat} {h : Hd} {l : List En} {lv sv : Value} {rd : Nat} {O : List En} {ov : Value} {w w0 : World} (hk : FK fb h l lv sv rd O ov w w0) {wr : World} (b : Below w0.heap.size w0 wr) : FK fb h l lv sv rd O ov w wr :=
  ⟨row_kept hk.1 (Stay.below (F := fun _ => False) b) (fun _ _ e => e), hk.2.1, hk.2.2.1.below b, hk.2.2.2.trans (Stay.below b)⟩
/-- Between two blocks. -/
def FOut (fb : Nat) (h : Hd) (l : List En) (lv sv : Value) (rd : Nat) (x : Int) (k0 : Nat) (w : World) (ov av kv : Value) (wr : World) : Prop :=
  ∃ (k : Nat) (O : List En) (a : Option Addr) (c : Nat), ov = .slice a O.length c ∧ av = .int .i64 (At (Gs l) k : Nat) ∧ kv = .int .i64 k ∧ k0 ≤ k ∧ k ≤ (Gs l).length ∧ Hid (fnD x ((Gs l).drop k0) = ((k - k0) + (fnD x ((Gs l).drop k)).1, O ++ (fnD x ((Gs l).drop k)).2) ∧ FK fb h l lv sv (rd + (k - k0)) O (.slice a O.length c) w wr ∧ O.length ≤ At (Gs l) k)
/-- Within a block. -/
def FIn (fb : Nat) (h : Hd) (l : List En) (lv sv : Value) (rd : Nat) (x : Int) (A : Nat) (B O : List En) (w : World) (ov iv : Value) (wr : World) : Prop :=
  ∃ (i : Nat) (a : Option Addr) (c : Nat) (O2 : List En), ov = .slice a O2.length c ∧ iv = .int .i64 i ∧ A ≤ i ∧ i ≤ A + B.length ∧ Hid (O2 = O ++ hitV x (B.take (i - A)) ∧ FK fb h l lv sv rd O2 (.slice a O2.length c) w wr ∧ O2.length ≤ i)
theorem hitV_step (x : Int) (B : List En) (j : Nat) (h : j < B.length) : hitV x (B.take (j + 1)) = hitV x (B.take j) ++ (if B[j].v = x then [B[j]] else []) := by
  rw [List.take_succ_eq_append_getElem h, hitV_app]
  congr 1
  unfold hitV
  by_cases e : B[j].v = x <;> simp [e]
set_option maxRecDepth 100000 in
set_option maxHeartbeats 8000000 in
theorem rfind_any (fb : Nat) (h : Hd) (l : List En) (lv sv : Value) (rd : Nat) (x : Int) (ix : List En) (w : World) (H : RF w fb h l lv sv rd) (hix : ix = (Gs l).map (fun B => B.headD e0)) (hup : Up ix) (hne : ∀ B ∈ Gs l, B ≠ []) (hl : l.length ≤ 2097152) (hrd : rd + l.length ≤ 4611686018427387904) (hGl : (Gs l).length ≤ l.length) :
    Calls Tryz.prog 17 #[Pt fb, .int .i64 x] w (FiO fb h l lv sv rd (fnD x ((Gs l).drop (rF ix ⟨x, ⟨#[]⟩, -1, 0, false⟩ - 1))) w) := by
  have hlv : ∀ k, lv.ownBlock = some k → k < w.heap.size := fun k hk => row_lt H.row hk
  have hsv : ∀ k, sv.ownBlock = some k → k < w.heap.size := fun k hk => row_lt H.szr hk
  have hfb := H.lt
  have hbg := rbegin_any fb h l lv sv rd ⟨x, ⟨#[]⟩, -1, 0, false⟩ ix w H hix hup hne hl
  have hk0 : rF ix ⟨x, ⟨#[]⟩, -1, 0, false⟩ - 1 ≤ (Gs l).length := by have := rF_le ix ⟨x, ⟨#[]⟩, -1, 0, false⟩; rw [hix, List.length_map] at this; rw [hix]; omega
  obtain ⟨k0, hk0e⟩ : ∃ k0, k0 = rF ix ⟨x, ⟨#[]⟩, -1, 0, false⟩ - 1 := ⟨_, rfl⟩
  rw [← hk0e] at hbg hk0 ⊢
  obtain ⟨sa, sc, rfl, -⟩ := int_at H.szr
  obtain ⟨la, lc, rfl, -, -⟩ := lat_row H.row
  obtain ⟨n, hn⟩ : ∃ n, n = (Gs l).length := ⟨_, rfl⟩
  have hsz : (szs l).length = n := by rw [szs_eq, List.length_map, hn]
  obtain ⟨m, hm⟩ : ∃ m, m = l.length := ⟨_, rfl⟩
  simp only [enC] at hbg
  have HZ := Hid.mk (And.intro hn (And.intro hm (And.intro hne (And.intro hlv (And.intro hsv hfb)))))
  have HH := Hid.mk H
  have hn1 : n ≤ 2097152 := by omega
  have hrd2 : rd + n ≤ 4611686018427387904 := by omega
  clear hix hup hk0e hne hlv hsv H hGl hrd
  have R0 : ∀ w1, Below w.heap.size w w1 → Hid (FOut fb h l (.slice la l.length lc) (.slice sa (szs l).length sc) rd x k0 w (.slice none 0 0) (.int .i64 (At (Gs l) k0 : Nat)) (.int .i64 k0) w1) := fun w1 b1 => ⟨k0, [], none, 0, rfl, rfl, rfl, Nat.le_refl _, hk0, ⟨by simp, ⟨⟨rfl, .inl ⟨rfl, rfl⟩⟩, (fun k hk => by cases hk), (by rw [Nat.sub_self]; exact HH.out.below b1), Stay.below b1⟩, Nat.zero_le _⟩⟩
  rw [hsz, ← hm] at R0 ⊢
  have HSZ := Hid.mk hsz
  clear hsz hn hm
  go_enter Tryz.func17, Tryz.ntmps17
  go_wp2_with (go_at_call 31; refine hbg.mono ?_; clear hbg; rintro e w1 ⟨rfl, b1⟩)
  have R1 := R0 w1 b1
  clear R0 b1
  go_loopw [5, 7, 8] (fun ov av kv wr => FOut fb h l (.slice la m lc) (.slice sa n sc) rd x k0 w ov av kv wr) (fun _ _ kv _ => n - (intOf kv).toNat)
  case atStart => exact R1.out
  case round =>
    clear R1
    obtain ⟨k, O, a, c, rfl, rfl, rfl, h0k, hkn, HR⟩ := hrel
    obtain ⟨c6, c7, c8, f8⟩ := HR.out.2.1.2.2.1.cells
    rw [← HZ.out.1] at hkn
    obtain ⟨A, hA⟩ : ∃ A, A = At (Gs l) k := ⟨_, rfl⟩
    rw [← hA]
    by_cases hlt : k < n
    · obtain ⟨B, hBk⟩ : ∃ B, (Gs l)[k]? = some B := ⟨_, List.getElem?_eq_getElem (by rw [← HZ.out.1]; exact hlt)⟩
      have hBne : B ≠ [] := HZ.out.2.2.1 B (List.mem_of_getElem? hBk)
      have hBpos : 0 < B.length := List.length_pos_iff.2 hBne
      have hs := at_succ (Gs l) k B hBk
      have hle := at_le (Gs l) (k + 1)
      rw [Gs_flat, ← HZ.out.2.1] at hle
      rw [← hA] at hs
      have hget : ∀ j (hj : j < B.length), ∃ hl2 : A + j < l.length, l[A + j] = B[j] := fun j hj => by
        have h1 := at_get (Gs l) k B j B[j] hBk (List.getElem?_eq_getElem hj)
        rw [Gs_flat, ← hA] at h1
        exact List.getElem?_eq_some_iff.1 h1
      obtain ⟨gs, hgs⟩ : ∃ gs, sa = some ⟨gs, 0, none⟩ := by
        obtain ⟨sa', sc', e, hh⟩ := int_at HH.out.szr
        simp only [Value.slice.injEq] at e
        obtain ⟨g, e2, -⟩ := hh k (by rw [HSZ.out]; exact hlt)
        exact ⟨g, by rw [e.1]; exact e2⟩
      subst hgs
      obtain ⟨gl, off, hgl⟩ : ∃ gl off, la = some ⟨gl, off, none⟩ := by
        obtain ⟨la', lc', e, -, hh⟩ := lat_row HH.out.row
        simp only [Value.slice.injEq] at e
        obtain ⟨g, off, e2, -⟩ := hh.at' (fun h => by obtain ⟨h1, -⟩ := hget 0 hBpos; rw [h] at h1; simp at h1)
        exact ⟨g, off, by rw [e.1]; exact e2⟩
      subst hgl
      obtain ⟨BL, hBL⟩ : ∃ BL, BL = B.length := ⟨_, rfl⟩
      obtain ⟨RD, hRD⟩ : ∃ RD, RD = rd + (k - k0) := ⟨_, rfl⟩
      have hcons : (Gs l).drop k = B :: (Gs l).drop (k + 1) := by
        have hk : k < (Gs l).length := (List.getElem?_eq_some_iff.1 hBk).1
        rw [List.drop_eq_getElem_cons hk, (List.getElem?_eq_some_iff.1 hBk).2]
      have h1 := HR.out.1
      rw [hcons] at h1
      have hOl := HR.out.2.2
      rw [← hA] at hOl
      have hK := HR.out.2.1.read HZ.out.2.2.2.2.2 (RD + 1)
      rw [← hRD] at c8
      have R2 : Hid (FIn fb h l (.slice (some ⟨gl, off, none⟩) m lc) (.slice (some ⟨gs, 0, none⟩) n sc) (RD + 1) x A B O w (.slice a O.length c) (.int .i64 A) (wr.setCell ⟨fb, 8, none⟩ (.int .i64 ((RD + 1 : Nat) : Int)))) := ⟨A, a, c, O, rfl, rfl, Nat.le_refl _, by omega, ⟨by simp [hitV], hK, hOl⟩⟩
      have hRDl : RD < 4611686018427387904 := by omega
      have k3 : IntKind.i64.wrap ((RD : Int) + 1) = ((RD + 1 : Nat) : Int) := by rw [IntKind.wrap_i64]; omega
      have i1 : (k : Int) < (n : Int) := by omega
      have HB := Hid.mk (And.intro hBk (And.intro hBne (And.intro hs (And.intro hget (And.intro h1 (And.intro hA hRD))))))
      have HBL := Hid.mk hBL
      have hAm : A + BL ≤ m := by omega
      have hm2 : m ≤ 2097152 := by have := HZ.out.2.1; omega
      have hBpos' : 0 < BL := by omega
      clear hK hOl h1 hcons HR hBk hBne hBpos hs hle hget hA hRD hBL
      go_wp2
      obtain ⟨wo, rfl⟩ : ∃ wo : World, wo = wr := ⟨_, rfl⟩
      go_loopw [5, 9] (fun ov iv w2 => FIn fb h l (.slice (some ⟨gl, off, none⟩) m lc) (.slice (some ⟨gs, 0, none⟩) n sc) (RD + 1) x A B O w ov iv w2) (fun _ iv _ => (A + BL) - (intOf iv).toNat)
      case atStart => exact R2.out
      case round =>
        clear R2
        obtain ⟨i, a2, c2, O2, rfl, rfl, hAi, hiB, HI⟩ := hrel
        obtain ⟨d6, d7, d8, g8⟩ := HI.out.2.1.2.2.1.cells
        have dz := HI.out.2.1.2.2.1.sz HB.out.1
        rw [← HBL.out] at dz hiB
        by_cases hit : i < A + BL
        · obtain ⟨hl2, hle2⟩ := HB.out.2.2.2.1 (i - A) (by have := HBL.out; omega)
          have hi2 : i < l.length := by have := HZ.out.2.1; omega
          have eB : l[i] = B[i - A]'(by have := HBL.out; omega) := by rw [← hle2]; congr 1; omega
          have HE := HI.out.2.1.2.2.1
          rw [HZ.out.2.1] at HE
          obtain ⟨x0, x1, x2, x3, x4⟩ := HE.en i hi2
          have hstep := hitV_step x B (i - A) (by have := HBL.out; omega)
          rw [← eB] at hstep
          obtain ⟨e, he⟩ : ∃ e, e = l[i] := ⟨_, rfl⟩
          rw [← he] at x0 x1 x2 x3 x4 hstep
          have i2 : (i : Int) < (A : Int) + (BL : Int) := by omega
          have i3 : (i : Int) < (m : Int) := by omega
          have i4 : (0 : Int) ≤ (i : Int) := by omega
          have k5 : IntKind.i64.wrap ((A : Int) + (BL : Int)) = (A : Int) + (BL : Int) := by rw [IntKind.wrap_i64]; omega
          have k6 : IntKind.i64.wrap ((i : Int) + 1) = ((i + 1 : Nat) : Int) := by rw [IntKind.wrap_i64]; omega
          have hii : i + 1 - A = (i - A) + 1 := by omega
          by_cases hx : e.v = x
          · obtain ⟨v', w', hap, hK2⟩ := HI.out.2.1.put HZ.out.2.2.2.2.2 HZ.out.2.2.2.1 HZ.out.2.2.2.2.1 e (by have := HI.out.2.2; omega)
            obtain ⟨a3, c3, ev, -⟩ := slice_form hK2.1
            subst ev
            have HN : Hid (FIn fb h l (.slice (some ⟨gl, off, none⟩) m lc) (.slice (some ⟨gs, 0, none⟩) n sc) (RD + 1) x A B O w (.slice a3 (O2 ++ [e]).length c3) (.int .i64 ((i + 1 : Nat) : Int)) w') := ⟨i + 1, a3, c3, O2 ++ [e], rfl, rfl, by omega, by have := HBL.out; omega, ⟨by rw [hii, hstep, if_pos hx, HI.out.1, List.append_assoc], hK2, by rw [List.length_append]; have := HI.out.2.2; simp; omega⟩⟩
            obtain ⟨q1, hq1⟩ : ∃ q1, q1 = O2.length := ⟨_, rfl⟩
            obtain ⟨q2, hq2⟩ : ∃ q2, q2 = (O2 ++ [e]).length := ⟨_, rfl⟩
            rw [← hq1] at hap ⊢
            rw [← hq2] at hap HN
            simp only [enV] at hap
            obtain ⟨y, hy⟩ : ∃ y, y = e.v := ⟨_, rfl⟩
            rw [← hy] at x0 hap hx
            have k7 : (y == x) = true := by simpa using hx
            clear hx hy hstep hK2 HE eB he hle2 hl2 HI hq1 hq2
            go_wp2_with (at_builtin; refine wpList_append_eq rfl _ _ _ _ rfl _ _ _ _ rfl rfl hap ?_; clear hap)
            exact ⟨HN.out, by simp only [intOf]; omega⟩
          · have HN : Hid (FIn fb h l (.slice (some ⟨gl, off, none⟩) m lc) (.slice (some ⟨gs, 0, none⟩) n sc) (RD + 1) x A B O w (.slice a2 O2.length c2) (.int .i64 ((i + 1 : Nat) : Int)) wr) := ⟨i + 1, a2, c2, O2, rfl, rfl, by omega, by have := HBL.out; omega, ⟨by rw [hii, hstep, if_neg hx, List.append_nil]; exact HI.out.1, HI.out.2.1, by have := HI.out.2.2; omega⟩⟩
            have k7 : (e.v == x) = false := by simpa using hx
            clear hstep HE eB he hle2 hl2 HI hx
            go_wp2
            exact ⟨HN.out, by simp only [intOf]; omega⟩
        · have hie : i = A + BL := by omega
          have hO2 : O2 = O ++ hitV x B := by
            have := HI.out.1
            rw [hie, Nat.add_sub_cancel_left, HBL.out, List.take_length] at this
            exact this
          obtain ⟨Z, hZ⟩ : ∃ Z, A + BL = Z + 1 := ⟨A + BL - 1, by omega⟩
          obtain ⟨hl2, hle2⟩ := HB.out.2.2.2.1 (BL - 1) (by have := HBL.out; omega)
          have hi2 : Z < l.length := by have := HZ.out.2.1; omega
          have eB : l[Z] = B[BL - 1]'(by have := HBL.out; omega) := by rw [← hle2]; congr 1; omega
          have HE := HI.out.2.1.2.2.1
          rw [HZ.out.2.1] at HE
          obtain ⟨x0, x1, x2, x3, x4⟩ := HE.en Z hi2
          have hlast : lastV B = l[Z].v := by
            unfold lastV
            rw [List.getLast?_eq_getElem?, ← HBL.out, List.getElem?_eq_getElem (by have := HBL.out; omega), eB]
          obtain ⟨y, hy⟩ : ∃ y, y = l[Z].v := ⟨_, rfl⟩
          rw [← hy] at x0 hlast
          have hFK := HI.out.2.1
          have hRD1 : RD + 1 = rd + (k - k0) + 1 := by rw [HB.out.2.2.2.2.2.2]
          have h1 := HB.out.2.2.2.2.1
          have i2 : ¬ ((i : Int) < (A : Int) + (BL : Int)) := by omega
          have i3 : (Z : Int) < (m : Int) := by omega
          have i4 : (0 : Int) ≤ (Z : Int) := by omega
          have k5 : IntKind.i64.wrap ((A : Int) + (BL : Int)) = (A : Int) + (BL : Int) := by rw [IntKind.wrap_i64]; omega
          have k6 : IntKind.i64.wrap ((A : Int) + (BL : Int) - 1) = (Z : Int) := by rw [IntKind.wrap_i64]; omega
          have k7 : IntKind.i64.wrap ((k : Int) + 1) = ((k + 1 : Nat) : Int) := by rw [IntKind.wrap_i64]; omega
          have hnA : ((A : Int) + (BL : Int)) = ((At (Gs l) (k + 1) : Nat) : Int) := by have := HB.out.2.2.1; have := HBL.out; omega
          by_cases hx : x < y
          · have HF : Hid (FiO fb h l (.slice (some ⟨gl, off, none⟩) m lc) (.slice (some ⟨gs, 0, none⟩) n sc) rd (fnD x ((Gs l).drop k0)) w (.returned (.slice a2 O2.length c2)) wr) := by
              rw [fnD, if_pos (by omega)] at h1
              rw [h1]
              refine ⟨_, rfl, ?_, hFK.2.1, ?_, hFK.2.2.2⟩
              · show wr.ownsRow 0 38 5 _ (O ++ hitV x B).length ((O ++ hitV x B).flatMap enC)
                rw [← hO2]; exact hFK.1
              · show RF wr fb h l _ _ (rd + (k - k0 + 1))
                rw [← Nat.add_assoc, ← hRD1]; exact hFK.2.2.1
            clear h1 hFK hRD1 hlast hy x1 x2 x3 x4 HE eB hle2 hl2 hO2 HI hnA hie
            go_wp2
            go_ret
            exact HF.out
          · have HN : Hid (FOut fb h l (.slice (some ⟨gl, off, none⟩) m lc) (.slice (some ⟨gs, 0, none⟩) n sc) rd x k0 w (.slice a2 O2.length c2) (.int .i64 ((A : Int) + (BL : Int))) (.int .i64 ((k + 1 : Nat) : Int)) wr) := by
              rw [fnD, if_neg (by omega)] at h1
              refine ⟨k + 1, O2, a2, c2, rfl, by rw [hnA], rfl, by omega, by have := HZ.out.1; omega, ?_, ?_, ?_⟩
              · rw [h1, hO2, List.append_assoc]
                congr 1
                omega
              · rw [show rd + (k + 1 - k0) = RD + 1 by omega]; exact hFK
              · have := HI.out.2.2; have := HB.out.2.2.1; have := HBL.out; omega
            clear h1 hFK hRD1 hlast hy x1 x2 x3 x4 HE eB hle2 hl2 hO2 HI hnA hie
            go_wp2
            exact ⟨HN.out, by simp only [intOf]; omega⟩
    · have hkn2 : k = n := by omega
      have hd : (Gs l).drop k = [] := List.drop_eq_nil_of_le (by rw [← HZ.out.1]; omega)
      have HF : Hid (FiO fb h l (.slice la m lc) (.slice sa n sc) rd (fnD x ((Gs l).drop k0)) w (.returned (.slice a O.length c)) wr) := by
        have h1 := HR.out.1
        rw [hd] at h1
        simp only [fnD, Nat.add_zero, List.append_nil] at h1
        rw [h1]
        exact ⟨_, rfl, HR.out.2.1.1, HR.out.2.1.2.1, HR.out.2.1.2.2.1, HR.out.2.1.2.2.2⟩
      have i1 : ¬ ((k : Int) < (n : Int)) := by omega
      clear hkn2 hd HR
      go_wp2
      go_ret
      exact HF.out
end Go.Proofs.YtjdpolhjbkpnlaaGreatDoor.Dx
set_option linter.unusedVariables false
set_option linter.unusedSimpArgs false
namespace Go.Proofs.YtjdpolhjbkpnlaaGreatDoor.Dx
open Go.RowKit Go.Proofs.SealMath
open Go.Proofs.YtjdpolhjbkpnlaaGreatDoor.Rb
/-- Between two blocks. -/
def GOut (fb : Nat) (h : Hd) (l : List En) (lv sv : Value) (rd : Nat) (p : En) (M k0 : Nat) (w : World) (ov av kv : Value) (wr : World) : Prop :=
  ∃ (k : Nat) (O : List En) (a : Option Addr) (c : Nat), ov = .slice a O.length c ∧ av = .int .i64 (At (Gs l) k : Nat) ∧ kv = .int .i64 k ∧ k0 ≤ k ∧ k ≤ (Gs l).length ∧ O.length ≤ M ∧ Hid (frD p M ((Gs l).drop k0) = ((k - k0) + (frD p (M - O.length) ((Gs l).drop k)).1, O ++ (frD p (M - O.length) ((Gs l).drop k)).2) ∧ FK fb h l lv sv (rd + (k - k0)) O (.slice a O.length c) w wr ∧ O.length ≤ At (Gs l) k)
/-- Within a block. -/
def GIn (fb : Nat) (h : Hd) (l : List En) (lv sv : Value) (rd : Nat) (p : En) (M A : Nat) (B O : List En) (w : World) (ov iv : Value) (wr : World) : Prop :=
  ∃ (i : Nat) (a : Option Addr) (c : Nat) (O2 : List En), ov = .slice a O2.length c ∧ iv = .int .i64 i ∧ A ≤ i ∧ i ≤ A + B.length ∧ O2.length ≤ M ∧ Hid (O2 = O ++ (geV p (B.take (i - A))).take (M - O.length) ∧ FK fb h l lv sv rd O2 (.slice a O2.length c) w wr ∧ O2.length ≤ i)
theorem geV_step (p : En) (B : List En) (j : Nat) (h : j < B.length) : geV p (B.take (j + 1)) = geV p (B.take j) ++ (if cpE B[j] p < 0 then [] else [B[j]]) := by
  rw [List.take_succ_eq_append_getElem h, geV_app]
  congr 1
  unfold geV
  by_cases e : cpE B[j] p < 0
  · simp [e]
  · simp [e, Int.not_lt.1 e]
/-- What a block gives when it is left. -/
theorem geV_full (p : En) (B : List En) (j q : Nat) (h : j = B.length ∨ q ≤ ((geV p (B.take j)).take q).length) : (geV p (B.take j)).take q = (geV p B).take q := by
  rcases h with rfl | h
  · rw [List.take_length]
  · have hB : geV p B = geV p (B.take j) ++ geV p (B.drop j) := by rw [← geV_app, List.take_append_drop]
    rw [hB, List.take_append_of_le_length (by rw [List.length_take] at h; omega)]
set_option maxRecDepth 100000 in
set_option maxHeartbeats 8000000 in
theorem rfrom_any (fb : Nat) (h : Hd) (l : List En) (lv sv : Value) (rd : Nat) (p : En) (m0 : Int) (ix : List En) (w : World) (H : RF w fb h l lv sv rd) (hix : ix = (Gs l).map (fun B => B.headD e0)) (hup : Up ix) (hne : ∀ B ∈ Gs l, B ≠ []) (hl : l.length ≤ 2097152) (hrd : rd + l.length ≤ 4611686018427387904) (hGl : (Gs l).length ≤ l.length) :
    Calls Tryz.prog 18 #[Pt fb, .agg (enC p).toArray, .int .i64 m0] w (FiO fb h l lv sv rd (frD p m0.toNat ((Gs l).drop (rF ix p - 1))) w) := by
  obtain ⟨W1, hW1⟩ : ∃ W1, W1 = w.alloc (.cells (enC p).toArray 38) := ⟨_, rfl⟩
  have b1 : Below w.heap.size w W1 := by rw [hW1]; exact (Below.refl _ w).alloc (Nat.le_refl _) _
  have hB1 : W1.heap[w.heap.size]? = some (.cells (enC p).toArray 38 (0, 0)) := by rw [hW1]; exact heap_alloc_last w _
  obtain ⟨p0, p1, p2, p3, p4, -⟩ := en5 hB1
  have hbl : w.heap.size < W1.heap.size := (Array.getElem?_eq_some_iff.1 hB1).1
  have hlv : ∀ k, lv.ownBlock = some k → k < W1.heap.size := fun k hk => by have := row_lt H.row hk; omega
  have hsv : ∀ k, sv.ownBlock = some k → k < W1.heap.size := fun k hk => by have := row_lt H.szr hk; omega
  have hfb := H.lt
  have H1 := H.below b1
  have hbg := rbegin_any fb h l lv sv rd p ix W1 H1 hix hup hne hl
  have hk0 : rF ix p - 1 ≤ (Gs l).length := by have := rF_le ix p; rw [hix, List.length_map] at this; rw [hix]; omega
  obtain ⟨k0, hk0e⟩ : ∃ k0, k0 = rF ix p - 1 := ⟨_, rfl⟩
  rw [← hk0e] at hbg hk0 ⊢
  obtain ⟨sa, sc, rfl, -⟩ := int_at H.szr
  obtain ⟨la, lc, rfl, -, -⟩ := lat_row H.row
  obtain ⟨n, hn⟩ : ∃ n, n = (Gs l).length := ⟨_, rfl⟩
  have hsz : (szs l).length = n := by rw [szs_eq, List.length_map, hn]
  obtain ⟨m, hm⟩ : ∃ m, m = l.length := ⟨_, rfl⟩
  obtain ⟨M, hM⟩ : ∃ M, M = m0.toNat := ⟨_, rfl⟩
  rw [← hM]
  simp only [enC] at hbg
  have HZ := Hid.mk (And.intro hn (And.intro hm (And.intro hne (And.intro hlv (And.intro hsv (show fb < W1.heap.size by omega))))))
  have HH := Hid.mk H1
  have HW := Hid.mk (And.intro b1 (And.intro hbl hfb))
  have HM : Hid (∀ q : Nat, q ≤ M → (((q : Int) < m0) ↔ q < M)) := fun q hq => by omega
  have hn1 : n ≤ 2097152 := by omega
  have hrd2 : rd + n ≤ 4611686018427387904 := by omega
  have HP := Hid.mk (And.intro p0 (And.intro p1 (And.intro p2 (And.intro p3 p4))))
  have R0 : ∀ w1, Below W1.heap.size W1 w1 → Hid (GOut fb h l (.slice la l.length lc) (.slice sa (szs l).length sc) rd p M k0 W1 (.slice none 0 0) (.int .i64 (At (Gs l) k0 : Nat)) (.int .i64 k0) w1) := fun w1 b1 => ⟨k0, [], none, 0, rfl, rfl, rfl, Nat.le_refl _, hk0, Nat.zero_le _, ⟨by simp, ⟨⟨rfl, .inl ⟨rfl, rfl⟩⟩, (fun k hk => by cases hk), (by rw [Nat.sub_self]; exact HH.out.below b1), Stay.below b1⟩, Nat.zero_le _⟩⟩
  rw [hsz, ← hm] at R0 ⊢
  have HSZ := Hid.mk hsz
  clear hix hup hk0e hne hlv hsv H H1 hGl hrd hsz hn hm hM b1 hB1 hbl hfb
  go_enter Tryz.func18, Tryz.ntmps18
  go_upto_region 2 with fail
  first | rw [← hW1] | (simp [enC] at hW1; rw [← hW1])
  clear hW1
  go_wp2_with (go_at_call 31; refine hbg.mono ?_; clear hbg; rintro e w1 ⟨rfl, b1⟩)
  have R1 := R0 w1 b1
  clear R0 b1 p0 p1 p2 p3 p4
  go_loopw [7, 9, 10] (fun ov av kv wr => GOut fb h l (.slice la m lc) (.slice sa n sc) rd p M k0 W1 ov av kv wr) (fun _ _ kv _ => n - (intOf kv).toNat)
  case atStart => exact R1.out
  case round =>
    clear R1
    obtain ⟨k, O, a, c, rfl, rfl, rfl, h0k, hkn, hOM, HR⟩ := hrel
    obtain ⟨c6, c7, c8, f8⟩ := HR.out.2.1.2.2.1.cells
    rw [← HZ.out.1] at hkn
    obtain ⟨A, hA⟩ : ∃ A, A = At (Gs l) k := ⟨_, rfl⟩
    rw [← hA]
    have fin : (k = n ∨ O.length = M) → Hid (FiO fb h l (.slice la m lc) (.slice sa n sc) rd (frD p M ((Gs l).drop k0)) w (.returned (.slice a O.length c)) wr) := fun hc => by
      have hz : frD p (M - O.length) ((Gs l).drop k) = (0, []) := by
        rcases hc with h1 | h1
        · rw [List.drop_eq_nil_of_le (by rw [← HZ.out.1]; omega)]; rfl
        · rw [h1, Nat.sub_self, frD_zero]
      have h1 := HR.out.1
      rw [hz] at h1
      simp only [Nat.add_zero, List.append_nil] at h1
      rw [h1]
      exact ⟨_, rfl, HR.out.2.1.1, fun q hq => Nat.le_trans (Nat.le_of_lt HW.out.2.1) (HR.out.2.1.2.1 q hq), HR.out.2.1.2.2.1, (Stay.below (F := fun k => k = fb) HW.out.1).trans HR.out.2.1.2.2.2⟩
    by_cases hlt : k < n
    · by_cases hOl2 : O.length < M
      · clear fin
        have iO : ((O.length : Nat) : Int) < m0 := (HM.out _ hOM).2 hOl2
        obtain ⟨B, hBk⟩ : ∃ B, (Gs l)[k]? = some B := ⟨_, List.getElem?_eq_getElem (by rw [← HZ.out.1]; exact hlt)⟩
        have hBne : B ≠ [] := HZ.out.2.2.1 B (List.mem_of_getElem? hBk)
        have hBpos : 0 < B.length := List.length_pos_iff.2 hBne
        have hs := at_succ (Gs l) k B hBk
        have hle := at_le (Gs l) (k + 1)
        rw [Gs_flat, ← HZ.out.2.1] at hle
        rw [← hA] at hs
        have hget : ∀ j (hj : j < B.length), ∃ hl2 : A + j < l.length, l[A + j] = B[j] := fun j hj => by
          have h1 := at_get (Gs l) k B j B[j] hBk (List.getElem?_eq_getElem hj)
          rw [Gs_flat, ← hA] at h1
          exact List.getElem?_eq_some_iff.1 h1
        obtain ⟨gs, hgs⟩ : ∃ gs, sa = some ⟨gs, 0, none⟩ := by
          obtain ⟨sa', sc', e, hh⟩ := int_at HH.out.szr
          simp only [Value.slice.injEq] at e
          obtain ⟨g, e2, -⟩ := hh k (by rw [HSZ.out]; exact hlt)
          exact ⟨g, by rw [e.1]; exact e2⟩
        subst hgs
        obtain ⟨gl, off, hgl⟩ : ∃ gl off, la = some ⟨gl, off, none⟩ := by
          obtain ⟨la', lc', e, -, hh⟩ := lat_row HH.out.row
          simp only [Value.slice.injEq] at e
          obtain ⟨g, off, e2, -⟩ := hh.at' (fun h => by obtain ⟨h1, -⟩ := hget 0 hBpos; rw [h] at h1; simp at h1)
          exact ⟨g, off, by rw [e.1]; exact e2⟩
        subst hgl
        obtain ⟨BL, hBL⟩ : ∃ BL, BL = B.length := ⟨_, rfl⟩
        obtain ⟨RD, hRD⟩ : ∃ RD, RD = rd + (k - k0) := ⟨_, rfl⟩
        have hcons : (Gs l).drop k = B :: (Gs l).drop (k + 1) := by
          have hk : k < (Gs l).length := (List.getElem?_eq_some_iff.1 hBk).1
          rw [List.drop_eq_getElem_cons hk, (List.getElem?_eq_some_iff.1 hBk).2]
        have h1 := HR.out.1
        rw [hcons] at h1
        have hOl := HR.out.2.2
        rw [← hA] at hOl
        have hK := HR.out.2.1.read HZ.out.2.2.2.2.2 (RD + 1)
        rw [← hRD] at c8
        have R2 : Hid (GIn fb h l (.slice (some ⟨gl, off, none⟩) m lc) (.slice (some ⟨gs, 0, none⟩) n sc) (RD + 1) p M A B O W1 (.slice a O.length c) (.int .i64 A) (wr.setCell ⟨fb, 8, none⟩ (.int .i64 ((RD + 1 : Nat) : Int)))) := ⟨A, a, c, O, rfl, rfl, Nat.le_refl _, by omega, hOM, ⟨by simp [geV], hK, hOl⟩⟩
        have hRDl : RD < 4611686018427387904 := by omega
        have k3 : IntKind.i64.wrap ((RD : Int) + 1) = ((RD + 1 : Nat) : Int) := by rw [IntKind.wrap_i64]; omega
        have i1 : (k : Int) < (n : Int) := by omega
        have HB := Hid.mk (And.intro hBk (And.intro hBne (And.intro hs (And.intro hget (And.intro h1 (And.intro hA hRD))))))
        have HBL := Hid.mk hBL
        have hAm : A + BL ≤ m := by omega
        have hm2 : m ≤ 2097152 := by have := HZ.out.2.1; omega
        have hBpos' : 0 < BL := by omega
        clear hK hOl h1 hcons HR hBk hBne hBpos hs hle hget hA hRD hBL
        go_wp2
        obtain ⟨wo, rfl⟩ : ∃ wo : World, wo = wr := ⟨_, rfl⟩
        go_loopw [7, 11] (fun ov iv w2 => GIn fb h l (.slice (some ⟨gl, off, none⟩) m lc) (.slice (some ⟨gs, 0, none⟩) n sc) (RD + 1) p M A B O W1 ov iv w2) (fun _ iv _ => (A + BL) - (intOf iv).toNat)
        case atStart => exact R2.out
        case round =>
          clear R2
          obtain ⟨i, a2, c2, O2, rfl, rfl, hAi, hiB, hO2M, HI⟩ := hrel
          obtain ⟨d6, d7, d8, g8⟩ := HI.out.2.1.2.2.1.cells
          have dz := HI.out.2.1.2.2.1.sz HB.out.1
          rw [← HBL.out] at dz hiB
          by_cases hit : i < A + BL
          · by_cases hq2 : O2.length < M
            · obtain ⟨hl2, hle2⟩ := HB.out.2.2.2.1 (i - A) (by have := HBL.out; omega)
              have hi2 : i < l.length := by have := HZ.out.2.1; omega
              have eB : l[i] = B[i - A]'(by have := HBL.out; omega) := by rw [← hle2]; congr 1; omega
              have HE := HI.out.2.1.2.2.1
              rw [HZ.out.2.1] at HE
              obtain ⟨x0, x1, x2, x3, x4⟩ := HE.en i hi2
              have hstep := geV_step p B (i - A) (by have := HBL.out; omega)
              rw [← eB] at hstep
              obtain ⟨e, he⟩ : ∃ e, e = l[i] := ⟨_, rfl⟩
              rw [← he] at x0 x1 x2 x3 x4 hstep
              have hbx : wr.heap[w.heap.size]? = W1.heap[w.heap.size]? := HI.out.2.1.2.2.2.block _ HW.out.2.1 (by have := HW.out.2.2; omega)
              have q0 : wr.cell? ⟨w.heap.size, 0, none⟩ = some (.int .i64 p.v) := by have := HP.out.1; simpa [World.cell?, hbx] using this
              have q1 : wr.cell? ⟨w.heap.size, 1, none⟩ = some (.string p.c) := by have := HP.out.2.1; simpa [World.cell?, hbx] using this
              have q2 : wr.cell? ⟨w.heap.size, 2, none⟩ = some (.int .i64 p.i) := by have := HP.out.2.2.1; simpa [World.cell?, hbx] using this
              have q3 : wr.cell? ⟨w.heap.size, 3, none⟩ = some (.int .i64 p.s) := by have := HP.out.2.2.2.1; simpa [World.cell?, hbx] using this
              have q4 : wr.cell? ⟨w.heap.size, 4, none⟩ = some (.bool p.d) := by have := HP.out.2.2.2.2; simpa [World.cell?, hbx] using this
              have hls := fun W => rless_any e p W
              rw [lsB_cp] at hls
              simp only [enC] at hls
              have hO2g : ((geV p (B.take (i - A))).take (M - O.length)) = geV p (B.take (i - A)) := by
                have h2 := congrArg List.length HI.out.1
                rw [List.length_append, List.length_take] at h2
                exact List.take_of_length_le (by omega)
              have hlen2 : O2.length = O.length + (geV p (B.take (i - A))).length := by
                have h2 := HI.out.1
                rw [hO2g] at h2
                rw [h2, List.length_append]
              have i2 : (i : Int) < (A : Int) + (BL : Int) := by omega
              have i3 : (i : Int) < (m : Int) := by omega
              have i4 : (0 : Int) ≤ (i : Int) := by omega
              have i5 : ((O2.length : Nat) : Int) < m0 := (HM.out _ hO2M).2 hq2
              have k5 : IntKind.i64.wrap ((A : Int) + (BL : Int)) = (A : Int) + (BL : Int) := by rw [IntKind.wrap_i64]; omega
              have k6 : IntKind.i64.wrap ((i : Int) + 1) = ((i + 1 : Nat) : Int) := by rw [IntKind.wrap_i64]; omega
              have hii : i + 1 - A = (i - A) + 1 := by omega
              have HS := Hid.mk (And.intro hstep (And.intro hO2g hlen2))
              have HK := Hid.mk HI.out.2.1
              have HI1 := Hid.mk (And.intro HI.out.1 HI.out.2.2)
              obtain ⟨q, hq⟩ : ∃ q, q = O2.length := ⟨_, rfl⟩
              have HQ := Hid.mk hq
              rw [← hq] at i5 ⊢
              clear hstep hO2g hlen2 HE eB he hle2 hl2 HI hbx hq
              go_upto_region 10 with fail
              go_region_held (fun w' => Below wr.heap.size wr w' ∧ w'.cell? ⟨w.heap.size, 0, none⟩ = some (.int .i64 p.v) ∧ w'.cell? ⟨w.heap.size, 1, none⟩ = some (.string p.c) ∧ w'.cell? ⟨w.heap.size, 2, none⟩ = some (.int .i64 p.i) ∧ w'.cell? ⟨w.heap.size, 3, none⟩ = some (.int .i64 p.s) ∧ w'.cell? ⟨w.heap.size, 4, none⟩ = some (.bool p.d) ∧ w'.cell? ⟨fb, 6, none⟩ = some (.slice (some ⟨gl, off, none⟩) m lc) ∧ w'.cell? ⟨gl, off + i * 5, none⟩ = some (.int .i64 e.v) ∧ w'.cell? ⟨gl, off + i * 5 + 1, none⟩ = some (.string e.c) ∧ w'.cell? ⟨gl, off + i * 5 + 2, none⟩ = some (.int .i64 e.i) ∧ w'.cell? ⟨gl, off + i * 5 + 3, none⟩ = some (.int .i64 e.s) ∧ w'.cell? ⟨gl, off + i * 5 + 4, none⟩ = some (.bool e.d))
                ((refine (fun hb => ⟨hb, cell_lat hb q0, cell_lat hb q1, cell_lat hb q2, cell_lat hb q3, cell_lat hb q4, cell_lat hb d6, cell_lat hb x0, cell_lat hb x1, cell_lat hb x2, cell_lat hb x3, cell_lat hb x4⟩) ?_; first | exact bb | exact b_drew wr))
                ((go_at_call 32; refine (hls _).mono ?_; clear hls; rintro r w4 ⟨rfl, b4⟩; have bb : Below wr.heap.size wr w4 := below_d b4))
              have hK4 := HK.out.lat bb
              have e6 := cell_lat bb d6
              have e0 := cell_lat bb x0
              have e1 := cell_lat bb x1
              have e2 := cell_lat bb x2
              have e3 := cell_lat bb x3
              have e4 := cell_lat bb x4
              clear d6 x0 x1 x2 x3 x4 q0 q1 q2 q3 q4 HK
              by_cases hc : cpE e p < 0
              · have hd : decide (cpE e p < 0) = true := decide_eq_true hc
                rw [hd]
                have HN : Hid (GIn fb h l (.slice (some ⟨gl, off, none⟩) m lc) (.slice (some ⟨gs, 0, none⟩) n sc) (RD + 1) p M A B O W1 (.slice a2 q c2) (.int .i64 ((i + 1 : Nat) : Int)) w4) := by
                  rw [HQ.out]
                  refine ⟨i + 1, a2, c2, O2, rfl, rfl, by omega, by have := HBL.out; omega, hO2M, ⟨?_, hK4, by have := HI1.out.2; omega⟩⟩
                  rw [hii, HS.out.1, if_pos hc, List.append_nil]; exact HI1.out.1
                clear hK4 hd hc HS
                go_wp2
                exact ⟨HN.out, by simp only [intOf]; omega⟩
              · have hd : decide (cpE e p < 0) = false := decide_eq_false hc
                rw [hd]
                obtain ⟨v', w', hap, hK2⟩ := hK4.put HZ.out.2.2.2.2.2 HZ.out.2.2.2.1 HZ.out.2.2.2.2.1 e (by have := HI1.out.2; omega)
                obtain ⟨a3, c3, ev, -⟩ := slice_form hK2.1
                subst ev
                have HN : Hid (GIn fb h l (.slice (some ⟨gl, off, none⟩) m lc) (.slice (some ⟨gs, 0, none⟩) n sc) (RD + 1) p M A B O W1 (.slice a3 (O2 ++ [e]).length c3) (.int .i64 ((i + 1 : Nat) : Int)) w') := by
                  refine ⟨i + 1, a3, c3, O2 ++ [e], rfl, rfl, by omega, by have := HBL.out; omega, by rw [List.length_append]; simp; omega, ⟨?_, hK2, by rw [List.length_append]; have := HI1.out.2; simp; omega⟩⟩
                  have h2 := HI1.out.1
                  rw [HS.out.2.1] at h2
                  rw [hii, HS.out.1, if_neg hc, List.take_of_length_le (by rw [List.length_append]; have := HS.out.2.2; simp; omega), ← List.append_assoc, ← h2]
                obtain ⟨q9, hq9⟩ : ∃ q9, q9 = (O2 ++ [e]).length := ⟨_, rfl⟩
                rw [← hq9, ← HQ.out] at hap
                rw [← hq9] at HN
                simp only [enV] at hap
                clear hK2 hK4 hd hc HS hq9
                go_wp2_with (at_builtin; refine wpList_append_eq rfl _ _ _ _ rfl _ _ _ _ rfl rfl hap ?_; clear hap)
                exact ⟨HN.out, by simp only [intOf]; omega⟩
            · have HLV : i = A + BL ∨ O2.length = M := .inr (by omega)
              have hO2 : O2 = O ++ (geV p B).take (M - O.length) := by
                rw [HI.out.1, geV_full]
                rcases HLV with h1 | h1
                · left; have := HBL.out; omega
                · right
                  have h2 := congrArg List.length HI.out.1
                  rw [List.length_append] at h2
                  omega
              have hgl : ((geV p B).take (M - O.length)).length = O2.length - O.length := by
                have h2 := congrArg List.length hO2
                rw [List.length_append] at h2
                omega
              have hOle : O.length ≤ O2.length := by
                have h2 := congrArg List.length hO2
                rw [List.length_append] at h2
                omega
              have hRD1 : RD + 1 = rd + (k - k0) + 1 := by rw [HB.out.2.2.2.2.2.2]
              have h1 := HB.out.2.2.2.2.1
              have hFK := HI.out.2.1
              have k5 : IntKind.i64.wrap ((A : Int) + (BL : Int)) = (A : Int) + (BL : Int) := by rw [IntKind.wrap_i64]; omega
              have k7 : IntKind.i64.wrap ((k : Int) + 1) = ((k + 1 : Nat) : Int) := by rw [IntKind.wrap_i64]; omega
              have hnA : ((A : Int) + (BL : Int)) = ((At (Gs l) (k + 1) : Nat) : Int) := by have := HB.out.2.2.1; have := HBL.out; omega
              have HN : Hid (GOut fb h l (.slice (some ⟨gl, off, none⟩) m lc) (.slice (some ⟨gs, 0, none⟩) n sc) rd p M k0 W1 (.slice a2 O2.length c2) (.int .i64 ((A : Int) + (BL : Int))) (.int .i64 ((k + 1 : Nat) : Int)) wr) := by
                rw [frD, if_neg (by omega)] at h1
                refine ⟨k + 1, O2, a2, c2, rfl, by rw [hnA], rfl, by omega, by have := HZ.out.1; omega, hO2M, ?_, ?_, ?_⟩
                · rw [h1, hgl, show M - O.length - (O2.length - O.length) = M - O2.length by omega, ← List.append_assoc, ← hO2]
                  congr 1
                  omega
                · rw [show rd + (k + 1 - k0) = RD + 1 by omega]; exact hFK
                · have := HI.out.2.2; have := HB.out.2.2.1; have := HBL.out; omega
              obtain ⟨q, hq⟩ : ∃ q, q = O2.length := ⟨_, rfl⟩
              have i5 : ((q : Int) < m0) ↔ q < M := HM.out q (by omega)
              rw [← hq] at HN ⊢
              have i2 : (i : Int) < (A : Int) + (BL : Int) := by omega
              have i6 : ¬ ((q : Int) < m0) := by rw [i5]; omega
              clear h1 hFK hRD1 hgl hOle hO2 HI hnA hq HLV i5
              go_wp2
              exact ⟨HN.out, by simp only [intOf]; omega⟩
          · have HLV : i = A + BL ∨ O2.length = M := .inl (by omega)
            have hO2 : O2 = O ++ (geV p B).take (M - O.length) := by
              rw [HI.out.1, geV_full]
              rcases HLV with h1 | h1
              · left; have := HBL.out; omega
              · right
                have h2 := congrArg List.length HI.out.1
                rw [List.length_append] at h2
                omega
            have hgl : ((geV p B).take (M - O.length)).length = O2.length - O.length := by
              have h2 := congrArg List.length hO2
              rw [List.length_append] at h2
              omega
            have hOle : O.length ≤ O2.length := by
              have h2 := congrArg List.length hO2
              rw [List.length_append] at h2
              omega
            have hRD1 : RD + 1 = rd + (k - k0) + 1 := by rw [HB.out.2.2.2.2.2.2]
            have h1 := HB.out.2.2.2.2.1
            have hFK := HI.out.2.1
            have k5 : IntKind.i64.wrap ((A : Int) + (BL : Int)) = (A : Int) + (BL : Int) := by rw [IntKind.wrap_i64]; omega
            have k7 : IntKind.i64.wrap ((k : Int) + 1) = ((k + 1 : Nat) : Int) := by rw [IntKind.wrap_i64]; omega
            have hnA : ((A : Int) + (BL : Int)) = ((At (Gs l) (k + 1) : Nat) : Int) := by have := HB.out.2.2.1; have := HBL.out; omega
            have HN : Hid (GOut fb h l (.slice (some ⟨gl, off, none⟩) m lc) (.slice (some ⟨gs, 0, none⟩) n sc) rd p M k0 W1 (.slice a2 O2.length c2) (.int .i64 ((A : Int) + (BL : Int))) (.int .i64 ((k + 1 : Nat) : Int)) wr) := by
              rw [frD, if_neg (by omega)] at h1
              refine ⟨k + 1, O2, a2, c2, rfl, by rw [hnA], rfl, by omega, by have := HZ.out.1; omega, hO2M, ?_, ?_, ?_⟩
              · rw [h1, hgl, show M - O.length - (O2.length - O.length) = M - O2.length by omega, ← List.append_assoc, ← hO2]
                congr 1
                omega
              · rw [show rd + (k + 1 - k0) = RD + 1 by omega]; exact hFK
              · have := HI.out.2.2; have := HB.out.2.2.1; have := HBL.out; omega
            obtain ⟨q, hq⟩ : ∃ q, q = O2.length := ⟨_, rfl⟩
            have i5 : ((q : Int) < m0) ↔ q < M := HM.out q (by omega)
            rw [← hq] at HN ⊢
            have i2 : ¬ ((i : Int) < (A : Int) + (BL : Int)) := by omega
            clear h1 hFK hRD1 hgl hOle hO2 HI hnA hq HLV i5
            go_wp2
            exact ⟨HN.out, by simp only [intOf]; omega⟩
      · have HF := fin (.inr (by omega))
        have i1 : (k : Int) < (n : Int) := by omega
        obtain ⟨q, hq⟩ : ∃ q, q = O.length := ⟨_, rfl⟩
        have i2 : ¬ ((q : Int) < m0) := by rw [HM.out q (by omega)]; omega
        rw [← hq] at HF ⊢
        clear fin HR hq hOl2 hlt
        go_wp2
        go_ret
        exact HF.out
    · have HF := fin (.inl (by omega))
      have i1 : ¬ ((k : Int) < (n : Int)) := by omega
      clear fin HR
      go_wp2
      go_ret
      exact HF.out
end Go.Proofs.YtjdpolhjbkpnlaaGreatDoor.Dx
set_option linter.unusedVariables false
set_option linter.unusedSimpArgs false
namespace Go.Proofs.YtjdpolhjbkpnlaaGreatDoor
open Go.RowKit Go.Proofs.SealMath
set_option maxRecDepth 100000 in
set_option maxHeartbeats 1000000 in
theorem reads_any (fb : Nat) (h : Hd) (bv iv : Value) (rd : Nat) (w : World) (hb : w.heap[fb]? = some (.cells (flV h bv iv rd) 54 (0, 0))) :
    Calls Tryz.prog 13 #[Pt fb] w fun r w' => r = .returned (.int .i64 rd) ∧ Below w.heap.size w w' := by
  have y8 : w.cell? ⟨fb, 8, none⟩ = some (.int .i64 rd) := by rw [cell_of_row w _ 8 _ _ (0, 0) hb]; rfl
  have hz : fb < w.heap.size := World.block_lt_of_cell? w _ y8
  clear hb
  go_enter Tryz.func13, Tryz.ntmps13
  go_wp2
  refine bodyPost_ret (v := .int .i64 rd) (by simp [results, Tryz.results13, go_sem]; try rfl) rfl ?_
  exact ⟨rfl, Below.refl _ w⟩
set_option maxRecDepth 100000 in
set_option maxHeartbeats 1000000 in
theorem from_none (fb : Nat) (pl : En) (m : Int) (w : World) (hm : m < 1) :
    Calls Tryz.prog 16 #[Pt fb, .agg (enV pl), .int .i64 m] w fun r w' => r = .returned (.slice none 0 0) ∧ Below w.heap.size w w' := by
  have hd : decide (m < 1) = true := by simpa using hm
  have bA : Below w.heap.size w ((((w.alloc (.cells #[Pt fb] 23)).alloc (.cells (enV pl) 38)).alloc (.cells #[.int .i64 m] 3)).alloc (.cells #[.slice none 0 0] 34)) := ((((Below.refl _ w).alloc (Nat.le_refl _) _).alloc (by simp) _).alloc (by simp; omega) _).alloc (by simp; omega) _
  obtain ⟨v, c, i, s, d⟩ := pl
  simp only [enV] at bA ⊢
  clear hm
  go_enter Tryz.func16, Tryz.ntmps16
  go_wp2
  refine bodyPost_ret (v := .slice none 0 0) (by simp [results, Tryz.results16, go_sem]; try rfl) rfl ?_
  exact ⟨rfl, by first | exact bA | exact bA.setCell (by simp; omega) _⟩
end Go.Proofs.YtjdpolhjbkpnlaaGreatDoor
set_option linter.unusedVariables false
set_option linter.unusedSimpArgs false
namespace Go.Proofs.YtjdpolhjbkpnlaaGreatDoor.Dx
open Go.RowKit Go.Proofs.SealMath
open Go.Proofs.YtjdpolhjbkpnlaaGreatDoor.Rb
theorem gs_file (h : Hd) (l : List En) (e : bdE h l = 0) : ((pk enB l).map fun p => p.2.flatMap enB).map (enR (cbH h)) = Gs l := by
  unfold Gs
  rw [List.map_map]
  refine List.map_congr_left fun p hp => ?_
  show ents ⟨(p.2.flatMap enB).toArray⟩ 0 (cbH h) = p.2
  refine ents_all _ _ fun x hx => bdE_codes e x ?_
  have h1 := pk_flat enB l
  rw [← h1]
  exact List.mem_flatten.2 ⟨_, List.mem_map.2 ⟨_, hp, rfl⟩, hx⟩
/-- A file's parts, as both sides have them. -/
structure FF (h : Hd) (l : List En) (bl : List (List UInt8)) (ix : List En) : Prop where
  hw : 64 ≤ h.w ∧ h.w ≤ 1024
  hn : h.n = (l.length : Int)
  hs : (bl.map (·.length + 14)).sum ≤ 1099511627776
  pts : Pts (cbH h) l bl ix
  map : bl.map (enR (cbH h)) = Gs l
  hix : ix = (Gs l).map (fun B => B.headD e0)
  hne : ∀ B ∈ Gs l, B ≠ []
  hl : l.length ≤ 2097152
  hGl : (Gs l).length ≤ l.length
  hbl : bl.length ≤ 2097152
  hi : ∀ e ∈ l, 0 ≤ e.i
theorem flat_len : ∀ G : List (List En), (∀ B ∈ G, B ≠ []) → G.length ≤ G.flatten.length
  | [], _ => by simp
  | B :: G, h => by
    have h1 := flat_len G fun C hC => h C (by simp [hC])
    have h2 : 0 < B.length := List.length_pos_iff.2 (h B (by simp))
    simp only [List.length_cons, List.flatten_cons, List.length_append]
    omega
theorem FF.of {b : ByteArray} {h : Hd} {bl : List (List UInt8)} (e : opA b = some (h, bl)) (hb : b.size ≤ 1099511627776) : FF h (alA (cbH h) bl) bl (ixL (cbH h) bl) := by
  obtain ⟨r1, r2, -⟩ := opA_some e
  obtain ⟨q1, q2, q3, q4⟩ := rdA_some r1
  obtain ⟨hn, hbl⟩ := op_only e
  obtain ⟨l, hl⟩ : ∃ l, l = alA (cbH h) bl := ⟨_, rfl⟩
  rw [← hl] at r2 hbl hn ⊢
  have P := Pts.of r2
  have hm := gs_file h l r2
  rw [← hbl] at P hm
  have hne : ∀ B ∈ Gs l, B ≠ [] := by
    intro B hB
    rw [← hm] at hB
    obtain ⟨p, hp, rfl⟩ := List.mem_map.1 hB
    obtain ⟨j, hj, rfl⟩ := List.getElem_of_mem hp
    exact P.ne j hj
  have hGl : (Gs l).length ≤ l.length := by
    have h1 := flat_len _ hne
    rw [Gs_flat] at h1
    exact h1
  have hlen := (bdE_ok r2).2.1
  refine ⟨isW_bd (hdE0 q1).1, hn, Nat.le_trans q4 hb, P, hm, ?_, hne, hlen, hGl, ?_, fun e he => ((bdE_ok r2).2.2.2 e he).i.1⟩
  · rw [← hm]
    unfold ixL
    rw [List.map_map]
    refine List.map_congr_left fun p hp => ?_
    obtain ⟨j, hj, rfl⟩ := List.getElem_of_mem hp
    have h1 := P.ne j hj
    show eE (eaA ⟨bl[j].toArray⟩ 0 (cbH h)) = (ents ⟨bl[j].toArray⟩ 0 (cbH h)).headD e0
    cases h2 : ents ⟨bl[j].toArray⟩ 0 (cbH h) with
    | nil => exact absurd h2 h1
    | cons x r => exact ents_head h2
  · have h1 : bl.length = (Gs l).length := by rw [← hm, List.length_map]
    omega
theorem fnd_le {cb : Nat} {x : Int} {bl : List (List UInt8)} {t : Nat} {L : List En} (h : FndO cb x bl t L) : t ≤ bl.length := by
  rcases h with ⟨h, -⟩ | ⟨pre, y, q, rest, h1, h2, -⟩
  · omega
  · have := h1.length_le
    simp at this
    omega
theorem frm_le {cb : Nat} {p : En} {m : Int} {bl : List (List UInt8)} {t : Nat} {L : List En} (h : FrmO cb p m bl t L) : t ≤ bl.length := by
  rcases h with ⟨h, -⟩ | ⟨pre, y, q, rest, h1, h2, -⟩
  · omega
  · have := h1.length_le
    simp at this
    omega
/-- What the program's Find and From answer, as the document's. -/
def PiO (fb : Nat) (h : Hd) (bl : List (List UInt8)) (ix : List En) (bv iv : Value) (rd : Nat) (R : Nat × List En) (w : World) (r : Ending) (w' : World) : Prop :=
  ∃ v, r = .returned v ∧ w'.ownsRow 0 38 5 v R.2.length (R.2.flatMap enC) ∧ (∀ k, v.ownBlock = some k → w.heap.size ≤ k) ∧ FA w' fb h bl ix bv iv (rd + R.1) ∧ Stay (fun k => k = fb) w w' ∧ R.1 ≤ 2097152 ∧ R.2.length ≤ 2097152
theorem pfind_any (fb : Nat) (h : Hd) (l : List En) (bl : List (List UInt8)) (ix : List En) (bv iv : Value) (rd : Nat) (x : Int) (w : World) (H : FA w fb h bl ix bv iv rd) (F : FF h l bl ix) (hrd : rd + 2097152 ≤ 4611686018427387904) :
    Calls Tryz.prog 15 #[Pt fb, .int .i64 x] w (PiO fb h bl ix bv iv rd (fnD x ((Gs l).drop (rF ix ⟨x, ⟨#[]⟩, -1, 0, false⟩ - 1))) w) := by
  refine (find_any fb h bl ix bv iv rd x w H F.hw F.hs F.pts.len F.pts.upix (by have := F.hbl; omega)).mono ?_
  rintro r w' ⟨v, t, L, rfl, h1, h2, h3, h4, h5⟩
  have e := fnd_eq h1 (fun p hp => by
    obtain ⟨j, hj, rfl⟩ := List.getElem_of_mem (List.mem_of_mem_drop hp)
    exact F.pts.ne j hj) (by
    have hc := F.pts.cut (rF ix ⟨x, ⟨#[]⟩, -1, 0, false⟩ - 1)
    have hu := F.pts.up
    rw [← hc] at hu
    exact (List.pairwise_append.1 hu).2.1.imp cpE_v)
  rw [List.map_drop, F.map] at e
  rw [e]
  have := fnd_le h1
  have h8 := F.hbl
  rw [List.length_drop] at this
  have hL := F.pts.find F.hi h1
  have h9 : L.length ≤ l.length := by rw [hL]; exact (List.filter_sublist).length_le
  have h10 := F.hl
  exact ⟨v, rfl, h2, h3, h4, h5, by show t ≤ 2097152; omega, by show L.length ≤ 2097152; omega⟩
theorem pfrom_any (fb : Nat) (h : Hd) (l : List En) (bl : List (List UInt8)) (ix : List En) (bv iv : Value) (rd : Nat) (p : En) (m : Int) (w : World) (H : FA w fb h bl ix bv iv rd) (F : FF h l bl ix) (hrd : rd + 2097152 ≤ 4611686018427387904) :
    Calls Tryz.prog 16 #[Pt fb, .agg (enV p), .int .i64 m] w (PiO fb h bl ix bv iv rd (frD p m.toNat ((Gs l).drop (rF ix p - 1))) w) := by
  by_cases hm : 1 ≤ m
  · refine (from_any fb h bl ix bv iv rd p m w H F.hw F.hs F.pts.len F.pts.upix (by have := F.hbl; omega) hm).mono ?_
    rintro r w' ⟨v, t, L, rfl, h1, h2, h3, h4, h5⟩
    have e := frm_eq h1
    rw [List.map_drop, F.map] at e
    rw [e]
    have := frm_le h1
    have h8 := F.hbl
    rw [List.length_drop] at this
    have hL := F.pts.from h1
    have h9 : L.length ≤ l.length := by
      rw [hL]
      refine Nat.le_trans (List.take_sublist _ _).length_le ?_
      exact (List.filter_sublist).length_le
    have h10 := F.hl
    exact ⟨v, rfl, h2, h3, h4, h5, by show t ≤ 2097152; omega, by show L.length ≤ 2097152; omega⟩
  · refine (from_none fb p m w (by omega)).mono ?_
    rintro r w' ⟨rfl, b⟩
    have e : m.toNat = 0 := by omega
    rw [e, frD_zero]
    have H' := H.kept (.below b) (fun _ => False.elim ‹_›) (fun _ _ h => h) (fun _ _ h => h)
    exact ⟨_, rfl, ⟨by simp, .inl ⟨rfl, by simp⟩⟩, fun k hk => by simp [Value.ownBlock] at hk, H', .below b, by simp, by simp⟩
/-- Both files in memory. -/
structure BF (W : World) (fb rb : Nat) (h : Hd) (l : List En) (bl : List (List UInt8)) (ix : List En) (bv iv lv sv : Value) (rd : Nat) : Prop where
  p : FA W fb h bl ix bv iv rd
  r : RF W rb h l lv sv rd
section
variable {W W' : World} {fb rb : Nat} {h : Hd} {l : List En} {bl : List (List UInt8)} {ix : List En} {bv iv lv sv : Value} {rd rd' : Nat}
theorem p_aside (p : FA W fb h bl ix bv iv rd) (r : RF W rb h l lv sv rd') (s : Stay (fun k => k = rb) W W') : FA W' fb h bl ix bv iv rd :=
  p.kept s (fun e => by
    have h1 := p.box
    rw [e, r.box] at h1
    simp at h1) (fun k hk e => by
    obtain ⟨c, hc⟩ := row_block p.row hk
    rw [e, r.box] at hc
    simp at hc) (fun k hk e => by
    obtain ⟨c, hc⟩ := row_block p.idx hk
    rw [e, r.box] at hc
    simp at hc)
theorem RF.aside (r : RF W rb h l lv sv rd') (p : FA W fb h bl ix bv iv rd) (s : Stay (fun k => k = fb) W W') : RF W' rb h l lv sv rd' :=
  r.kept s (fun e => by
    have h1 := r.box
    rw [e, p.box] at h1
    simp at h1) (fun k hk e => by
    obtain ⟨c, hc⟩ := row_block r.row hk
    rw [e, p.box] at hc
    simp at hc) (fun k hk e => by
    obtain ⟨c, hc⟩ := row_block r.szr hk
    rw [e, p.box] at hc
    simp at hc)
theorem BF.below (H : BF W fb rb h l bl ix bv iv lv sv rd) (b : Below W.heap.size W W') : BF W' fb rb h l bl ix bv iv lv sv rd :=
  ⟨H.p.kept (.below b) (fun h => h) (fun _ _ h => h) (fun _ _ h => h), H.r.below b⟩
end
end Go.Proofs.YtjdpolhjbkpnlaaGreatDoor.Dx
