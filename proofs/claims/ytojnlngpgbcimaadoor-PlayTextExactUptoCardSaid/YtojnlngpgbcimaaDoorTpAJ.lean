/-
  DERIVED. PlText, PlSame0, as one text.
-/
import Derived.Test.YtojnlngpgbcimaaDoorTpAI
import Derived.BigQuiet
set_option linter.unusedVariables false
set_option linter.unusedSimpArgs false
namespace Go.Proofs.YtojnlngpgbcimaaDoor
open Go.RowKit Go.Maps Go.ChangeMaps Go.MapKept Go.WideShapes
/-- A step's line, if its kind has one; a script. -/
def lineK (s : St) : List UInt8 := match ofK shL s.k with
  | some f => lineF f s
  | none => []
def textK (l : List St) : List UInt8 := l.flatMap lineK
/-- A step as it lies in memory. -/
structure Mt where
  s : St
  la : Option Addr
  ca : Nat
  lb : Option Addr
  cb : Nat
def mC (m : Mt) : List Value := [.int .i64 m.s.k, .slice m.la m.s.N.length m.ca, .slice m.lb m.s.S.length m.cb, .int .i64 m.s.a, .int .i64 m.s.b, .int .i64 m.s.c]
abbrev EM : Rw.El Mt := ⟨32, 22, 6, 80, .agg #[.int .i64 0, .slice none 0 0, .slice none 0 0, .int .i64 0, .int .i64 0, .int .i64 0], mC⟩
/-- Where a step's lists lie. -/
structure MtAt (W : World) (m : Mt) : Prop where
  N : EI.At W m.la m.s.N
  S : ES.At W m.lb m.s.S
theorem MtAt.below {W W' : World} {m : Mt} (h : MtAt W m) (b : Below W.heap.size W W') : MtAt W' m := ⟨h.N.below b, h.S.below b⟩
/-- How much steps have. -/
def sumN (L : List St) : Nat := (L.map fun s => s.N.length).sum
def sumS (L : List St) : Nat := (L.map fun s => s.S.length).sum
def sumB (L : List St) : Nat := (L.map fun s => bytesS s.S).sum
theorem sum_le {α : Type} (f : α → Nat) : ∀ (L : List α) (x : α), x ∈ L → f x ≤ (L.map f).sum
  | y :: L, x, h => by
    rw [List.map_cons, List.sum_cons]
    rcases List.mem_cons.1 h with rfl | h
    · omega
    · have := sum_le f L x h; omega
structure StB (L : List St) : Prop where
  i : ∀ s ∈ L, StI s
  n : L.length ≤ 1048576
  N : sumN L ≤ 1048576
  S : sumS L ≤ 1048576
  B : sumB L ≤ 1048576
theorem ofK_mem {xs : List Sh} {k : Int} {f : Sh} (h : ofK xs k = some f) : f ∈ xs ∧ f.k = k := ⟨List.mem_of_find?_eq_some h, by have := List.find?_some h; simpa using this⟩
theorem ofK_none {xs : List Sh} {k : Int} (h : ofK xs k = none) : ∀ f ∈ xs, f.k ≠ k := fun f hf e => by
  have := List.find?_eq_none.1 h f hf
  simp [e] at this
theorem text_len : ∀ (L : List St), (∀ s ∈ L, StI s) → (textK L).length ≤ 76 * L.length + 68 * sumS L + 3 * sumB L
  | [], _ => by simp [textK]
  | s :: L, h => by
    have h1 := text_len L (fun x hx => h x (by simp [hx]))
    have h2 : (lineK s).length ≤ 76 + 68 * s.S.length + 3 * bytesS s.S := by
      unfold lineK
      cases hk : ofK shL s.k with
      | none => exact Nat.zero_le _
      | some f => exact line_len (ofK_mem hk).1 (h s (by simp))
    unfold textK sumS sumB at h1 ⊢
    rw [List.flatMap_cons, List.length_append, List.length_cons, List.map_cons, List.map_cons, List.sum_cons, List.sum_cons]
    omega
theorem sum_take {α : Type} (f : α → Nat) (L : List α) (i : Nat) : ((L.take i).map f).sum ≤ (L.map f).sum := by
  have h : (L.map f).sum = ((L.take i).map f).sum + ((L.drop i).map f).sum := by
    rw [← List.sum_append, ← List.map_append, List.take_append_drop]
  omega
theorem text_take (L : List St) (h : StB L) (i : Nat) : (textK (L.take i)).length ≤ 154140672 := by
  have h1 := text_len (L.take i) (fun s hs => h.i s (List.mem_of_mem_take hs))
  have h2 := sum_take (fun s : St => s.S.length) L i
  have h3 := sum_take (fun s : St => bytesS s.S) L i
  have h4 := h.n
  have h5 := h.S
  have h6 := h.B
  unfold sumS sumB at h1
  unfold sumS at h5
  unfold sumB at h6
  rw [List.length_take] at h1
  omega
theorem text_succ (L : List St) (i : Nat) (hi : i < L.length) : textK (L.take (i + 1)) = textK (L.take i) ++ lineK L[i] := by
  unfold textK
  rw [List.take_succ_eq_append_getElem hi, List.flatMap_append]; simp
theorem Pow.pos {w : World} (h : Pow w) : 1 < w.heap.size := by
  have hgn : Tryd.prog.globalNamed "internal/strconv.uint64pow10" = some 1 := by kernel_rfl
  unfold Pow Lib.TabIs World.var? at h
  rw [hgn] at h
  simp only [Option.bind_some] at h
  rcases Nat.lt_or_ge 1 w.heap.size with h' | h'
  · exact h'
  · rw [Array.getElem?_eq_none h'] at h; cases h
theorem Pow.lat' {w W : World} (h : Pow w) (b : Below w.heap.size w W) : Pow W := by
  have hgn : Tryd.prog.globalNamed "internal/strconv.uint64pow10" = some 1 := by kernel_rfl
  have e := b.block 1 h.pos
  unfold Pow Lib.TabIs World.var? at h ⊢
  rw [hgn] at h ⊢
  simp only [Option.bind_some] at h ⊢
  rw [e]
  exact h
theorem bd_is {w : World} {b : Nat} {p v : Value} {l : List UInt8} (h : Bd w b p v l) (B : Nat) (hb : B ≤ b) (hv : ∀ k, v.ownBlock = some k → B ≤ k) : Lib.IsBuilder 46 5 B b (Lib.byteCells l) w := by
  have hown : w.ownsRow B 5 1 v l.length (l.map BV) := by
    refine ⟨h.row.1, ?_⟩
    rcases h.row.2 with h1 | ⟨g, cap, cur, h1, h2, h3⟩
    · exact .inl h1
    · exact .inr ⟨g, cap, cur, h1, hv g (by rw [h1]; rfl), h3⟩
  have hbc : Lib.byteCells l = l.map BV := rfl
  have hne : v.ownBlock ≠ some b := fun e => h.row_b b e rfl
  have hc := h.cells
  rcases h.adr with rfl | rfl
  · exact .inl ⟨hb, v, hc, by rw [hbc, List.length_map]; exact hown, hne⟩
  · exact .inr ⟨hb, v, hc, by rw [hbc, List.length_map]; exact hown, hne⟩
theorem mt_cells {W : World} {la : Option Addr} {L : List Mt} (h : EM.At W la L) (i : Nat) (hi : i < L.length) : ∃ g off, la = some ⟨g, off, none⟩ ∧ ∀ j u, j < 6 → (mC L[i])[j]? = some u → W.cell? ⟨g, off + i * 6 + j, none⟩ = some u := by
  obtain ⟨g, off, e, hr⟩ := h.at' (fun e => by rw [e] at hi; simp at hi)
  refine ⟨g, off, e, fun j u hj hu => ?_⟩
  have hf := Rw.flat_at EM.f 6 (fun _ => rfl) L i j hi hj
  rw [Nat.add_assoc]
  exact hr (i * 6 + j) u (by rw [hf]; exact hu)
set_option maxHeartbeats 16000000 in
set_option maxRecDepth 100000 in
theorem text_any {W : World} {la : Option Addr} {cp : Nat} (L : List Mt) (h : EM.At W la L) (hm : ∀ m ∈ L, MtAt W m) (hB : StB (L.map Mt.s)) (hP : Pow W) :
    Calls Tryd.prog 9 #[.slice la L.length cp] W fun e W' => e = .returned (.string ⟨(textK (L.map Mt.s)).toArray⟩) ∧ Below W.heap.size W W' := by
  have hk := byKind_any W
  obtain ⟨n, en⟩ : ∃ n, n = L.length := ⟨_, rfl⟩
  have hn : n ≤ 1048576 := by have := hB.n; rw [List.length_map] at this; omega
  rw [← en]
  have HH := Hid.mk (And.intro h (And.intro hm (And.intro hB (And.intro hP en))))
  obtain ⟨R, hR⟩ : ∃ R : ByteArray, R = ⟨(textK (L.map Mt.s)).toArray⟩ := ⟨_, rfl⟩
  rw [← hR]
  have HR := Hid.mk hR
  clear h hm hB hP en hR
  go_enter Tryd.func9, Tryd.ntmps9
  go_wp2_with fail
  refine hk.mono ?_
  clear hk
  rintro r W1 ⟨mb, rfl, hM, b1⟩
  obtain ⟨W2, hW2⟩ : ∃ W2, W2 = W1.alloc (.cells #[.pointer none, .slice none 0 0] 46) := ⟨_, rfl⟩
  have B0 : Bd W2 W1.heap.size (.pointer none) (.slice none 0 0) [] := hW2 ▸ Bd.new W1
  have b2 : Below W1.heap.size W1 W2 := hW2 ▸ (Below.refl _ W1).alloc (Nat.le_refl _) _
  have HW := Hid.mk hW2
  have H1 := Hid.mk (And.intro hM (And.intro b1 b2))
  have HI0 := Hid.mk (show ∃ p v, BW W2 W1.heap.size (.slice none 0 0) W2 p v (textK ((L.map Mt.s).take 0)) from ⟨_, _, by have := BW.refl B0; simpa [textK] using this⟩)
  clear hM b1 b2 B0 hW2
  go_wp2
  rw [← HW.out]
  go_loopw [12] (fun u wr => ∃ i : Nat, u = .int .i64 i ∧ i ≤ n ∧ Hid (∃ p v, BW W2 W1.heap.size (.slice none 0 0) wr p v (textK ((L.map Mt.s).take i)))) (fun u _ => n - (intOf u).toNat)
  case atStart => exact ⟨0, rfl, Nat.zero_le _, HI0⟩
  case round =>
    clear HI0
    obtain ⟨i, rfl, hi, HM⟩ := hrel
    by_cases hlt : i < n
    · have i1 : (i : Int) < (n : Int) := by omega
      have i2 : (0 : Int) ≤ (i : Int) := by omega
      obtain ⟨p, v, hB⟩ := HM.out
      have hbw : Below W.heap.size W wr := by
        have e1 := H1.out.2.1
        have e2 : Below W.heap.size W W2 := e1.trans (H1.out.2.2.mono e1.size)
        exact e2.trans (hB.st.toBelow (fun k hk hf => by
          rcases hf with h1 | h1
          · have := e1.size; omega
          · cases h1) e2.size)
      have hiL : i < L.length := by rw [← HH.out.2.2.2.2]; exact hlt
      obtain ⟨g, off, rfl, hc⟩ := mt_cells (HH.out.1.below hbw) i hiL
      have hmt := HH.out.2.1 L[i] (List.getElem_mem hiL)
      have hsI := HH.out.2.2.1.i L[i].s (List.mem_map_of_mem (List.getElem_mem hiL))
      have hsn := text_succ (L.map Mt.s) i (by rw [List.length_map]; exact hiL)
      rw [List.getElem_map] at hsn
      have hs1 := sum_le (fun s : St => s.N.length) (L.map Mt.s) L[i].s (List.mem_map_of_mem (List.getElem_mem hiL))
      have hs2 := sum_le (fun s : St => s.S.length) (L.map Mt.s) L[i].s (List.mem_map_of_mem (List.getElem_mem hiL))
      have hs3 := sum_le (fun s : St => bytesS s.S) (L.map Mt.s) L[i].s (List.mem_map_of_mem (List.getElem_mem hiL))
      have hz1 := HH.out.2.2.1.N
      have hz2 := HH.out.2.2.1.S
      have hz3 := HH.out.2.2.1.B
      unfold sumN at hz1
      unfold sumS at hz2
      unfold sumB at hz3
      generalize L[i] = m at hc hmt hsI hsn hs1 hs2 hs3
      obtain ⟨⟨sk, sN, sS, sa, sb, sc⟩, ma, mca, mlb, mcb⟩ := m
      dsimp only at hs1 hs2 hs3 hsn
      have x0 := hc 0 _ (by omega) rfl
      have x1 := hc 1 _ (by omega) rfl
      have x2 := hc 2 _ (by omega) rfl
      have x3 := hc 3 _ (by omega) rfl
      have x4 := hc 4 _ (by omega) rfl
      have x5 := hc 5 _ (by omega) rfl
      dsimp only [Nat.add_zero] at x0 x1 x2 x3 x4 x5
      have hSM : SM 3 kK wr mb shL := by
        have e1 := H1.out.1.lt
        refine (H1.out.1.below H1.out.2.2).block (hB.st.block mb (by have := H1.out.2.2.size; omega) (fun hf => ?_))
        rcases hf with h1 | h1
        · omega
        · cases h1
      have htl := text_take (L.map Mt.s) HH.out.2.2.1 i
      have bA : Below wr.heap.size wr (wr.alloc (.cells #[.int .i64 sk, .slice ma sN.length mca, .slice mlb sS.length mcb, .int .i64 sa, .int .i64 sb, .int .i64 sc] 32)) := (Below.refl _ wr).alloc (Nat.le_refl _) _
      have hI := hsI.k
      cases hof : ofK shL sk with
      | none =>
        have hlk := (hSM.below bA).look law3 Tryd.underlying41 (key := .int .i64 sk) (keyOf_int_mk Tryd.underlying3 (wf_i64 hI)) none (fun p hp => by cases hp) (fun _ p hp e => ofK_none hof p hp (by unfold kK at e; injection e))
        simp only [shC, zS, Option.getD_none, Option.isSome_none] at hlk
        have hln : lineK ⟨sk, sN, sS, sa, sb, sc⟩ = [] := by unfold lineK; rw [hof]
        rw [hln, List.append_nil] at hsn
        have HB := Hid.mk (And.intro hB hsn)
        clear hB hsn HM hbw hc hmt hsI hs1 hs2 hs3 hz1 hz2 hz3 hSM htl bA hI hof hln
        go_wp2
        refine ⟨⟨i + 1, rfl, hlt, ?_⟩, by simp only [intOf]; omega⟩
        exact ⟨p, v, by rw [HB.out.2]; exact HB.out.1.below (((Below.refl _ wr).alloc (Nat.le_refl _) _).alloc (by simp) _)⟩
      | some f =>
        have hlk := (hSM.below bA).look law3 Tryd.underlying41 (key := .int .i64 sk) (keyOf_int_mk Tryd.underlying3 (wf_i64 hI)) (some f) (fun p hp => by cases hp; have h1 := ofK_mem hof; exact ⟨h1.1, by unfold kK; rw [h1.2]⟩) (fun e => by cases e)
        simp only [shC, Option.getD_some, Option.isSome_some] at hlk
        have hln : lineK ⟨sk, sN, sS, sa, sb, sc⟩ = lineF f ⟨sk, sN, sS, sa, sb, sc⟩ := by unfold lineK; rw [hof]
        rw [hln] at hsn
        have hfm := (ofK_mem hof).1
        obtain ⟨W4, hW4⟩ : ∃ W4, W4 = (wr.alloc (.cells #[.int .i64 sk, .slice ma sN.length mca, .slice mlb sS.length mcb, .int .i64 sa, .int .i64 sb, .int .i64 sc] 32)).alloc (.cells #[.int .i64 f.k, .string f.w, .int .i64 f.n, .int .i64 f.t, .bool f.o] 48) := ⟨_, rfl⟩
        have b4 : Below wr.heap.size wr W4 := hW4 ▸ bA.alloc (by simp) _
        have hB4 := hB.below b4
        have hV : ∀ V, Stay (fun k => k = W1.heap.size ∨ v.ownBlock = some k) W4 V → Below W.heap.size W V := fun V st => by
          have e1 := hbw.trans (b4.mono hbw.size)
          refine e1.trans (st.toBelow (fun k hk hf => ?_) e1.size)
          have e2 := H1.out.2.1.size
          rcases hf with h1 | h1
          · omega
          · rcases hB.loc k h1 with h2 | h2
            · cases h2
            · have := H1.out.2.2.size; omega
        have hwr := write_any f hfm ⟨sk, sN, sS, sa, sb, sc⟩ hsI (la := ma) (lb := mlb) (ca := mca) (cb := mcb) hB4.bd (fun V st => hmt.N.below (hV V st)) (fun V st => hmt.S.below (hV V st)) (fun V st => by
          have e1 := hV V st
          exact HH.out.2.2.2.1.lat' e1) (by show sN.length ≤ _; omega) (by show sS.length ≤ _; omega) (by show bytesS sS ≤ _; omega) (by omega)
        dsimp only [shC] at hwr
        have HB := Hid.mk (And.intro hB4 hsn)
        have HW4 := Hid.mk hW4
        clear hB hB4 hsn HM hbw hc hmt hsI hs1 hs2 hs3 hz1 hz2 hz3 hSM htl bA hI hof hln hV hW4 b4 hfm
        go_wp2_with fail
        rw [← HW4.out]
        refine hwr.mono ?_
        clear hwr
        rintro r w6 ⟨rfl, p6, v6, h6⟩
        have HN := Hid.mk (show ∃ p v, BW W2 W1.heap.size (.slice none 0 0) w6 p v (textK ((L.map Mt.s).take (i + 1))) from ⟨p6, v6, by rw [HB.out.2]; exact HB.out.1.trans h6⟩)
        clear h6
        go_wp2
        exact ⟨⟨i + 1, rfl, hlt, HN⟩, by simp only [intOf]; omega⟩
    · have e : i = n := by omega
      obtain ⟨p, v, hB⟩ := HM.out
      have hlt2 : (L.map Mt.s).take i = L.map Mt.s := List.take_of_length_le (by rw [List.length_map, e, HH.out.2.2.2.2]; exact Nat.le_refl _)
      rw [hlt2] at hB
      have e1 := H1.out.2.1
      have e2 : Below W.heap.size W W2 := e1.trans (H1.out.2.2.mono e1.size)
      have hbw : Below W.heap.size W wr := e2.trans (hB.st.toBelow (fun k hk hf => by
          rcases hf with h1 | h1
          · have := e1.size; omega
          · cases h1) e2.size)
      have hst := Tryd.Builder_String_any W.heap.size W1.heap.size _ wr (bd_is hB.bd W.heap.size e1.size (fun k hk => by
        rcases hB.loc k hk with h1 | h1
        · cases h1
        · have := e2.size; omega)) hbw.size
      rw [← HR.out] at hst
      have HF := Hid.mk hbw
      clear hB hlt2 e1 e2 hbw HM hlt
      subst e
      go_wp2_with fail
      refine hst.mono ?_
      clear hst
      rintro r w7 ⟨rfl, b7⟩
      have HG := Hid.mk (HF.out.trans b7)
      clear b7
      go_wp2
      go_ret
      exact ⟨rfl, HG.out⟩
end Go.Proofs.YtojnlngpgbcimaaDoor
set_option linter.unusedVariables false
set_option linter.unusedSimpArgs false
namespace Go.Proofs.YtojnlngpgbcimaaDoor
open Go.RowKit
set_option maxRecDepth 100000 in
set_option maxHeartbeats 8000000 in
theorem sameInts_any {w : World} {la lb : Option Addr} {ca cb : Nat} (l : List Int) (h1 : EI.At w la l) (h2 : EI.At w lb l) (hl : l.length ≤ 1099511627776) :
    Calls Tryd.prog 22 #[.slice la l.length ca, .slice lb l.length cb] w fun e w' => e = .returned (.bool true) ∧ Drew w w' := by
  obtain ⟨n, hn⟩ : ∃ n, n = l.length := ⟨_, rfl⟩
  have hx := fun i (hi : i < l.length) => (⟨iAt h1 i hi, iAt h2 i hi⟩ : (∃ g off, la = some ⟨g, off, none⟩ ∧ w.cell? ⟨g, off + i, none⟩ = some (.int .i64 l[i])) ∧ (∃ g off, lb = some ⟨g, off, none⟩ ∧ w.cell? ⟨g, off + i, none⟩ = some (.int .i64 l[i])))
  rw [← hn] at hl ⊢
  have HX := Hid.mk (And.intro hn hx)
  clear hn hx h1 h2
  go_enter Tryd.func22, Tryd.ntmps22
  go_wp2
  go_loopw [5] (fun u wr => ∃ i : Nat, u = .int .i64 i ∧ i ≤ n ∧ Drew w wr) (fun u _ => n - (intOf u).toNat)
  case atStart => exact ⟨0, rfl, Nat.zero_le _, Drew.refl _⟩
  case round =>
    obtain ⟨i, rfl, hi, hd⟩ := hrel
    by_cases hlt : i < n
    · have hiL : i < l.length := by rw [← HX.out.1]; exact hlt
      obtain ⟨⟨g1, o1, rfl, x0⟩, ⟨g2, o2, rfl, y0⟩⟩ := HX.out.2 i hiL
      generalize l[i] = x at x0 y0
      have hcell : ∀ a : Addr, wr.cell? a = w.cell? a := fun a => by obtain ⟨m, rfl⟩ := hd; exact World.cell?_drewN _ _ _
      rw [← hcell] at x0 y0
      have i1 : (i : Int) < (n : Int) := by omega
      have i2 : 0 ≤ (i : Int) := by omega
      clear hcell
      go_wp2
      go_quiet (fail)
      go_wp2
      refine ⟨⟨i + 1, rfl, hlt, hd.more _⟩, by simp only [intOf]; omega⟩
    · go_wp2
      go_ret
      exact ⟨rfl, hd⟩
set_option maxRecDepth 100000 in
set_option maxHeartbeats 8000000 in
theorem sameWords_any {w : World} {la lb : Option Addr} {ca cb : Nat} (l : List ByteArray) (h1 : ES.At w la l) (h2 : ES.At w lb l) (hl : l.length ≤ 1099511627776) :
    Calls Tryd.prog 23 #[.slice la l.length ca, .slice lb l.length cb] w fun e w' => e = .returned (.bool true) ∧ Drew w w' := by
  obtain ⟨n, hn⟩ : ∃ n, n = l.length := ⟨_, rfl⟩
  have hx := fun i (hi : i < l.length) => (⟨sAt h1 i hi, sAt h2 i hi⟩ : (∃ g off, la = some ⟨g, off, none⟩ ∧ w.cell? ⟨g, off + i, none⟩ = some (.string l[i])) ∧ (∃ g off, lb = some ⟨g, off, none⟩ ∧ w.cell? ⟨g, off + i, none⟩ = some (.string l[i])))
  rw [← hn] at hl ⊢
  have HX := Hid.mk (And.intro hn hx)
  clear hn hx h1 h2
  go_enter Tryd.func23, Tryd.ntmps23
  go_wp2
  go_loopw [5] (fun u wr => ∃ i : Nat, u = .int .i64 i ∧ i ≤ n ∧ Drew w wr) (fun u _ => n - (intOf u).toNat)
  case atStart => exact ⟨0, rfl, Nat.zero_le _, Drew.refl _⟩
  case round =>
    obtain ⟨i, rfl, hi, hd⟩ := hrel
    by_cases hlt : i < n
    · have hiL : i < l.length := by rw [← HX.out.1]; exact hlt
      obtain ⟨⟨g1, o1, rfl, x0⟩, ⟨g2, o2, rfl, y0⟩⟩ := HX.out.2 i hiL
      generalize l[i] = x at x0 y0
      have hcell : ∀ a : Addr, wr.cell? a = w.cell? a := fun a => by obtain ⟨m, rfl⟩ := hd; exact World.cell?_drewN _ _ _
      rw [← hcell] at x0 y0
      have i1 : (i : Int) < (n : Int) := by omega
      have i2 : 0 ≤ (i : Int) := by omega
      clear hcell
      go_wp2
      go_quiet (fail)
      go_wp2
      refine ⟨⟨i + 1, rfl, hlt, hd.more _⟩, by simp only [intOf]; omega⟩
    · go_wp2
      go_ret
      exact ⟨rfl, hd⟩
end Go.Proofs.YtojnlngpgbcimaaDoor
