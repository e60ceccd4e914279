/-
  DERIVED. DLen, DBuild, DImage, as one text.
-/
import Derived.Test.YtcamnalmcghjfaaGreatDoorTzAH
set_option linter.unusedVariables false
set_option linter.unusedSimpArgs false
set_option linter.unnecessarySimpa false
namespace Go.Proofs.YtcamnalmcghjfaaGreatDoor.Dk
open Go.RowKit Go.Maps Go.Proofs.DiskMath
/-- A length in so many bytes, the highest first. -/
def byteAt (n f i : Nat) : Nat := n / 2 ^ (8 * (f - 1 - i)) % 256
def beL (n f : Nat) : List UInt8 := (List.range f).map fun i => UInt8.ofNat (byteAt n f i)
theorem beL_len (n f : Nat) : (beL n f).length = f := by simp [beL]
set_option maxHeartbeats 4000000 in
set_option maxRecDepth 100000 in
theorem length_any (n f : Nat) (w : World) (hn : n ≤ 268435456) (hf : 1 ≤ f) (hf4 : f ≤ 4) (R : Ending → World → Prop)
    (h1 : ∀ w', w'.ownsRow w.heap.size 5 1 (.slice (some ⟨w.heap.size, 0, none⟩) f f) f ((beL n f).map BV) → Below w.heap.size w w' → R (.returned (.slice (some ⟨w.heap.size, 0, none⟩) f f)) w') :
    Calls Tryz.prog 41 #[.int .i64 n, .int .i64 f] w R := by
  obtain ⟨i0, hi, hz0, hz1, hz2⟩ := info_parts Tryz.info5
  obtain ⟨M, hM⟩ : ∃ M, M = madeCells (Value.int .u8 0).cells (((f : Nat) : Int).toNat * i0.size) := ⟨_, rfl⟩
  have hMs : M.size = f := by rw [hM, size_madeCells, hz1]; simp
  have hmk : ∀ W : World, (Instr.makeSlice 64 (.int .i64 (f : Int)) (.int .i64 (f : Int))).run Tryz.prog W = .ok (.slice (some ⟨W.heap.size, 0, none⟩) f f) (W.alloc (.cells M 5)) := fun W => by
    have h := run_make (P := Tryz.prog) W 64 5 i0 (.int .u8 0) Tryz.underlying64 hi hz0 .i64 .i64 (f : Int) (f : Int) (by omega) (by omega) (by rw [hz2]; omega) (by omega)
    rw [← hM] at h
    simpa using h
  have HR := Hid.mk h1
  clear h1 hM
  go_enter Tryz.func41, Tryz.ntmps41
  go_wp2
  go_loopw [11] (fun v wr => ∃ (i : Nat) (cur : Array Value), v = .int .i64 i ∧ i ≤ f ∧ wr.heap[w.heap.size]? = some (.cells cur 5 (0, 0)) ∧ Hid (cur.size = f ∧ ∀ j, j < i → cur[j]? = some (.int .u8 (byteAt n f j))) ∧ Below w.heap.size w wr) (fun v _ => f - (intOf v).toNat)
  case atStart => exact ⟨0, M, rfl, Nat.zero_le _, heap_alloc_new w _, ⟨hMs, fun j hj => by omega⟩, (Below.refl _ w).alloc (Nat.le_refl _) _⟩
  case round =>
    obtain ⟨i, cur, rfl, hi2, hg, HC, hb⟩ := hrel
    by_cases hlt : i < f
    · have z : wr.frozen? ⟨w.heap.size, i, none⟩ = false := by simp [World.frozen?, hg]
      have hc : ∃ v, wr.cell? ⟨w.heap.size, i, none⟩ = some v := by
        have := HC.out.1
        refine ⟨cur[i]'(by omega), ?_⟩
        simp [World.cell?, hg, show i < cur.size by omega]
      obtain ⟨v, hc⟩ := hc
      obtain ⟨s, hs⟩ : ∃ s : Nat, s = 8 * (f - 1 - i) := ⟨_, rfl⟩
      have hsI : (8 : Int) * ((f : Int) - 1 - (i : Int)) = (s : Int) := by omega
      have hs24 : s ≤ 24 := by omega
      go_wp2
      refine ⟨⟨i + 1, cur.setIfInBounds i (.int .u8 ((n : Int) / 2 ^ (8 * (f - 1 - i)) % 256)), rfl, hlt, heap_setCell_same wr _ i _ _ _ hg, ⟨by simpa using HC.out.1, fun j hj => ?_⟩, hb.setCell (p := ⟨w.heap.size, i, none⟩) (Nat.le_refl _) _⟩, by simp only [intOf]; omega⟩
      rw [Array.getElem?_setIfInBounds]
      by_cases hij : i = j
      · subst hij
        have := HC.out.1
        rw [if_pos rfl, if_pos (by omega)]
        unfold byteAt
        simp
      · rw [if_neg hij]
        exact HC.out.2 j (by omega)
    · have e1 : i = f := by omega
      subst e1
      have hR := Hid.mk (HR.out wr ⟨by simp [beL], .inr ⟨w.heap.size, i, cur, rfl, Nat.le_refl _, hg, Nat.le_refl _, by unfold maxLen; omega, by rw [HC.out.1]; omega, by
        have hszc := HC.out.1
        rw [List.take_of_length_le (by rw [Array.length_toList]; omega)]
        apply List.ext_getElem?
        intro j
        rw [Array.getElem?_toList]
        by_cases hj : j < i
        · rw [HC.out.2 j hj]
          have hb1 : byteAt n i j < 256 := Nat.mod_lt _ (by omega)
          simp [beL, hj, BV, Nat.mod_eq_of_lt hb1]
        · rw [Array.getElem?_eq_none (by rw [HC.out.1]; omega)]
          rw [List.getElem?_eq_none (by rw [List.length_map, beL_len]; omega)]⟩⟩ hb)
      clear HR
      go_wp2
      exact hR.out
/-- A sum over the files that are no longer to come. -/
def wU (f : Ent → Nat) (es : List Ent) (left : Lit → Bool) : Nat := (es.map fun e => if left (.string e.nm) then 0 else f e).sum
theorem wU_cons (f : Ent → Nat) (e : Ent) (r : List Ent) (left : Lit → Bool) : wU f (e :: r) left = (if left (.string e.nm) then 0 else f e) + wU f r left := by simp [wU]
theorem wU_gone (f : Ent → Nat) {r : List Ent} (left : Lit → Bool) {x : List UInt8} (h : ∀ a ∈ r, a.nm ≠ x) : wU f r (strike left x) = wU f r left := by
  induction r with
  | nil => rfl
  | cons z r ih =>
    rw [wU_cons, wU_cons, ih (fun a ha => h a (by simp [ha])), strike_other left (h z (by simp))]
theorem wU_step (f : Ent → Nat) {es : List Ent} (hs : Srt es) {e : Ent} (he : e ∈ es) (left : Lit → Bool) (hl : left (.string e.nm) = true) : wU f es (strike left e.nm) = wU f es left + f e := by
  induction es with
  | nil => cases he
  | cons z r ih =>
    have h1 := List.pairwise_cons.1 hs
    rw [wU_cons, wU_cons]
    by_cases hz : z.nm = e.nm
    · have := Srt.uniq hs (List.mem_cons_self ..) he hz
      subst this
      have hr : ∀ a ∈ r, a.nm ≠ z.nm := fun a ha e1 => by have := h1.1 a ha; rw [e1] at this; exact List.lt_irrefl _ this
      rw [strike_same, hl, wU_gone f left hr]
      simp; omega
    · rw [strike_other left hz]
      rcases List.mem_cons.1 he with rfl | he
      · exact absurd rfl hz
      · rw [ih h1.2 he]; omega
theorem wU_le (f : Ent → Nat) (es : List Ent) (left : Lit → Bool) : wU f es left ≤ (es.map f).sum := by
  induction es with
  | nil => exact Nat.le_refl _
  | cons z r ih =>
    rw [wU_cons]
    simp only [List.map_cons, List.sum_cons]
    split <;> omega
theorem wU_start (f : Ent → Nat) {es : List Ent} {left : Lit → Bool} (h : ∀ e ∈ es, left (.string e.nm) = true) : wU f es left = 0 := by
  induction es with
  | nil => rfl
  | cons z r ih => rw [wU_cons, ih (fun e he => h e (by simp [he])), h z (by simp)]; rfl
def imgW (e : Ent) : Nat := 5 + e.nm.length + e.du
theorem nm_len {n : List UInt8} (h : isNm n = true) : 1 ≤ n.length ∧ n.length ≤ 32 := by
  unfold isNm at h; simp at h; exact ⟨h.1.1, h.1.2⟩
theorem imgW_sum {es : List Ent} (h1 : ∀ e ∈ es, isNm e.nm = true) (h2 : ∀ e ∈ es, e.du ≤ e.da.length) : (es.map imgW).sum ≤ 37 * es.length + used es := by
  induction es with
  | nil => exact Nat.zero_le _
  | cons z r ih =>
    have := ih (fun e he => h1 e (by simp [he])) (fun e he => h2 e (by simp [he]))
    have a1 := nm_len (h1 z (by simp))
    have a2 := h2 z (by simp)
    have e1 : used (z :: r) = z.da.length + used r := by simp [used]
    simp only [List.map_cons, List.sum_cons, List.length_cons]
    unfold imgW at *
    omega
set_option maxHeartbeats 4000000 in
set_option maxRecDepth 100000 in
theorem imageSize_any {p mb : Nat} {es : List Ent} {c : Ctl} (w : World) (h : DK w p mb es c) (R : Ending → World → Prop) (h1 : ∀ (n : Nat) w', n ≤ 2000000000 → Below w.heap.size w w' → R (.returned (.int .i64 n)) w') :
    Calls Tryz.prog 37 #[Pt p] w R := by
  obtain ⟨p0, -⟩ := h.cell
  have hown := h.hm
  have hbl := hown.lt
  have HR := Hid.mk h1
  have hbd : (es.map imgW).sum ≤ 1500000000 := by
    have := imgW_sum h.nms (fun e he => (h.hf e he).du)
    have h2 := h.many
    have h3 := h.full
    have h4 := h.cap
    omega
  have hhas : ∀ e ∈ es, Maps.has (dmap es) (.string e.nm) = true := fun e he => by rw [dmap_has, h.srt.find he]; rfl
  have hst := wU_start imgW hhas
  have HD := Hid.mk (And.intro hst hhas)
  clear h1 hst hhas
  obtain ⟨H, hH⟩ : ∃ H, H = w.heap.size := ⟨_, rfl⟩
  go_enter Tryz.func37, Tryz.ntmps37
  go_wp2_with (first
    | (at_range; refine wpList_range_own _ rfl _ 51 rfl 9 62 law9 Tryz.underlying51 _ mb es.length _ rfl hown ?_; intro w0 hrg0 hg0 hs0)
    | go_in)
  go_frame
  go_loopw [3] (fun v wr => ∃ (left : Lit → Bool) (cnt : Nat), wr.ranges Tryz.prog 9 ptrE mb w.heap.size es.length (dmap es) left cnt ∧ v = .int .i64 ((1 + wU imgW es left : Nat) : Int) ∧ Below w.heap.size w wr) (fun _ wr => wr.rangeLeft mb w.heap.size)
  case atStart => exact ⟨_, _, hrg0, by rw [HD.out.1]; rfl, (Below.refl _ _).grown hg0 (Nat.le_refl _) (fun j hj => by cases hj)⟩
  case round =>
    obtain ⟨left, cnt, hrg, rfl, hnx⟩ := hrel
    have hwl := wU_le imgW es left
    go_wp2_with (first
      | (at_next; refine wpList_next_ranges _ rfl _ rfl 9 law9 ptrE encStr Value.pointer (fun key kl hk => by obtain ⟨x, hx, _⟩ := Maps.keyOf_str Tryz.underlying9 hk; exact ⟨x, hx⟩) (fun v y hv => ptrE_inv hv) mb w.heap.size es.length _ _ _ rfl hrg ?_ ?_)
      | go_in)
    · intro hc0 hl0
      have hR := Hid.mk (HR.out (1 + wU imgW es left) wr (by omega) hnx)
      clear HR
      go_wp2
      exact hR.out
    · intro x cc kl yd yp w2 cnt2 hkey hlk hv hat hrg2 hlt hg2 hs2 hen
      obtain ⟨x', ex, rfl, _⟩ := Maps.keyOf_str Tryz.underlying9 hkey
      obtain rfl : x = x' := encStr_inj ex
      have hat0 := hat .nil
      rw [dmap_at] at hat0
      cases hfe : findE es x with
      | none =>
        have h1 := hat .nil
        have h2 := hat (.lit (.bool true))
        rw [dmap_at, hfe] at h1 h2
        rw [← h2] at h1; cases h1
      | some e =>
        rw [hfe] at hat0
        dsimp only at hat0
        rw [← hat0] at hv
        have hcc := ptrE_block hv
        obtain rfl : cc = some ⟨e.fb, 0, none⟩ := by simpa using hcc
        obtain ⟨he, hex⟩ := findE_mem hfe
        have HU := Hid.mk (wU_step imgW h.srt he left (by rw [hex]; exact hlk))
        have fe := h.hf e he
        have hnx2 : Below w.heap.size w w2 := hnx.grown hg2 hnx.size (fun j hj => by cases hj; exact Nat.le_refl _)
        have c1 : w2.cell? ⟨e.fb, 1, none⟩ = some (.int .i64 e.du) := (hnx2.cell (p := ⟨e.fb, 1, none⟩) (Array.getElem?_eq_some_iff.1 fe.cells).1).trans fe.cell.2
        have hx32 := nm_len (h.nms e he)
        rw [hex] at hx32
        have hdu := fe.du
        have hda := fe.da
        have HI : Hid (imgW e = 5 + x.length + e.du ∧ e.nm = x) := ⟨by unfold imgW; rw [hex], hex⟩
        clear hs2 hcc hfe hat hat0 hv hkey ex hex
        unfold encStr at *
        go_wp2
        refine ⟨⟨strike left x, cnt2, hrg2, ?_, hnx2⟩, ?_⟩
        · have h3 := HU.out
          rw [HI.out.1, HI.out.2] at h3
          rw [h3]
          refine ival ?_
          omega
        · rw [hrg2.left_eq, hrg.left_eq]; exact hlt
end Go.Proofs.YtcamnalmcghjfaaGreatDoor.Dk
set_option linter.unusedVariables false
set_option linter.unusedSimpArgs false
set_option linter.unnecessarySimpa false
namespace Go.Proofs.YtcamnalmcghjfaaGreatDoor.Dk
open Go.RowKit Go.Maps Go.Proofs.DiskMath
/-- A builder in block b, its buffer v, holding these bytes. -/
structure Bd (w : World) (b : Nat) (v : Value) (l : List UInt8) : Prop where
  cells : w.heap[b]? = some (.cells #[Pt b, v] 80 (0, 0))
  row : w.ownsRow 0 5 1 v l.length (l.map BV)
theorem Bd.row_b {w : World} {b : Nat} {v : Value} {l : List UInt8} (h : Bd w b v l) (k : Nat) (hk : v.ownBlock = some k) : k ≠ b := fun e1 => by
  obtain ⟨cur, hc⟩ := row_block h.row hk
  rw [e1, h.cells] at hc
  simp at hc
theorem Bd.kept {w w' : World} {b : Nat} {v : Value} {l : List UInt8} {F : Nat → Prop} (h : Bd w b v l) (s : Stay F w w') (h1 : ¬ F b) (h2 : ∀ k, v.ownBlock = some k → ¬ F k) : Bd w' b v l :=
  ⟨(s.block b (Array.getElem?_eq_some_iff.1 h.cells).1 h1).trans h.cells, row_kept h.row s h2⟩
set_option maxHeartbeats 4000000 in
set_option maxRecDepth 100000 in
theorem copyCheck_any {b : Nat} {v : Value} {l : List UInt8} (w : World) (h : Bd w b v l) :
    Calls Tryz.prog 65 #[Pt b] w fun r w' => r = .returned (.tuple #[]) ∧ w' = w := by
  have c0 : w.cell? ⟨b, 0, none⟩ = some (Pt b) := by simp [World.cell?, h.cells]
  have hq : (binOp .neq 78 (Pt b) (Pt b)).run Tryz.prog w = .ok (.bool false) w := by
    obtain ⟨j, hj⟩ : ∃ j, Tryz.prog.info? 80 = some j := Option.isSome_iff_exists.1 (by kernel_rfl)
    exact Lib.run_neq_ptr_same w ⟨b, 0, none⟩ Tryz.underlying78 hj
  go_enter Tryz.func65, Tryz.ntmps65
  go_wp2
  go_end0
  exact ⟨rfl, rfl⟩
theorem append_str2 (w : World) (ty : TypeId) (v : Value) (da : List UInt8) (h : w.ownsRow 0 5 1 v da.length (da.map BV)) (s : ByteArray) (hb : da.length + s.size ≤ 140737488355328) :
    ∃ v' w', (Builtin.append_ #[64, 9] ty #[v, .string s]).run Tryz.prog w = .ok v' w' ∧ w'.ownsRow 0 5 1 v' (da ++ s.data.toList).length ((da ++ s.data.toList).map BV) ∧ Stay (fun k => v.ownBlock = some k) w w' ∧
      (∀ k, v'.ownBlock = some k → v.ownBlock = some k ∨ w.heap.size ≤ k) := by
  obtain ⟨i0, hi, hz0, hz1, hz2⟩ := info_parts Tryz.info5
  obtain ⟨v', w', hr, ho, hg, hnil⟩ := Lib.run_append_own_string (P := Tryz.prog) w 0 64 9 ty 5 i0 Tryz.underlying64 Tryz.underlying9 hi hz0 hz1 hz2 v da.length _ h s (by unfold maxLen; omega) (by omega) (Nat.zero_le _)
  refine ⟨v', w', hr, ?_, .grown hg (fun k hk => hk), ?_⟩
  · rw [strCells_BV, ← List.map_append] at ho
    rw [List.length_append, nm_size]; exact ho
  · intro k hk
    rcases h.2 with ⟨rfl, hn⟩ | ⟨g, cap, cur, rfl, _, hgc, hnc, hcm, hcs, htake⟩
    · have h' : w.ownsRow w.heap.size 5 1 (.slice none 0 0) 0 [] := World.ownsRow_nil _ _ _ _
      obtain ⟨v2, w2, hr2, ho2, _, _⟩ := Lib.run_append_own_string (P := Tryz.prog) w w.heap.size 64 9 ty 5 i0 Tryz.underlying64 Tryz.underlying9 hi hz0 hz1 hz2 _ 0 _ h' s (by unfold maxLen; omega) (by omega) (Nat.le_refl _)
      rw [hr] at hr2
      cases hr2
      exact .inr (ho2.lt k hk).1
    · by_cases hroom : da.length + s.size ≤ cap
      · have hr2 := Lib.run_append_room_string (P := Tryz.prog) w 64 9 ty 5 i0 Tryz.underlying64 Tryz.underlying9 hi hz1 g da.length cap cur hgc s hroom (by rw [hcs]; omega)
        rw [hr] at hr2
        cases hr2
        exact .inl hk
      · have holds := h.cells (g := g) rfl
        have hr2 := Lib.run_append_grow_string (P := Tryz.prog) w 64 9 ty 5 i0 (.int .u8 0) Tryz.underlying64 Tryz.underlying9 hi hz0 ⟨g, 0, none⟩ da.length cap (da.map BV) (by rw [hz1]; simp) holds s (by omega) (by omega) (by rw [hz2]; exact growslice_fits (by omega) (by omega))
        rw [hr] at hr2
        cases hr2
        cases hk
        exact .inr (Nat.le_refl _)
/-- append, as it was reckoned ahead. -/
theorem wpList_append_eq {P : Program} {w : World} {ops : Array Oper} {rest : List Oper} {o : Oper} {a : Act} {Q : Exit → Act → World → Prop} (hgd : o.guard = none) (s x : Operand) (t u : TypeId)
    (ho : o.op = .call { callee := .builtin .append, args := #[s, x], argTypes := #[t, u] }) (v xv v' : Value) (w' : World) (hs : a.eval s = v) (hx : a.eval x = xv) (hr : (Builtin.append_ #[t, u] o.type #[v, xv]).run P w = .ok v' w')
    (h : wpList P ops Q rest (a.put o.dst v') w') : wpList P ops Q (o :: rest) a w := by
  refine wpList_plain hgd fun K hK => ?_
  unfold Oper.wp execOp
  simp only [ho, resolve, invoke, builtin, Sem.run_bind, Sem.run_pure, Result.andThen_ok, List.map_toArray, List.map_cons, List.map_nil, hs, hx, hr]
  exact hK _ _ h
/-- append of bytes that lie somewhere. -/
theorem append_row (w : World) (ty : TypeId) (v : Value) (da : List UInt8) (h : w.ownsRow 0 5 1 v da.length (da.map BV)) (a : Option Addr) (xs : List UInt8) (cap : Nat) (hsrc : ∀ j (hj : j < xs.length), ∃ ad, a = some ad ∧ w.cell? (ad.add j) = some (BV xs[j])) (hb : da.length + xs.length ≤ 140737488355328) :
    ∃ v' w', (Builtin.append_ #[64, 64] ty #[v, .slice a xs.length cap]).run Tryz.prog w = .ok v' w' ∧ w'.ownsRow 0 5 1 v' (da ++ xs).length ((da ++ xs).map BV) ∧ Stay (fun k => v.ownBlock = some k) w w' ∧
      (∀ k, v'.ownBlock = some k → v.ownBlock = some k ∨ w.heap.size ≤ k) := by
  obtain ⟨i0, hi, hz0, hz1, hz2⟩ := info_parts Tryz.info5
  by_cases h0 : xs.length = 0
  · have hx : xs = [] := List.eq_nil_of_length_eq_zero h0
    subst hx
    obtain ⟨a0, c0, hv, hc0⟩ := slice_form h
    refine ⟨v, w, ?_, by simpa using h, .refl _ _, fun k hk => .inl hk⟩
    subst hv
    have hf : (Builtin.firstCells 1 0 (.slice a 0 cap)).run Tryz.prog w = .ok #[] w := by cases a <;> simp [Builtin.firstCells, loadCells, loadCellsFrom]
    simp [Builtin.append_, run_underlying Tryz.underlying64, sizeOf, typeInfo, hi, hz1, Builtin.lenOf, hf, hc0]
    cases a0 <;> simp [storeCells]
  · obtain ⟨ad, rfl, -⟩ := hsrc 0 (by omega)
    have hcells : ∀ j u, (xs.map BV)[j]? = some u → w.cell? (ad.add j) = some u := fun j u hu => by
      rw [List.getElem?_map] at hu
      by_cases hj : j < xs.length
      · obtain ⟨ad', he, hc⟩ := hsrc j hj
        cases he
        rw [List.getElem?_eq_getElem hj] at hu
        simp only [Option.map_some, Option.some.injEq] at hu
        rw [hc, hu]
      · rw [List.getElem?_eq_none (by omega)] at hu; simp at hu
    have h1c : ∀ u ∈ xs.map BV, u.oneCell' = true := fun u hu => by
      obtain ⟨x, _, rfl⟩ := List.mem_map.1 hu; rfl
    obtain ⟨v', w', hr, ho, hg, _, hloc⟩ := run_append_own_at (P := Tryz.prog) w 0 64 ty 5 i0 (.int .u8 0) 1 1 Tryz.underlying64 hi hz0 hz1 hz2 rfl (by decide) v da.length _ h ad xs.length cap (xs.map BV) (by simp) hcells h1c (by unfold maxLen; omega) (by omega) (Nat.zero_le _)
    refine ⟨v', w', hr, by rw [List.length_append, List.map_append]; exact ho, .grown hg (fun k hk => hk), fun k hk => ?_⟩
    rcases hloc with hl | hl
    · exact .inl (hl ▸ hk)
    · rw [hl] at hk; cases hk; exact .inr (Nat.le_refl _)
theorem bd_fin {w w1 : World} {b : Nat} {v v' : Value} {l l' : List UInt8} (h : Bd w b v l) (ho : w1.ownsRow 0 5 1 v' l'.length (l'.map BV)) (s1 : Stay (fun k => v.ownBlock = some k) w w1) (hloc : ∀ k, v'.ownBlock = some k → v.ownBlock = some k ∨ w.heap.size ≤ k) :
    Bd (w1.setCell ⟨b, 1, none⟩ v') b v' l' ∧ Stay (fun k => k = b ∨ v.ownBlock = some k) w (w1.setCell ⟨b, 1, none⟩ v') := by
  have lb := (Array.getElem?_eq_some_iff.1 h.cells).1
  have hb1 : w1.heap[b]? = _ := (s1.block b lb (fun hk => h.row_b b hk rfl)).trans h.cells
  have s2 : Stay (· = b) w1 (w1.setCell ⟨b, 1, none⟩ v') := (Stay.refl (· = b) w1).setCell (p := ⟨b, 1, none⟩) (fun _ => rfl) _
  refine ⟨⟨heap_setCell_same w1 b 1 _ _ _ hb1, row_kept ho s2 fun k hk e1 => ?_⟩, (s1.mono fun k _ hk => .inr hk).setCell (p := ⟨b, 1, none⟩) (fun _ => .inl rfl) _⟩
  rcases hloc k hk with h1 | h1
  · exact h.row_b k h1 e1
  · omega
set_option maxHeartbeats 4000000 in
set_option maxRecDepth 100000 in
theorem wstr_any {b : Nat} {v : Value} {l : List UInt8} (s : ByteArray) (w : World) (h : Bd w b v l) (hb : l.length + s.size ≤ 140737488355328) (R : Ending → World → Prop)
    (h1 : ∀ v' w', Bd w' b v' (l ++ s.data.toList) → Stay (fun k => k = b ∨ v.ownBlock = some k) w w' → (∀ k, v'.ownBlock = some k → v.ownBlock = some k ∨ w.heap.size ≤ k) → R (.returned (.tuple #[.int .i64 s.size, .nilIface])) w') :
    Calls Tryz.prog 38 #[Pt b, .string s] w R := by
  obtain ⟨v', w1, hr, ho, s1, hloc⟩ := append_str2 w 64 v l h.row s hb
  obtain ⟨hB, hS⟩ := bd_fin h ho s1 hloc
  have hR := Hid.mk (h1 _ _ hB hS hloc)
  have lb := (Array.getElem?_eq_some_iff.1 h.cells).1
  have hb1 : w1.heap[b]? = _ := (s1.block b lb (fun hk => h.row_b b hk rfl)).trans h.cells
  obtain ⟨a, cap, hv, -⟩ := slice_form h.row
  obtain ⟨a', cap', hv', -⟩ := slice_form ho
  have c1 : w.cell? ⟨b, 1, none⟩ = some v := by simp [World.cell?, h.cells]
  have c1' : w1.cell? ⟨b, 1, none⟩ = some v := by simp [World.cell?, hb1]
  have z1' : w1.frozen? ⟨b, 1, none⟩ = false := by simp [World.frozen?, hb1]
  have hcc := copyCheck_any w h
  clear h1 hB hS
  obtain ⟨n', hn'⟩ : ∃ n', n' = (l ++ s.data.toList).length := ⟨_, rfl⟩
  rw [← hn'] at hv'
  clear hn'
  rw [hv] at c1 hr
  rw [hv'] at hr hR
  go_enter Tryz.func38, Tryz.ntmps38
  go_wp2_with fail
  refine hcc.mono ?_
  rintro r w' ⟨rfl, rfl⟩
  go_wp2_with (at_builtin; refine wpList_append_eq rfl _ _ _ _ rfl _ _ _ _ rfl rfl hr ?_)
  exact hR.out
set_option maxHeartbeats 4000000 in
set_option maxRecDepth 100000 in
theorem wrow_any {b : Nat} {v : Value} {l : List UInt8} (a : Option Addr) (xs : List UInt8) (cap : Nat) (w : World) (h : Bd w b v l) (hsrc : ∀ j (hj : j < xs.length), ∃ ad, a = some ad ∧ w.cell? (ad.add j) = some (BV xs[j])) (hb : l.length + xs.length ≤ 140737488355328) (R : Ending → World → Prop)
    (h1 : ∀ v' w', Bd w' b v' (l ++ xs) → Stay (fun k => k = b ∨ v.ownBlock = some k) w w' → (∀ k, v'.ownBlock = some k → v.ownBlock = some k ∨ w.heap.size ≤ k) → R (.returned (.tuple #[.int .i64 xs.length, .nilIface])) w') :
    Calls Tryz.prog 40 #[Pt b, .slice a xs.length cap] w R := by
  obtain ⟨v', w1, hr, ho, s1, hloc⟩ := append_row w 64 v l h.row a xs cap hsrc hb
  obtain ⟨hB, hS⟩ := bd_fin h ho s1 hloc
  have hR := Hid.mk (h1 _ _ hB hS hloc)
  have lb := (Array.getElem?_eq_some_iff.1 h.cells).1
  have hb1 : w1.heap[b]? = _ := (s1.block b lb (fun hk => h.row_b b hk rfl)).trans h.cells
  obtain ⟨a0, cap0, hv, -⟩ := slice_form h.row
  obtain ⟨a', cap', hv', -⟩ := slice_form ho
  have c1 : w.cell? ⟨b, 1, none⟩ = some v := by simp [World.cell?, h.cells]
  have c1' : w1.cell? ⟨b, 1, none⟩ = some v := by simp [World.cell?, hb1]
  have z1' : w1.frozen? ⟨b, 1, none⟩ = false := by simp [World.frozen?, hb1]
  have hcc := copyCheck_any w h
  clear h1 hB hS hsrc
  obtain ⟨n', hn'⟩ : ∃ n', n' = (l ++ xs).length := ⟨_, rfl⟩
  rw [← hn'] at hv'
  clear hn'
  rw [hv] at c1 hr
  rw [hv'] at hr hR
  go_enter Tryz.func40, Tryz.ntmps40
  go_wp2_with fail
  refine hcc.mono ?_
  rintro r w' ⟨rfl, rfl⟩
  go_wp2_with (at_builtin; refine wpList_append_eq rfl _ _ _ _ rfl _ _ _ _ rfl rfl hr ?_)
  exact hR.out
end Go.Proofs.YtcamnalmcghjfaaGreatDoor.Dk
set_option linter.unusedVariables false
set_option linter.unusedSimpArgs false
set_option linter.unnecessarySimpa false
namespace Go.Proofs.YtcamnalmcghjfaaGreatDoor.Dk
open Go.RowKit Go.Maps Go.Proofs.DiskMath
/-- A file in an image. -/
def fileL (f : Fl) : List UInt8 := beL f.nm.length 1 ++ f.nm ++ beL f.du 4 ++ f.da.take f.du
def imgL (fs : List Fl) : List UInt8 := 68 :: fs.flatMap fileL
/-- The builder of the image, the names beside it. -/
structure BS (w W : World) (g : Nat) (O : Obj) (v : Value) (l : List UInt8) : Prop where
  bd : Bd W w.heap.size v l
  bel : Below w.heap.size w W
  vb : ∀ k, v.ownBlock = some k → w.heap.size ≤ k ∧ k ≠ g
  names : W.heap[g]? = some O
  gb : w.heap.size < g
theorem BS.write {w W W' : World} {g : Nat} {O : Obj} {v v' : Value} {l l' : List UInt8} (h : BS w W g O v l) (hB : Bd W' w.heap.size v' l') (s : Stay (fun k => k = w.heap.size ∨ v.ownBlock = some k) W W') (hloc : ∀ k, v'.ownBlock = some k → v.ownBlock = some k ∨ W.heap.size ≤ k) : BS w W' g O v' l' := by
  have lg := (Array.getElem?_eq_some_iff.1 h.names).1
  have hsz := h.bel.size
  refine ⟨hB, h.bel.trans (s.toBelow (fun k hk => ?_) hsz), fun k hk => ?_, (s.block g lg ?_).trans h.names, h.gb⟩
  · rintro (rfl | h1)
    · omega
    · have := (h.vb k h1).1; omega
  · rcases hloc k hk with h1 | h1
    · exact h.vb k h1
    · exact ⟨by omega, by omega⟩
  · rintro (h1 | h1)
    · have := h.gb; omega
    · exact (h.vb g h1).2 rfl
theorem BS.more {w W W' : World} {g : Nat} {O : Obj} {v : Value} {l : List UInt8} (h : BS w W g O v l) (b : Below W.heap.size W W') : BS w W' g O v l :=
  ⟨h.bd.kept (F := fun _ => False) (.below b) (fun h => h) (fun _ _ h => h), chain h.bel b (Nat.le_refl _), h.vb, (b.block g (Array.getElem?_eq_some_iff.1 h.names).1).trans h.names, h.gb⟩
theorem own_src {w : World} {B : Nat} {g cap : Nat} {xs : List UInt8} (h : w.ownsRow B 5 1 (.slice (some ⟨g, 0, none⟩) xs.length cap) xs.length (xs.map BV)) : ∀ j (hj : j < xs.length), ∃ ad, some (⟨g, 0, none⟩ : Addr) = some ad ∧ w.cell? (ad.add j) = some (BV xs[j]) := fun j hj => by
  refine ⟨_, rfl, ?_⟩
  exact h.cells (g := g) rfl j _ (by rw [List.getElem?_map, List.getElem?_eq_getElem hj]; rfl)
theorem file_src {w : World} {e : Ent} {a : Option Addr} {cap : Nat} (fe : FileAt w e) (hv : e.v = .slice a e.da.length cap) : ∀ j (hj : j < (e.da.take e.du).length), ∃ ad, a = some ad ∧ w.cell? (ad.add j) = some (BV (e.da.take e.du)[j]) := fun j hj => by
  have hr := fe.row
  rw [hv] at hr
  rw [List.length_take] at hj
  rcases hr.2 with ⟨h0, hn⟩ | ⟨g, cap', cur, h0, _⟩
  · omega
  · simp only [Value.slice.injEq] at h0
    obtain ⟨rfl, -, -⟩ := h0
    refine ⟨_, rfl, ?_⟩
    exact hr.cells (g := g) rfl j _ (by rw [List.getElem?_map, List.getElem?_eq_getElem (by omega)]; simp)
theorem wrow_len {b : Nat} {v : Value} {l : List UInt8} (a : Option Addr) (xs : List UInt8) (m cap : Nat) (hm : xs.length = m) (w : World) (h : Bd w b v l) (hsrc : ∀ j (hj : j < xs.length), ∃ ad, a = some ad ∧ w.cell? (ad.add j) = some (BV xs[j])) (hb : l.length + xs.length ≤ 140737488355328) (R : Ending → World → Prop)
    (h1 : ∀ v' w', Bd w' b v' (l ++ xs) → Stay (fun k => k = b ∨ v.ownBlock = some k) w w' → (∀ k, v'.ownBlock = some k → v.ownBlock = some k ∨ w.heap.size ≤ k) → R (.returned (.tuple #[.int .i64 m, .nilIface])) w') :
    Calls Tryz.prog 40 #[Pt b, .slice a m cap] w R := by
  subst hm
  exact wrow_any a xs cap w h hsrc hb R h1
theorem flat_len (es : List Ent) (h : ∀ e ∈ es, e.du ≤ e.da.length) : ((es.map fl).flatMap fileL).length = (es.map imgW).sum := by
  induction es with
  | nil => rfl
  | cons z r ih =>
    have h1 := h z (by simp)
    simp only [List.map_cons, List.flatMap_cons, List.length_append, List.sum_cons, ih (fun e he => h e (by simp [he]))]
    unfold fileL imgW fl
    simp only [List.length_append, beL_len, List.length_take]
    omega
theorem img_len {w : World} {p mb : Nat} {es : List Ent} {c : Ctl} (h : DK w p mb es c) (i : Nat) : (imgL ((es.map fl).take i)).length ≤ 2000000000 := by
  rw [← List.map_take]
  unfold imgL
  rw [List.length_cons, flat_len _ (fun e he => (h.hf e (List.mem_of_mem_take he)).du)]
  have h1 := imgW_sum h.nms (fun e he => (h.hf e he).du)
  have h2 : ((es.take i).map imgW).sum ≤ (es.map imgW).sum := by
    conv => rhs; rw [← List.take_append_drop i es]
    rw [List.map_append, List.sum_append]; omega
  have h3 := h.many
  have h4 := h.full
  have h5 := h.cap
  omega
set_option maxHeartbeats 4000000 in
set_option maxRecDepth 100000 in
theorem image_any {p mb : Nat} {es : List Ent} {c : Ctl} (w : World) (h : DK w p mb es c) (R : Ending → World → Prop) (h1 : ∀ w', Below w.heap.size w w' → R (.returned (.string ⟨(imgL (es.map fl)).toArray⟩)) w') :
    Calls Tryz.prog 17 #[Pt p] w R := by
  obtain ⟨p0, -⟩ := h.cell
  have lp := h.lt (k := p) (.inl rfl)
  have HR := Hid.mk h1
  clear h1
  have hbA : Below w.heap.size w (w.alloc (.cells #[.pointer none, .slice none 0 0] 80)) := (Below.refl _ w).alloc (Nat.le_refl _) _
  have dA := h.below hbA
  go_enter Tryz.func17, Tryz.ntmps17
  go_wp2_with fail
  refine (self_any w h).mono ?_
  rintro r w' ⟨rfl, rfl⟩
  go_wp2_with fail
  refine imageSize_any _ dA _ ?_
  intro n w2 hn b2
  have hnw : w2.heap[w'.heap.size]? = some (.cells #[.pointer none, .slice none 0 0] 80 (0, 0)) := (b2.block _ (by simp)).trans (heap_alloc_new w' _)
  have hb2 : Below w'.heap.size w' w2 := hbA.trans (b2.mono (by simp))
  have hGr := Tryz.Builder_Grow_fresh w'.heap.size w'.heap.size n w2 (Nat.le_refl _) hnw hb2.size (by omega)
  go_wp2_with fail
  refine hGr.mono ?_
  rintro r w3 ⟨rfl, hB3, b3⟩
  obtain ⟨-, v3, hB3c, hB3r, hB3n⟩ := hB3
  have bd3 : Bd w3 w'.heap.size v3 [] := ⟨hB3c, by
    obtain ⟨r1, r2⟩ := hB3r
    refine ⟨r1, ?_⟩
    rcases r2 with r2 | ⟨g, cap, cur, r2, r3, r4⟩
    · exact .inl r2
    · exact .inr ⟨g, cap, cur, r2, Nat.zero_le _, r4⟩⟩
  have vb3 : ∀ k, v3.ownBlock = some k → w'.heap.size ≤ k := fun k hk => (hB3r.lt k hk).1
  have hb3 : Below w'.heap.size w' w3 := hb2.trans b3
  clear hB3c hB3r hB3n hnw hGr
  go_wp2_with fail
  refine wstr_any ⟨#[68]⟩ w3 bd3 (by show 0 + 1 ≤ _; omega) _ ?_
  intro v4 w4 bd4 s4 l4
  have hb4 : Below w'.heap.size w' w4 := hb3.trans (s4.toBelow (fun k hk => by
    rintro (rfl | h1)
    · omega
    · have := vb3 k h1; omega) hb3.size)
  have vb4 : ∀ k, v4.ownBlock = some k → w'.heap.size ≤ k := fun k hk => (l4 k hk).elim (vb3 k) (fun h1 => Nat.le_trans hb3.size h1)
  have d4 := h.below hb4
  go_wp2_with fail
  refine sorted_any w4 d4 _ ?_
  intro g cap w5 hro b5
  have hsz4 := hb4.size
  have lb4 := (Array.getElem?_eq_some_iff.1 bd4.cells).1
  obtain ⟨cur, hg5, hcur⟩ : ∃ cur, w5.heap[g]? = some (.cells cur 9 (0, 0)) ∧ (∀ i (hi : i < es.length), cur[i]? = some (encStr (es[i]).nm)) ∧ w4.heap.size ≤ g := by
    rcases hro.2 with ⟨h0, _⟩ | ⟨g', cap', cur, h0, hbase, hgc, h3, h4, h5, h6⟩
    · cases h0
    · cases h0
      refine ⟨cur, hgc, fun i hi => ?_, hbase⟩
      have := congrArg (fun l : List Value => l[i]?) h6
      simp only [Nat.mul_one] at this
      rw [List.getElem?_take_of_lt hi, Array.getElem?_toList] at this
      rw [this]
      simp [hi]
  obtain ⟨hcur, hg4⟩ := hcur
  have bs5 : BS w' w5 g (.cells cur 9 (0, 0)) v4 [68] := by
    refine ⟨bd4.kept (F := fun _ => False) (.below b5) (fun h => h) (fun _ _ h => h), chain hb4 b5 (Nat.le_refl _), fun k hk => ⟨vb4 k hk, fun e1 => ?_⟩, hg5, by omega⟩
    have := (bd4.row.lt k hk).2
    omega
  clear bd3 bd4 b5 hro hg5 hb2 hb3 hb4 b2 b3 s4 l4 vb3 vb4 hbA dA d4 p0
  have hmany := h.many
  go_wp2
  go_loopw [16] (fun u wr => ∃ (i : Nat) (v : Value), u = .int .i64 i ∧ i ≤ es.length ∧ BS w' wr g (.cells cur 9 (0, 0)) v (imgL ((es.map fl).take i))) (fun u _ => es.length - (intOf u).toNat)
  case atStart => exact ⟨0, v4, rfl, Nat.zero_le _, bs5⟩
  case round =>
    obtain ⟨i, v, rfl, hi, hbs⟩ := hrel
    have hd := h.below hbs.bel
    by_cases hlt : i < es.length
    · obtain ⟨e, he⟩ : ∃ e, e = es[i] := ⟨_, rfl⟩
      have hem : e ∈ es := by rw [he]; exact List.getElem_mem hlt
      have hc0 : wr.cell? ⟨g, i, none⟩ = some (.string ⟨e.nm.toArray⟩) := by
        have := hcur i hlt
        rw [← he] at this
        simp [World.cell?, hbs.names, this, encStr]
      have hln := nm_len (h.nms e hem)
      have fe := hd.hf e hem
      have hl := hd.look ⟨e.nm.toArray⟩ (by show e.nm.length ≤ _; unfold maxLen; omega)
      rw [show ptrOf es (⟨e.nm.toArray⟩ : ByteArray).data.toList = Pt e.fb by
        show ptrOf es e.nm = _
        unfold ptrOf; rw [h.srt.find hem]] at hl
      obtain ⟨q0, -⟩ := hd.cell
      have HT : Hid (imgL ((es.map fl).take (i + 1)) = imgL ((es.map fl).take i) ++ beL e.nm.length 1 ++ e.nm ++ beL e.du 4 ++ e.da.take e.du) := by
        show _ = _
        rw [List.take_succ_eq_append_getElem (by simpa using hlt)]
        unfold imgL
        rw [List.flatMap_append]
        simp [fileL, fl, he]
      have HL : Hid ((imgL ((es.map fl).take i)).length ≤ 2000000000) := img_len h i
      obtain ⟨a, ca, hv, hca⟩ := slice_form fe.row
      have hdu := fe.du
      have hda := fe.da
      have hszn : (⟨e.nm.toArray⟩ : ByteArray).size = e.nm.length := by simp [ByteArray.size]
      generalize imgL ((es.map fl).take i) = L at *
      clear he
      have hLl := HL.out
      go_wp2_with fail
      refine length_any e.nm.length 1 wr (by omega) (by omega) (by omega) _ ?_
      intro w6 ro6 b6
      have bs6 := hbs.more b6
      go_wp2_with fail
      refine wrow_len _ (beL e.nm.length 1) 1 1 (beL_len _ _) w6 bs6.bd (own_src (by rw [beL_len]; exact ro6)) (by rw [beL_len]; omega) _ ?_
      intro v7 w7 bd7 s7 l7
      have bs7 := bs6.write bd7 s7 l7
      go_wp2_with fail
      refine wstr_any ⟨e.nm.toArray⟩ w7 bs7.bd (by rw [hszn, List.length_append, beL_len]; omega) _ ?_
      intro v8 w8 bd8 s8 l8
      have bs8 := bs7.write bd8 s8 l8
      have f8 := (h.below bs8.bel).hf e hem
      have c8 := f8.cell.2
      go_wp2_with fail
      refine length_any e.du 4 w8 (by omega) (by omega) (by omega) _ ?_
      intro w9 ro9 b9
      have bs9 := bs8.more b9
      go_wp2_with fail
      refine wrow_len _ (beL e.du 4) 4 4 (beL_len _ _) w9 bs9.bd (own_src (by rw [beL_len]; exact ro9)) (by simp only [List.length_append, beL_len]; show _ + e.nm.length + 4 ≤ _; omega) _ ?_
      intro v10 w10 bd10 s10 l10
      have bs10 := bs9.write bd10 s10 l10
      have f10 := (h.below bs10.bel).hf e hem
      obtain ⟨c10, c11⟩ := f10.cell
      rw [hv] at c10
      have hsr := file_src f10 hv
      have bsd : BS w' w10.drew g (.cells cur 9 (0, 0)) v10 _ := bs10.more ⟨rfl, rfl, rfl, Nat.le_refl _, fun _ _ => rfl⟩
      have hlx : (e.da.take e.du).length = e.du := by rw [List.length_take]; omega
      have hlb : (L ++ beL e.nm.length 1 ++ e.nm ++ beL e.du 4).length + (e.da.take e.du).length ≤ 140737488355328 := by simp only [List.length_append, beL_len, hlx]; omega
      have HS := Hid.mk (And.intro bsd.bd (And.intro hsr (And.intro hlx hlb)))
      have hduI : (e.du : Int) ≤ (ca : Int) := by omega
      clear hsr hlx hlb
      go_wp2
      go_region_with (go_at_call 40; refine wrow_len _ (e.da.take e.du) e.du _ HS.out.2.2.1 _ HS.out.1 HS.out.2.1 HS.out.2.2.2 _ ?_; intro v11 w11 bd11 s11 l11)
      all_goals
        have bs11 := bsd.write bd11 s11 l11
        clear HS
        go_wp2
        refine ⟨⟨i + 1, v11, rfl, hlt, ?_⟩, by simp only [intOf]; omega⟩
        rw [HT.out]
        exact bs11
    · have e1 : i = es.length := by omega
      subst e1
      have hBx : Lib.IsBuilder 80 5 w'.heap.size w'.heap.size (Lib.byteCells (imgL ((es.map fl).take es.length))) wr := .inr ⟨Nat.le_refl _, v, hbs.bd.cells, ?_, fun hk => hbs.bd.row_b _ hk rfl⟩
      · have hS := Tryz.Builder_String_any w'.heap.size w'.heap.size _ wr hBx hbs.bel.size
        rw [List.take_of_length_le (by simp)] at hS
        go_wp2_with fail
        refine hS.mono ?_
        rintro r w6 ⟨rfl, b6⟩
        have hR := Hid.mk (HR.out w6 (hbs.bel.trans b6))
        go_wp2
        exact hR.out
      · have := hbs.bd.row
        have e2 : Lib.byteCells (imgL ((es.map fl).take es.length)) = (imgL ((es.map fl).take es.length)).map BV := rfl
        rw [e2, List.length_map]
        obtain ⟨r1, r2⟩ := this
        refine ⟨r1, ?_⟩
        rcases r2 with r2 | ⟨g2, cap2, cur2, r2, r3, r4⟩
        · exact .inl r2
        · exact .inr ⟨g2, cap2, cur2, r2, (hbs.vb g2 (by rw [r2]; rfl)).1, r4⟩
end Go.Proofs.YtcamnalmcghjfaaGreatDoor.Dk
