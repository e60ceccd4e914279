/-
  DERIVED. DSorted, DCrash, DLen, as one text.
-/
import Derived.Test.YtfijjlkhgelmoaaGreatDoorTzAE
import Derived.Test.YtfijjlkhgelmoaaGreatDoorTzAG
import Derived.Sort.OwnSorted
import Derived.Maps.RangeWalk
set_option linter.unusedVariables false
set_option linter.unusedSimpArgs false
set_option linter.unnecessarySimpa false
namespace Go.Proofs.YtfijjlkhgelmoaaGreatDoor.Dk
open Go.RowKit Go.Maps Go.Sort Go.Proofs.DiskMath
theorem Tryz.info9 : (Tryz.prog.info? 9).map (fun i => (i.zero, i.size, i.bytes)) = some (some (.string ⟨#[]⟩), 1, 16) := by kernel_rfl
set_option maxHeartbeats 4000000 in
set_option maxRecDepth 100000 in
theorem sorted_any {p mb : Nat} {es : List Ent} {c : Ctl} (w : World) (h : DK w p mb es c) (R : Ending → World → Prop)
    (h1 : ∀ g cap w', w'.ownsRow w.heap.size 9 1 (.slice (some ⟨g, 0, none⟩) es.length cap) es.length ((es.map Ent.nm).map encStr) → Below w.heap.size w w' → R (.returned (.slice (some ⟨g, 0, none⟩) es.length cap)) w') :
    Calls Tryz.prog 43 #[Pt p] w R := by
  obtain ⟨p0, -⟩ := h.cell
  obtain ⟨i0, hi, hz0, hz1, hz2⟩ := info_parts Tryz.info9
  have hown := h.hm
  have hbl := hown.lt
  have hmany := h.many
  have hpl := h.lt (k := p) (.inl rfl)
  have hsz := dmap_size es
  have HR := Hid.mk h1
  clear h1
  go_enter Tryz.func43, Tryz.ntmps43
  go_wp2_with (first
    | (at_len; refine wpList_len_own _ rfl _ 50 rfl 9 53 Tryz.underlying50 _ mb es.length _ rfl hown ?_; rw [hsz])
    | (at_make; refine wpList_make_own _ rfl _ _ 85 rfl w.heap.size 9 i0 (.string ⟨#[]⟩) 1 Tryz.underlying85 hi hz0 hz1 _ _ _ es.length rfl rfl rfl (by rw [hz2]; omega) (by unfold maxLen; omega) (Nat.le_refl _) ?_; intro w1 hrow1 hg1; have p1 := hg1.cell p0 (by simp))
    | (at_range; refine wpList_range_own _ rfl _ 50 rfl 9 53 law9 Tryz.underlying50 _ mb es.length _ rfl (hown.kept hg1 (by simp)) ?_; intro w0 hrg0 hg0 hs0)
    | go_in)
  go_frame
  go_loopw [3] (fun v wr => ∃ (left : Lit → Bool) (cnt : Nat) (ss : List (List UInt8)), wr.ranges Tryz.prog 9 ptrE mb w1.heap.size es.length (dmap es) left cnt ∧ ss.length + cnt ≤ es.length ∧
      wr.ownsRow w.heap.size 9 1 v ss.length (ss.map encStr) ∧ v ≠ .slice none 0 0 ∧ Collected (dmap es) left ss ∧ Below w.heap.size w wr)
    (fun _ wr => wr.rangeLeft mb w1.heap.size)
  case atStart =>
    exact ⟨_, _, [], hrg0, by rw [hsz]; simp, hrow1.kept hg0 (Or.inr (by simp [Value.ownBlock])), by simp, Collected.start (dmap es),
      ((Below.refl _ _).grown hg1 (Nat.le_refl _) (fun j hj => by cases hj)).grown hg0 hg1.size (fun j hj => by cases hj)⟩
  case round =>
    obtain ⟨left, cnt, ss, hrg, hcs, hrow, hnn, hC, hnx⟩ := hrel
    go_wp2_with (first
      | (at_next; refine wpList_next_ranges _ rfl _ rfl 9 law9 ptrE encStr Value.pointer (fun key kl hk => by obtain ⟨x, hx, _⟩ := Maps.keyOf_str Tryz.underlying9 hk; exact ⟨x, hx⟩) (fun v y hv => ptrE_inv hv) mb w1.heap.size es.length _ _ _ rfl hrg ?_ ?_)
      | go_in)
    · intro hc0 hl0
      rcases hrow.2 with ⟨hnil, _⟩ | ⟨g, cap, cur, rfl, hbase, hb, h1, h2, h3, h4⟩
      · exact absurd hnil hnn
      have hH : Holds encStr wr g 0 ss.toArray := holds_of_block hb (by simpa using h4)
      have hgl : g < wr.heap.size := (Array.getElem?_eq_some_iff.1 hb).1
      have hc := Tryz.slices_Sort_string g 0 cap ss wr hH hgl (by omega)
      have hperm := hC.perm hown law9 Tryz.underlying9 hl0
      have hss := sorted_keys h.srt hperm
      have hlen : ss.length = es.length := by rw [hperm.length_eq, dmap_keys, List.length_map]
      have HS := Hid.mk (And.intro hss hlen)
      clear hss hlen hsz
      go_wp2_with (go_at_call 64; refine hc.mono ?_; rintro e w' ⟨rfl, nn, os, rfl⟩)
      have hro := ownsRow_sorted (ts := ss.mergeSort leB) (n := nn) (os := os) (by simp) hbase hb h1 h2 h3
      rw [HS.out.1, HS.out.2] at hro
      have hbel := hnx.grown (grownBy_sorted (w := wr) (g := g) (n := nn) (os := os) (ss.mergeSort leB).toArray) hnx.size (fun j hj => by cases hj; exact hbase)
      show R (.returned (.slice (some ⟨g, 0, none⟩) ss.length cap)) _
      rw [HS.out.2]
      refine HR.out g cap _ ?_ hbel
      rw [HS.out.1]
      exact hro
    · intro x cc kl yd yp w2 cnt2 hkey hlk hv hat hrg2 hlt hg2 hs2 hen
      obtain ⟨x', ex, rfl, _⟩ := Maps.keyOf_str Tryz.underlying9 hkey
      obtain rfl : x = x' := encStr_inj ex
      have hrow2 := hrow.kept hg2 (Or.inr (row_ne_iter hrow hrg).symm)
      clear hs2 hsz
      go_wp2_with (first
        | (at_builtin; refine wpList_append_own _ rfl _ _ 85 rfl w.heap.size 9 i0 (.string ⟨#[]⟩) 1 16 Tryz.underlying85 hi hz0 hz1 hz2 rfl (by decide) _ _ _ rfl (hrow2.alloc _) ⟨w2.heap.size, 0, none⟩ 1 1 [encStr x] rfl rfl (cell_one_new _ _ _) (by simp [Value.oneCell', encStr]) (by unfold maxLen at *; omega) (by omega) (by have := hnx.size; have := hg2.size; simp; omega) ?_; intro v' w3 hown' hg3 hnil3)
        | go_in)
      have hrg3 := (hrg2.alloc _).kept hg3 (row_ne_low hrow2 hbl) (row_ne_iter hrow2 hrg2)
      go_roundw
      case rel =>
        refine ⟨_, cnt2, ss ++ [x], hrg3, by simp; omega, by simpa using hown', fun hv' => by have := (hnil3.1 hv').2; omega, hC.step hlk hat, ?_⟩
        exact ((hnx.grown hg2 hnx.size (fun j hj => by cases hj; exact hg1.size)).alloc (by have := hnx.size; have := hg2.size; omega) _).grown hg3 (by have := hnx.size; have := hg2.size; simp; omega) (fun j hj => (hrow2.lt j hj).1)
      case measure => rw [hrg3.left_eq, hrg.left_eq]; exact hlt
end Go.Proofs.YtfijjlkhgelmoaaGreatDoor.Dk
set_option linter.unusedVariables false
set_option linter.unusedSimpArgs false
set_option linter.unnecessarySimpa false
namespace Go.Proofs.YtfijjlkhgelmoaaGreatDoor.Dk
open Go.RowKit Go.Maps Go.Proofs.DiskMath
/-- A file as one tells of it. -/
structure Fl where
  nm : List UInt8
  da : List UInt8
  du : Nat
def fl (e : Ent) : Fl := ⟨e.nm, e.da, e.du⟩
def strike (left : Lit → Bool) (x : List UInt8) : Lit → Bool := fun z => left z && !z.sameKey (.string x)
theorem strike_same (left : Lit → Bool) (x : List UInt8) : strike left x (.string x) = false := by simp [strike, Lit.sameKey]
theorem strike_other (left : Lit → Bool) {x y : List UInt8} (h : y ≠ x) : strike left x (.string y) = left (.string y) := by simp [strike, Lit.sameKey, h]
end Go.Proofs.YtfijjlkhgelmoaaGreatDoor.Dk
set_option linter.unusedVariables false
set_option linter.unusedSimpArgs false
set_option linter.unnecessarySimpa false
namespace Go.Proofs.YtfijjlkhgelmoaaGreatDoor.Dk
open Go.RowKit Go.Maps Go.Proofs.DiskMath
/-- A length in so many bytes, the highest first. -/
def byteAt (n f i : Nat) : Nat := n / 2 ^ (8 * (f - 1 - i)) % 256
def beL (n f : Nat) : List UInt8 := (List.range f).map fun i => UInt8.ofNat (byteAt n f i)
theorem beL_len (n f : Nat) : (beL n f).length = f := by simp [beL]
set_option maxHeartbeats 4000000 in
set_option maxRecDepth 100000 in
theorem length_any (n f : Nat) (w : World) (hn : n ≤ 268435456) (hf : 1 ≤ f) (hf4 : f ≤ 4) (R : Ending → World → Prop)
    (h1 : ∀ w', w'.ownsRow w.heap.size 5 1 (.slice (some ⟨w.heap.size, 0, none⟩) f f) f ((beL n f).map BV) → Below w.heap.size w w' → R (.returned (.slice (some ⟨w.heap.size, 0, none⟩) f f)) w') :
    Calls Tryz.prog 45 #[.int .i64 n, .int .i64 f] w R := by
  obtain ⟨i0, hi, hz0, hz1, hz2⟩ := info_parts Tryz.info5
  obtain ⟨M, hM⟩ : ∃ M, M = madeCells (Value.int .u8 0).cells (((f : Nat) : Int).toNat * i0.size) := ⟨_, rfl⟩
  have hMs : M.size = f := by rw [hM, size_madeCells, hz1]; simp
  have hmk : ∀ W : World, (Instr.makeSlice 55 (.int .i64 (f : Int)) (.int .i64 (f : Int))).run Tryz.prog W = .ok (.slice (some ⟨W.heap.size, 0, none⟩) f f) (W.alloc (.cells M 5)) := fun W => by
    have h := run_make (P := Tryz.prog) W 55 5 i0 (.int .u8 0) Tryz.underlying55 hi hz0 .i64 .i64 (f : Int) (f : Int) (by omega) (by omega) (by rw [hz2]; omega) (by omega)
    rw [← hM] at h
    simpa using h
  have HR := Hid.mk h1
  clear h1 hM
  go_enter Tryz.func45, Tryz.ntmps45
  go_wp2
  go_loopw [11] (fun v wr => ∃ (i : Nat) (cur : Array Value), v = .int .i64 i ∧ i ≤ f ∧ wr.heap[w.heap.size]? = some (.cells cur 5 (0, 0)) ∧ Hid (cur.size = f ∧ ∀ j, j < i → cur[j]? = some (.int .u8 (byteAt n f j))) ∧ Below w.heap.size w wr) (fun v _ => f - (intOf v).toNat)
  case atStart => exact ⟨0, M, rfl, Nat.zero_le _, heap_alloc_new w _, ⟨hMs, fun j hj => by omega⟩, (Below.refl _ w).alloc (Nat.le_refl _) _⟩
  case round =>
    obtain ⟨i, cur, rfl, hi2, hg, HC, hb⟩ := hrel
    by_cases hlt : i < f
    · have z : wr.frozen? ⟨w.heap.size, i, none⟩ = false := by simp [World.frozen?, hg]
      have hc : ∃ v, wr.cell? ⟨w.heap.size, i, none⟩ = some v := by
        have := HC.out.1
        refine ⟨cur[i]'(by omega), ?_⟩
        simp [World.cell?, hg, show i < cur.size by omega]
      obtain ⟨v, hc⟩ := hc
      obtain ⟨s, hs⟩ : ∃ s : Nat, s = 8 * (f - 1 - i) := ⟨_, rfl⟩
      have hsI : (8 : Int) * ((f : Int) - 1 - (i : Int)) = (s : Int) := by omega
      have hs24 : s ≤ 24 := by omega
      go_wp2
      refine ⟨⟨i + 1, cur.setIfInBounds i (.int .u8 ((n : Int) / 2 ^ (8 * (f - 1 - i)) % 256)), rfl, hlt, heap_setCell_same wr _ i _ _ _ hg, ⟨by simpa using HC.out.1, fun j hj => ?_⟩, hb.setCell (p := ⟨w.heap.size, i, none⟩) (Nat.le_refl _) _⟩, by simp only [intOf]; omega⟩
      rw [Array.getElem?_setIfInBounds]
      by_cases hij : i = j
      · subst hij
        have := HC.out.1
        rw [if_pos rfl, if_pos (by omega)]
        unfold byteAt
        simp
      · rw [if_neg hij]
        exact HC.out.2 j (by omega)
    · have e1 : i = f := by omega
      subst e1
      have hR := Hid.mk (HR.out wr ⟨by simp [beL], .inr ⟨w.heap.size, i, cur, rfl, Nat.le_refl _, hg, Nat.le_refl _, by unfold maxLen; omega, by rw [HC.out.1]; omega, by
        have hszc := HC.out.1
        rw [List.take_of_length_le (by rw [Array.length_toList]; omega)]
        apply List.ext_getElem?
        intro j
        rw [Array.getElem?_toList]
        by_cases hj : j < i
        · rw [HC.out.2 j hj]
          have hb1 : byteAt n i j < 256 := Nat.mod_lt _ (by omega)
          simp [beL, hj, BV, Nat.mod_eq_of_lt hb1]
        · rw [Array.getElem?_eq_none (by rw [HC.out.1]; omega)]
          rw [List.getElem?_eq_none (by rw [List.length_map, beL_len]; omega)]⟩⟩ hb)
      clear HR
      go_wp2
      exact hR.out
/-- A sum over the files that are no longer to come. -/
def wU (f : Ent → Nat) (es : List Ent) (left : Lit → Bool) : Nat := (es.map fun e => if left (.string e.nm) then 0 else f e).sum
theorem wU_cons (f : Ent → Nat) (e : Ent) (r : List Ent) (left : Lit → Bool) : wU f (e :: r) left = (if left (.string e.nm) then 0 else f e) + wU f r left := by simp [wU]
theorem wU_gone (f : Ent → Nat) {r : List Ent} (left : Lit → Bool) {x : List UInt8} (h : ∀ a ∈ r, a.nm ≠ x) : wU f r (strike left x) = wU f r left := by
  induction r with
  | nil => rfl
  | cons z r ih =>
    rw [wU_cons, wU_cons, ih (fun a ha => h a (by simp [ha])), strike_other left (h z (by simp))]
theorem wU_step (f : Ent → Nat) {es : List Ent} (hs : Srt es) {e : Ent} (he : e ∈ es) (left : Lit → Bool) (hl : left (.string e.nm) = true) : wU f es (strike left e.nm) = wU f es left + f e := by
  induction es with
  | nil => cases he
  | cons z r ih =>
    have h1 := List.pairwise_cons.1 hs
    rw [wU_cons, wU_cons]
    by_cases hz : z.nm = e.nm
    · have := Srt.uniq hs (List.mem_cons_self ..) he hz
      subst this
      have hr : ∀ a ∈ r, a.nm ≠ z.nm := fun a ha e1 => by have := h1.1 a ha; rw [e1] at this; exact List.lt_irrefl _ this
      rw [strike_same, hl, wU_gone f left hr]
      simp; omega
    · rw [strike_other left hz]
      rcases List.mem_cons.1 he with rfl | he
      · exact absurd rfl hz
      · rw [ih h1.2 he]; omega
theorem wU_le (f : Ent → Nat) (es : List Ent) (left : Lit → Bool) : wU f es left ≤ (es.map f).sum := by
  induction es with
  | nil => exact Nat.le_refl _
  | cons z r ih =>
    rw [wU_cons]
    simp only [List.map_cons, List.sum_cons]
    split <;> omega
theorem wU_start (f : Ent → Nat) {es : List Ent} {left : Lit → Bool} (h : ∀ e ∈ es, left (.string e.nm) = true) : wU f es left = 0 := by
  induction es with
  | nil => rfl
  | cons z r ih => rw [wU_cons, ih (fun e he => h e (by simp [he])), h z (by simp)]; rfl
def imgW (e : Ent) : Nat := 5 + e.nm.length + e.du
theorem nm_len {n : List UInt8} (h : isNm n = true) : 1 ≤ n.length ∧ n.length ≤ 32 := by
  unfold isNm at h; simp at h; exact ⟨h.1.1, h.1.2⟩
theorem imgW_sum {es : List Ent} (h1 : ∀ e ∈ es, isNm e.nm = true) (h2 : ∀ e ∈ es, e.du ≤ e.da.length) : (es.map imgW).sum ≤ 37 * es.length + used es := by
  induction es with
  | nil => exact Nat.zero_le _
  | cons z r ih =>
    have := ih (fun e he => h1 e (by simp [he])) (fun e he => h2 e (by simp [he]))
    have a1 := nm_len (h1 z (by simp))
    have a2 := h2 z (by simp)
    have e1 : used (z :: r) = z.da.length + used r := by simp [used]
    simp only [List.map_cons, List.sum_cons, List.length_cons]
    unfold imgW at *
    omega
set_option maxHeartbeats 4000000 in
set_option maxRecDepth 100000 in
theorem imageSize_any {p mb : Nat} {es : List Ent} {c : Ctl} (w : World) (h : DK w p mb es c) (R : Ending → World → Prop) (h1 : ∀ (n : Nat) w', n ≤ 2000000000 → Below w.heap.size w w' → R (.returned (.int .i64 n)) w') :
    Calls Tryz.prog 41 #[Pt p] w R := by
  obtain ⟨p0, -⟩ := h.cell
  have hown := h.hm
  have hbl := hown.lt
  have HR := Hid.mk h1
  have hbd : (es.map imgW).sum ≤ 1500000000 := by
    have := imgW_sum h.nms (fun e he => (h.hf e he).du)
    have h2 := h.many
    have h3 := h.full
    have h4 := h.cap
    omega
  have hhas : ∀ e ∈ es, Maps.has (dmap es) (.string e.nm) = true := fun e he => by rw [dmap_has, h.srt.find he]; rfl
  have hst := wU_start imgW hhas
  have HD := Hid.mk (And.intro hst hhas)
  clear h1 hst hhas
  obtain ⟨H, hH⟩ : ∃ H, H = w.heap.size := ⟨_, rfl⟩
  go_enter Tryz.func41, Tryz.ntmps41
  go_wp2_with (first
    | (at_range; refine wpList_range_own _ rfl _ 50 rfl 9 53 law9 Tryz.underlying50 _ mb es.length _ rfl hown ?_; intro w0 hrg0 hg0 hs0)
    | go_in)
  go_frame
  go_loopw [3] (fun v wr => ∃ (left : Lit → Bool) (cnt : Nat), wr.ranges Tryz.prog 9 ptrE mb w.heap.size es.length (dmap es) left cnt ∧ v = .int .i64 ((1 + wU imgW es left : Nat) : Int) ∧ Below w.heap.size w wr) (fun _ wr => wr.rangeLeft mb w.heap.size)
  case atStart => exact ⟨_, _, hrg0, by rw [HD.out.1]; rfl, (Below.refl _ _).grown hg0 (Nat.le_refl _) (fun j hj => by cases hj)⟩
  case round =>
    obtain ⟨left, cnt, hrg, rfl, hnx⟩ := hrel
    have hwl := wU_le imgW es left
    go_wp2_with (first
      | (at_next; refine wpList_next_ranges _ rfl _ rfl 9 law9 ptrE encStr Value.pointer (fun key kl hk => by obtain ⟨x, hx, _⟩ := Maps.keyOf_str Tryz.underlying9 hk; exact ⟨x, hx⟩) (fun v y hv => ptrE_inv hv) mb w.heap.size es.length _ _ _ rfl hrg ?_ ?_)
      | go_in)
    · intro hc0 hl0
      have hR := Hid.mk (HR.out (1 + wU imgW es left) wr (by omega) hnx)
      clear HR
      go_wp2
      exact hR.out
    · intro x cc kl yd yp w2 cnt2 hkey hlk hv hat hrg2 hlt hg2 hs2 hen
      obtain ⟨x', ex, rfl, _⟩ := Maps.keyOf_str Tryz.underlying9 hkey
      obtain rfl : x = x' := encStr_inj ex
      have hat0 := hat .nil
      rw [dmap_at] at hat0
      cases hfe : findE es x with
      | none =>
        have h1 := hat .nil
        have h2 := hat (.lit (.bool true))
        rw [dmap_at, hfe] at h1 h2
        rw [← h2] at h1; cases h1
      | some e =>
        rw [hfe] at hat0
        dsimp only at hat0
        rw [← hat0] at hv
        have hcc := ptrE_block hv
        obtain rfl : cc = some ⟨e.fb, 0, none⟩ := by simpa using hcc
        obtain ⟨he, hex⟩ := findE_mem hfe
        have HU := Hid.mk (wU_step imgW h.srt he left (by rw [hex]; exact hlk))
        have fe := h.hf e he
        have hnx2 : Below w.heap.size w w2 := hnx.grown hg2 hnx.size (fun j hj => by cases hj; exact Nat.le_refl _)
        have c1 : w2.cell? ⟨e.fb, 1, none⟩ = some (.int .i64 e.du) := (hnx2.cell (p := ⟨e.fb, 1, none⟩) (Array.getElem?_eq_some_iff.1 fe.cells).1).trans fe.cell.2
        have hx32 := nm_len (h.nms e he)
        rw [hex] at hx32
        have hdu := fe.du
        have hda := fe.da
        have HI : Hid (imgW e = 5 + x.length + e.du ∧ e.nm = x) := ⟨by unfold imgW; rw [hex], hex⟩
        clear hs2 hcc hfe hat hat0 hv hkey ex hex
        unfold encStr at *
        go_wp2
        refine ⟨⟨strike left x, cnt2, hrg2, ?_, hnx2⟩, ?_⟩
        · have h3 := HU.out
          rw [HI.out.1, HI.out.2] at h3
          rw [h3]
          refine ival ?_
          omega
        · rw [hrg2.left_eq, hrg.left_eq]; exact hlt
end Go.Proofs.YtfijjlkhgelmoaaGreatDoor.Dk
