/-
  DERIVED. Manifests in memory.
-/
import Derived.Test.YtkoannkecojhmaaGreatDoorCMath
import Derived.Test.YtkoannkecojhmaaGreatDoorSBA
import Derived.Test.YtkoannkecojhmaaGreatDoorBStay
import Derived.Laws.OwnMore
import Derived.Shelf.Abstract
set_option linter.unusedVariables false
set_option linter.unusedSimpArgs false
namespace Go.Proofs.YtkoannkecojhmaaGreatDoor
open Go.RowKit
theorem below_d {w w' : World} (b : Below w.drew.heap.size w.drew w') : Below w.heap.size w w' := ⟨b.os, b.tape, b.output, b.size, b.block⟩
theorem cell_lat {W W' : World} {p : Addr} {v : Value} (hb : Below W.heap.size W W') (h : W.cell? p = some v) : W'.cell? p = some v := (hb.cell (World.block_lt_of_cell? W p h)).trans h
theorem b_drew (W : World) : Below W.heap.size W W.drew := (Below.refl _ W).drew
/-- A struct's cells lie in a block. -/
def SAt (w : World) (g : Nat) (l : List Value) : Prop := ∀ j v, l[j]? = some v → w.cell? ⟨g, j, none⟩ = some v
theorem SAt.new (w : World) (l : List Value) (t : TypeId) : SAt (w.alloc (.cells l.toArray t)) w.heap.size l := fun j v hv => by
  rw [cell_of_row _ _ j _ t (0, 0) (heap_alloc_last w _)]
  simpa using hv
theorem SAt.lat {w w' : World} {g : Nat} {l : List Value} (h : SAt w g l) (b : Below w.heap.size w w') : SAt w' g l := fun j v hv => cell_lat b (h j v hv)
/-- The cells of a list lie from here on. -/
def RowAt (w : World) (g off : Nat) (cs : List Value) : Prop := ∀ j x, cs[j]? = some x → w.cell? ⟨g, off + j, none⟩ = some x
theorem flat_at {T : Type} (f : T → List Value) (sz : Nat) (hf : ∀ x, (f x).length = sz) : ∀ (l : List T) (i j : Nat) (hi : i < l.length), j < sz → (l.flatMap f)[i * sz + j]? = (f l[i])[j]?
  | x :: l, 0, j, hi, hj => by rw [List.flatMap_cons, Nat.zero_mul, Nat.zero_add, List.getElem?_append_left (by rw [hf]; exact hj)]; rfl
  | x :: l, i + 1, j, hi, hj => by
    have := flat_at f sz hf l i j (by simpa using hi) hj
    rw [List.flatMap_cons, List.getElem?_append_right (by rw [hf, Nat.succ_mul]; omega), hf]
    rw [show (i + 1) * sz + j - sz = i * sz + j from by rw [Nat.succ_mul]; omega, this]; rfl
def ruC (r : Ru) : List Value := [.int .i64 r.num, .int .i64 r.lo, .int .i64 r.hi, .int .i64 r.cnt]
theorem ruC_len (r : Ru) : (ruC r).length = 4 := rfl
theorem row_ru {w : World} {g off : Nat} {l : List Ru} (h : RowAt w g off (l.flatMap ruC)) (i : Nat) (hi : i < l.length) :
    w.cell? ⟨g, off + i * 4, none⟩ = some (.int .i64 l[i].num) ∧ w.cell? ⟨g, off + i * 4 + 1, none⟩ = some (.int .i64 l[i].lo) ∧ w.cell? ⟨g, off + i * 4 + 2, none⟩ = some (.int .i64 l[i].hi) ∧ w.cell? ⟨g, off + i * 4 + 3, none⟩ = some (.int .i64 l[i].cnt) := by
  have hj : ∀ j v, j < 4 → (ruC l[i])[j]? = some v → w.cell? ⟨g, off + i * 4 + j, none⟩ = some v := fun j v hj hv => by
    rw [Nat.add_assoc]
    exact h _ _ (by rw [flat_at ruC 4 ruC_len l i j hi hj]; exact hv)
  exact ⟨hj 0 _ (by omega) rfl, hj 1 _ (by omega) rfl, hj 2 _ (by omega) rfl, hj 3 _ (by omega) rfl⟩
/-- A list of runs, as a slice that may lie anywhere. -/
structure LAt (w : World) (la : Option Addr) (l : List Ru) : Prop where
  at' : l ≠ [] → ∃ g off, la = some ⟨g, off, none⟩ ∧ RowAt w g off (l.flatMap ruC)
theorem LAt.below {w w' : World} {la : Option Addr} {l : List Ru} (h : LAt w la l) (b : Below w.heap.size w w') : LAt w' la l := ⟨fun hn => by
  obtain ⟨g, off, e, hr⟩ := h.at' hn
  exact ⟨g, off, e, fun j x hx => cell_lat b (hr j x hx)⟩⟩
/-- A manifest's cells. -/
def mfC (m : Mf) (la : Option Addr) (c : Nat) : List Value := [.int .i64 m.w, .int .i64 m.ch, .int .i64 m.md, .int .i64 m.seq, .int .i64 m.nx, .int .i64 m.jn, .slice la m.rs.length c]
/-- A manifest that lies in a block. -/
structure MAt (w : World) (g : Nat) (m : Mf) (la : Option Addr) (c : Nat) : Prop where
  st : SAt w g (mfC m la c)
  ls : LAt w la m.rs
theorem MAt.lat {w w' : World} {g : Nat} {m : Mf} {la : Option Addr} {c : Nat} (h : MAt w g m la c) (b : Below w.heap.size w w') : MAt w' g m la c := ⟨h.st.lat b, h.ls.below b⟩
theorem MAt.cells {w : World} {g : Nat} {m : Mf} {la : Option Addr} {c : Nat} (h : MAt w g m la c) :
    w.cell? ⟨g, 0, none⟩ = some (.int .i64 m.w) ∧ w.cell? ⟨g, 1, none⟩ = some (.int .i64 m.ch) ∧ w.cell? ⟨g, 2, none⟩ = some (.int .i64 m.md) ∧ w.cell? ⟨g, 3, none⟩ = some (.int .i64 m.seq) ∧ w.cell? ⟨g, 4, none⟩ = some (.int .i64 m.nx) ∧ w.cell? ⟨g, 5, none⟩ = some (.int .i64 m.jn) ∧ w.cell? ⟨g, 6, none⟩ = some (.slice la m.rs.length c) :=
  ⟨h.st 0 _ rfl, h.st 1 _ rfl, h.st 2 _ rfl, h.st 3 _ rfl, h.st 4 _ rfl, h.st 5 _ rfl, h.st 6 _ rfl⟩
/-! ### A list of function literals that is gone through -/
/-- The first refusal. -/
def fstE : List Int → Int
  | [] => 0
  | e :: es => if e ≠ 0 then e else fstE es
theorem fstE_at : ∀ (es : List Int) (i : Nat) (hi : i < es.length), (∀ j (hj : j < i), es[j]'(by omega) = 0) → es[i] ≠ 0 → fstE es = es[i]
  | e :: es, 0, hi, h0, h1 => by simp only [fstE]; rw [if_pos (by simpa using h1)]; rfl
  | e :: es, i + 1, hi, h0, h1 => by
    have := h0 0 (by omega)
    simp only [List.getElem_cons_zero] at this
    simp only [fstE, this, ne_eq, not_true_eq_false, if_false]
    exact fstE_at es i (by simpa using hi) (fun j hj => by have := h0 (j + 1) (by omega); simpa using this) (by simpa using h1)
theorem fstE_all : ∀ (es : List Int), (∀ j (hj : j < es.length), es[j] = 0) → fstE es = 0
  | [], _ => rfl
  | e :: es, h => by
    have := h 0 (by simp)
    simp only [List.getElem_cons_zero] at this
    simp only [fstE, this, ne_eq, not_true_eq_false, if_false]
    exact fstE_all es (fun j hj => by have := h (j + 1) (by simpa using hj); simpa using this)
abbrev clV (g f : Nat) : Value := .func (.func f) #[] #[.pointer (some ⟨g, 0, none⟩)]
set_option maxHeartbeats 2000000 in
set_option maxRecDepth 100000 in
/-- first: each literal tells its refusal, once those ahead of it told none. -/
theorem first_any (ids : List Nat) (es : List Int) (g q c : Nat) (w : World) (hlen : es.length = ids.length) (hsmall : ids.length ≤ 1000)
    (hrow : RowAt w q 0 (ids.map (clV g)))
    (hent : ∀ i (hi : i < ids.length) args W, (callFunc ids[i] args).run Tryz.prog W = .ok (.enter ids[i] args) W)
    (hc : ∀ i (hi : i < ids.length) (he : i < es.length) W, (∀ j (hj : j < i) (h : j < es.length), es[j] = 0) → Below w.heap.size w W → Calls Tryz.prog ids[i] #[.pointer (some ⟨g, 0, none⟩)] W fun e w' => e = .returned (.int .i64 es[i]) ∧ Below W.heap.size W w') :
    Calls Tryz.prog 26 #[.slice (some ⟨q, 0, none⟩) ids.length c] w fun e w' => e = .returned (.int .i64 (fstE es)) ∧ Below w.heap.size w w' := by
  have HF := Hid.mk (fstE_at es)
  have HA := Hid.mk (fstE_all es)
  obtain ⟨r, hr⟩ : ∃ r, r = fstE es := ⟨_, rfl⟩
  rw [← hr] at HF HA ⊢
  clear hr
  have HR := Hid.mk hrow
  have HC := Hid.mk hc
  have HE := Hid.mk hent
  have HL := Hid.mk hlen
  clear hrow hc hent hlen
  go_enter Tryz.func26, Tryz.ntmps26
  go_wp2
  go_loopw [8] (fun u wr => ∃ i : Nat, u = .int .i64 i ∧ i ≤ ids.length ∧ Hid (∀ j (hj : j < i) (h : j < es.length), es[j] = 0) ∧ Below w.heap.size w wr) (fun u _ => ids.length - (intOf u).toNat)
  case atStart => exact ⟨0, rfl, Nat.zero_le _, fun j hj => by omega, Below.refl _ _⟩
  case round =>
    obtain ⟨i, rfl, hi, HZ, hb⟩ := hrel
    by_cases hlt : i < ids.length
    · have cell : wr.cell? ⟨q, i, none⟩ = some (clV g ids[i]) := cell_lat hb (by have := HR.out i (clV g ids[i]) (by simp [hlt]); simpa using this)
      have ent := HE.out i hlt
      have cc := HC.out i hlt (by have := HL.out; omega) wr HZ.out hb
      obtain ⟨f, hf⟩ : ∃ f, f = ids[i] := ⟨_, rfl⟩
      have hel : i < es.length := by have := HL.out; omega
      obtain ⟨v, hv⟩ : ∃ v, v = es[i] := ⟨_, rfl⟩
      rw [← hf] at cell ent cc
      rw [← hv] at cc
      clear hf
      by_cases hz : v = 0
      · have HZ' : Hid (∀ j (hj : j < i + 1) (h : j < es.length), es[j] = 0) := fun j hj h => by
          by_cases h' : j < i
          · exact HZ.out j h' h
          · have : j = i := by omega
            subst this; rw [← hv]; exact hz
        clear hv HF HA HR HC HE HL HZ hel
        subst hz
        go_wp2_with (go_at_fn f; refine cc.mono ?_; rintro e w1 ⟨rfl, b1'⟩; have b1 := chain hb b1' (Nat.le_refl _); clear cc)
        exact ⟨⟨i + 1, rfl, hlt, HZ', b1⟩, by simp only [intOf]; omega⟩
      · have HV : Hid (r = v) := by
          show _ = _
          rw [hv]; exact HF.out i hel (fun j hj => HZ.out j hj (by omega)) (by rw [← hv]; exact hz)
        clear hv HF HA HR HC HE HL HZ hel
        go_wp2_with (go_at_fn f; refine cc.mono ?_; rintro e w1 ⟨rfl, b1'⟩; have b1 := chain hb b1' (Nat.le_refl _); clear cc)
        go_ret
        exact ⟨ret_int HV.out.symm, b1⟩
    · have e : i = ids.length := by omega
      subst e
      have HV : Hid (r = 0) := HA.out (fun j hj => HZ.out j (by have := HL.out; omega) hj)
      clear HF HA HR HC HE HL HZ
      go_wp2
      go_ret
      exact ⟨ret_int HV.out.symm, hb⟩
end Go.Proofs.YtkoannkecojhmaaGreatDoor
