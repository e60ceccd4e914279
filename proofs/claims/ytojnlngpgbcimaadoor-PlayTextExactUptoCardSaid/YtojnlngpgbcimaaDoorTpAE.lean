/-
  DERIVED. PlPiece, PlMap, PlShapes, as one text.
-/
import Derived.Test.YtojnlngpgbcimaaDoorTpAA
import Derived.Test.YtojnlngpgbcimaaDoorTpAB
import Derived.Maps.OwnSet
import Derived.Maps.OwnOps
import Derived.Maps.Views
import Derived.StringKeys
set_option linter.unusedVariables false
set_option linter.unusedSimpArgs false
namespace Go.Proofs.YtojnlngpgbcimaaDoor
open Go.RowKit
abbrev EI : Rw.El Int := ⟨3, 27, 1, 8, .int .i64 0, fun n => [.int .i64 n]⟩
theorem okEI : EI.Ok Tryd.prog := ⟨fun _ => rfl, fun x u hu => by simp at hu; subst hu; rfl, by decide, rfl, by decide, by kernel_rfl, by kernel_rfl⟩
abbrev ES : Rw.El ByteArray := ⟨9, 28, 1, 16, .string ⟨#[]⟩, fun s => [.string s]⟩
theorem okES : ES.Ok Tryd.prog := ⟨fun _ => rfl, fun x u hu => by simp at hu; subst hu; rfl, by decide, rfl, by decide, by kernel_rfl, by kernel_rfl⟩
theorem made_any {α : Type} {E : Rw.El α} (ok : E.Ok Tryd.prog) (W : World) (x : α) (hx : E.z.cells = (E.f x).toArray) (n : Nat) (hn : n ≤ 1099511627776) :
    ∃ w', (Instr.makeSlice E.sl (.int .i64 n) (.int .i64 n)).run Tryd.prog W = .ok (.slice (some ⟨W.heap.size, 0, none⟩) n n) w' ∧ E.Row w' (.slice (some ⟨W.heap.size, 0, none⟩) n n) (List.replicate n x) ∧ Below W.heap.size W w' ∧ w'.heap.size = W.heap.size + 1 := by
  obtain ⟨i0, hi, hz0, hz1, hz2⟩ := info_parts ok.info
  have h64 := ok.by1
  have hmul : E.by' * n ≤ 80 * 1099511627776 := Nat.mul_le_mul h64 hn
  have hrun := run_make W E.sl E.ty i0 E.z ok.und hi hz0 .i64 .i64 (n : Int) (n : Int) (by omega) (by omega) (by rw [hz2, ← Int.natCast_mul]; omega) (by omega)
  rw [hz1, Int.toNat_natCast] at hrun
  exact ⟨_, hrun, Rw.El.made ok W x hx n (by omega), (Below.refl _ _).alloc (Nat.le_refl _) _, by simp⟩
theorem iAt {w : World} {la : Option Addr} {l : List Int} (h : EI.At w la l) (i : Nat) (hi : i < l.length) : ∃ g off, la = some ⟨g, off, none⟩ ∧ w.cell? ⟨g, off + i, none⟩ = some (.int .i64 l[i]) := by
  obtain ⟨g, off, e, hr⟩ := h.at' (fun e => by rw [e] at hi; simp at hi)
  have hf := Rw.flat_at EI.f 1 (fun _ => rfl) l i 0 hi (by omega)
  have h1 := hr (i * 1 + 0) _ hf
  exact ⟨g, off, e, by simpa using h1⟩
theorem sAt {w : World} {la : Option Addr} {l : List ByteArray} (h : ES.At w la l) (i : Nat) (hi : i < l.length) : ∃ g off, la = some ⟨g, off, none⟩ ∧ w.cell? ⟨g, off + i, none⟩ = some (.string l[i]) := by
  obtain ⟨g, off, e, hr⟩ := h.at' (fun e => by rw [e] at hi; simp at hi)
  have hf := Rw.flat_at ES.f 1 (fun _ => rfl) l i 0 hi (by omega)
  have h1 := hr (i * 1 + 0) _ hf
  exact ⟨g, off, e, by simpa using h1⟩
theorem at_int {w : World} {la : Option Addr} {cp : Nat} (l : List Int) (i : Nat) (h : EI.At w la l) (hl : l.length ≤ 17592186044416) (hi : i ≤ 4611686018427387904) : Calls Tryd.prog 52 #[.slice la l.length cp, .int .i64 i] w fun e w' => e = .returned (.int .i64 (l.getD i 0)) ∧ w' = w := by
  by_cases hlt : i < l.length
  · obtain ⟨g, off, rfl, hc⟩ := iAt h i hlt
    have e : l.getD i 0 = l[i] := by simp [List.getD, hlt]
    rw [e]
    have i1 : ¬ (l.length : Int) ≤ (i : Int) := by omega
    have i2 : (i : Int) < (l.length : Int) := by omega
    have i3 : (0 : Int) ≤ (i : Int) := by omega
    clear h e
    generalize l[i] = x at hc ⊢
    generalize l.length = n at *
    go_enter Tryd.func52, Tryd.ntmps52
    go_wp2
    go_ret
    exact ⟨rfl, rfl⟩
  · have e : l.getD i 0 = 0 := by simp [List.getD, hlt]
    rw [e]
    have i1 : (l.length : Int) ≤ (i : Int) := by omega
    clear h e
    generalize l.length = n at *
    go_enter Tryd.func52, Tryd.ntmps52
    go_wp2
    go_ret
    exact ⟨rfl, rfl⟩
theorem at_str {w : World} {la : Option Addr} {cp : Nat} (l : List ByteArray) (i : Nat) (h : ES.At w la l) (hl : l.length ≤ 17592186044416) (hi : i ≤ 4611686018427387904) : Calls Tryd.prog 53 #[.slice la l.length cp, .int .i64 i] w fun e w' => e = .returned (.string (l.getD i ⟨#[]⟩)) ∧ w' = w := by
  by_cases hlt : i < l.length
  · obtain ⟨g, off, rfl, hc⟩ := sAt h i hlt
    have e : l.getD i ⟨#[]⟩ = l[i] := by simp [List.getD, hlt]
    rw [e]
    have i1 : ¬ (l.length : Int) ≤ (i : Int) := by omega
    have i2 : (i : Int) < (l.length : Int) := by omega
    have i3 : (0 : Int) ≤ (i : Int) := by omega
    clear h e
    generalize l[i] = x at hc ⊢
    generalize l.length = n at *
    go_enter Tryd.func53, Tryd.ntmps53
    go_wp2
    go_ret
    exact ⟨rfl, rfl⟩
  · have e : l.getD i ⟨#[]⟩ = ⟨#[]⟩ := by simp [List.getD, hlt]
    rw [e]
    have i1 : (l.length : Int) ≤ (i : Int) := by omega
    clear h e
    generalize l.length = n at *
    go_enter Tryd.func53, Tryd.ntmps53
    go_wp2
    go_ret
    exact ⟨rfl, rfl⟩
theorem pk_set {α : Type} (f : Nat → α) (z : α) (k n : Nat) (h : k < n) : ((List.range k).map f ++ List.replicate (n - k) z).set k (f k) = (List.range (k + 1)).map f ++ List.replicate (n - (k + 1)) z := by
  obtain ⟨m, hm⟩ : ∃ m, n - k = m + 1 := ⟨n - k - 1, by omega⟩
  rw [hm, List.replicate_succ, List.set_append_right _ _ (by simp)]
  simp only [List.length_map, List.length_range, Nat.sub_self, List.set_cons_zero]
  rw [List.range_succ, List.map_append, List.append_assoc, show n - (k + 1) = m from by omega]
  rfl
set_option maxHeartbeats 4000000 in
set_option maxRecDepth 100000 in
theorem piece_int {w : World} {la : Option Addr} {cp : Nat} (l : List Int) (i n : Nat) (h : EI.At w la l) (hl : l.length ≤ 17592186044416) (hi : i ≤ 17592186044416) (hn : n ≤ 3) :
    Calls Tryd.prog 35 #[.slice la l.length cp, .int .i64 i, .int .i64 n] w fun e w' => ∃ b, e = .returned (.slice (some ⟨b, 0, none⟩) n n) ∧ EI.Row w' (.slice (some ⟨b, 0, none⟩) n n) (pieceL 0 l i n) ∧ w.heap.size ≤ b ∧ Below w.heap.size w w' := by
  obtain ⟨W0, hmk, hr0, b0, s0⟩ := made_any okEI w 0 rfl n (by omega)
  obtain ⟨q, hq⟩ : ∃ q : Nat, (i : Int) * (n : Int) = q := ⟨i * n, by rw [Int.natCast_mul]⟩
  have hq2 : i * n = q := by rw [← Int.natCast_mul] at hq; exact Int.ofNat_inj.1 hq
  have hq3 : q ≤ 17592186044416 * 3 := by rw [← hq2]; exact Nat.mul_le_mul hi hn
  obtain ⟨f, hf⟩ : ∃ f : Nat → Int, f = fun j => l.getD (q + j) 0 := ⟨_, rfl⟩
  have hat := fun (k : Nat) (hk : k < n) (V : World) (b : Below w.heap.size w V) => (show Calls Tryd.prog 52 #[.slice la l.length cp, .int .i64 (q + k : Nat)] V fun e w' => e = .returned (.int .i64 (f k)) ∧ w' = V by rw [hf]; exact at_int (cp := cp) l (q + k) (h.below b) hl (by omega))
  have HI0 := Hid.mk (show EI.Row W0 (.slice (some ⟨w.heap.size, 0, none⟩) n n) ((List.range 0).map f ++ List.replicate (n - 0) 0) ∧ Below w.heap.size w W0 from ⟨by simpa using hr0, b0⟩)
  have hP : pieceL 0 l i n = (List.range n).map f := by unfold pieceL; rw [hq2, hf]
  rw [hP]
  have HA := Hid.mk hat
  clear hr0 b0 s0 hP h hat hq2 hf
  simp only [EI] at hmk
  go_enter Tryd.func35, Tryd.ntmps35
  go_wp2
  go_loopw [13] (fun u wr => ∃ k : Nat, u = .int .i64 k ∧ k ≤ n ∧ Hid (EI.Row wr (.slice (some ⟨w.heap.size, 0, none⟩) n n) ((List.range k).map f ++ List.replicate (n - k) 0) ∧ Below w.heap.size w wr)) (fun u _ => n - (intOf u).toNat)
  case atStart => exact ⟨0, rfl, Nat.zero_le _, HI0⟩
  case round =>
    clear HI0
    obtain ⟨k, rfl, hk, HM⟩ := hrel
    by_cases hlt : k < n
    · have i1 : (k : Int) < (n : Int) := by omega
      have i2 : (0 : Int) ≤ (k : Int) := by omega
      have ha := HA.out k hlt wr HM.out.2
      rw [show ((q + k : Nat) : Int) = (q : Int) + (k : Int) from by omega] at ha
      have hlen : ((List.range k).map f ++ List.replicate (n - k) (0 : Int)).length = n := by simp; omega
      obtain ⟨g, cap, e, hc, hfz⟩ := Rw.El.cells okEI HM.out.1 k (by rw [hlen]; exact hlt)
      simp only [Value.slice.injEq, Option.some.injEq, Addr.mk.injEq] at e
      obtain ⟨⟨rfl, -⟩, -⟩ := e
      obtain ⟨u0, y0⟩ : ∃ u0, wr.cell? ⟨w.heap.size, k, none⟩ = some u0 := ⟨_, by have h1 := hc 0 _ rfl; simp only [Nat.mul_one, Nat.add_zero] at h1; exact h1⟩
      have fz := hfz k
      have hrow : EI.Row (wr.setCell ⟨w.heap.size, k, none⟩ (.int .i64 (f k))) (.slice (some ⟨w.heap.size, 0, none⟩) n n) ((List.range (k + 1)).map f ++ List.replicate (n - (k + 1)) 0) := by
        have h1 := Rw.El.set okEI HM.out.1 hlen.symm k (by rw [hlen]; exact hlt) (f k)
        rw [pk_set f 0 k n hlt] at h1
        have e2 : k * 1 = k := Nat.mul_one k
        simp only [Rw.putL, e2] at h1
        exact h1
      have HN := Hid.mk (show EI.Row (wr.setCell ⟨w.heap.size, k, none⟩ (.int .i64 (f k))) (.slice (some ⟨w.heap.size, 0, none⟩) n n) ((List.range (k + 1)).map f ++ List.replicate (n - (k + 1)) 0) ∧ Below w.heap.size w (wr.setCell ⟨w.heap.size, k, none⟩ (.int .i64 (f k))) from
        ⟨hrow, HM.out.2.trans ((Stay.setCell (F := fun x => x = w.heap.size) (p := ⟨w.heap.size, k, none⟩) (Stay.refl _ wr) (fun _ => rfl) _).toBelow (fun x hx e => by omega) HM.out.2.size)⟩)
      clear hc hfz hrow hlen HM
      go_wp2_with fail
      refine ha.mono ?_
      clear ha
      rintro r w1 ⟨rfl, rfl⟩
      go_wp2
      exact ⟨⟨k + 1, rfl, hlt, HN⟩, by simp only [intOf]; omega⟩
    · have e : k = n := by omega
      subst e
      have HF := HM.out
      rw [Nat.sub_self, List.replicate_zero, List.append_nil] at HF
      have HF2 := Hid.mk HF
      clear HF HM
      go_wp2
      go_ret
      exact ⟨_, rfl, HF2.out.1, Nat.le_refl _, HF2.out.2⟩
set_option maxHeartbeats 4000000 in
set_option maxRecDepth 100000 in
theorem piece_str {w : World} {la : Option Addr} {cp : Nat} (l : List ByteArray) (i n : Nat) (h : ES.At w la l) (hl : l.length ≤ 17592186044416) (hi : i ≤ 17592186044416) (hn : n ≤ 3) :
    Calls Tryd.prog 36 #[.slice la l.length cp, .int .i64 i, .int .i64 n] w fun e w' => ∃ b, e = .returned (.slice (some ⟨b, 0, none⟩) n n) ∧ ES.Row w' (.slice (some ⟨b, 0, none⟩) n n) (pieceL ⟨#[]⟩ l i n) ∧ w.heap.size ≤ b ∧ Below w.heap.size w w' := by
  obtain ⟨W0, hmk, hr0, b0, s0⟩ := made_any okES w ⟨#[]⟩ rfl n (by omega)
  obtain ⟨q, hq⟩ : ∃ q : Nat, (i : Int) * (n : Int) = q := ⟨i * n, by rw [Int.natCast_mul]⟩
  have hq2 : i * n = q := by rw [← Int.natCast_mul] at hq; exact Int.ofNat_inj.1 hq
  have hq3 : q ≤ 17592186044416 * 3 := by rw [← hq2]; exact Nat.mul_le_mul hi hn
  obtain ⟨f, hf⟩ : ∃ f : Nat → ByteArray, f = fun j => l.getD (q + j) ⟨#[]⟩ := ⟨_, rfl⟩
  have hat := fun (k : Nat) (hk : k < n) (V : World) (b : Below w.heap.size w V) => (show Calls Tryd.prog 53 #[.slice la l.length cp, .int .i64 (q + k : Nat)] V fun e w' => e = .returned (.string (f k)) ∧ w' = V by rw [hf]; exact at_str (cp := cp) l (q + k) (h.below b) hl (by omega))
  have HI0 := Hid.mk (show ES.Row W0 (.slice (some ⟨w.heap.size, 0, none⟩) n n) ((List.range 0).map f ++ List.replicate (n - 0) ⟨#[]⟩) ∧ Below w.heap.size w W0 from ⟨by simpa using hr0, b0⟩)
  have hP : pieceL ⟨#[]⟩ l i n = (List.range n).map f := by unfold pieceL; rw [hq2, hf]
  rw [hP]
  have HA := Hid.mk hat
  clear hr0 b0 s0 hP h hat hq2 hf
  simp only [ES] at hmk
  go_enter Tryd.func36, Tryd.ntmps36
  go_wp2
  go_loopw [13] (fun u wr => ∃ k : Nat, u = .int .i64 k ∧ k ≤ n ∧ Hid (ES.Row wr (.slice (some ⟨w.heap.size, 0, none⟩) n n) ((List.range k).map f ++ List.replicate (n - k) ⟨#[]⟩) ∧ Below w.heap.size w wr)) (fun u _ => n - (intOf u).toNat)
  case atStart => exact ⟨0, rfl, Nat.zero_le _, HI0⟩
  case round =>
    clear HI0
    obtain ⟨k, rfl, hk, HM⟩ := hrel
    by_cases hlt : k < n
    · have i1 : (k : Int) < (n : Int) := by omega
      have i2 : (0 : Int) ≤ (k : Int) := by omega
      have ha := HA.out k hlt wr HM.out.2
      rw [show ((q + k : Nat) : Int) = (q : Int) + (k : Int) from by omega] at ha
      have hlen : ((List.range k).map f ++ List.replicate (n - k) (⟨#[]⟩ : ByteArray)).length = n := by simp; omega
      obtain ⟨g, cap, e, hc, hfz⟩ := Rw.El.cells okES HM.out.1 k (by rw [hlen]; exact hlt)
      simp only [Value.slice.injEq, Option.some.injEq, Addr.mk.injEq] at e
      obtain ⟨⟨rfl, -⟩, -⟩ := e
      obtain ⟨u0, y0⟩ : ∃ u0, wr.cell? ⟨w.heap.size, k, none⟩ = some u0 := ⟨_, by have h1 := hc 0 _ rfl; simp only [Nat.mul_one, Nat.add_zero] at h1; exact h1⟩
      have fz := hfz k
      have hrow : ES.Row (wr.setCell ⟨w.heap.size, k, none⟩ (.string (f k))) (.slice (some ⟨w.heap.size, 0, none⟩) n n) ((List.range (k + 1)).map f ++ List.replicate (n - (k + 1)) ⟨#[]⟩) := by
        have h1 := Rw.El.set okES HM.out.1 hlen.symm k (by rw [hlen]; exact hlt) (f k)
        rw [pk_set f ⟨#[]⟩ k n hlt] at h1
        have e2 : k * 1 = k := Nat.mul_one k
        simp only [Rw.putL, e2] at h1
        exact h1
      have HN := Hid.mk (show ES.Row (wr.setCell ⟨w.heap.size, k, none⟩ (.string (f k))) (.slice (some ⟨w.heap.size, 0, none⟩) n n) ((List.range (k + 1)).map f ++ List.replicate (n - (k + 1)) ⟨#[]⟩) ∧ Below w.heap.size w (wr.setCell ⟨w.heap.size, k, none⟩ (.string (f k))) from
        ⟨hrow, HM.out.2.trans ((Stay.setCell (F := fun x => x = w.heap.size) (p := ⟨w.heap.size, k, none⟩) (Stay.refl _ wr) (fun _ => rfl) _).toBelow (fun x hx e => by omega) HM.out.2.size)⟩)
      clear hc hfz hrow hlen HM
      go_wp2_with fail
      refine ha.mono ?_
      clear ha
      rintro r w1 ⟨rfl, rfl⟩
      go_wp2
      exact ⟨⟨k + 1, rfl, hlt, HN⟩, by simp only [intOf]; omega⟩
    · have e : k = n := by omega
      subst e
      have HF := HM.out
      rw [Nat.sub_self, List.replicate_zero, List.append_nil] at HF
      have HF2 := Hid.mk HF
      clear HF HM
      go_wp2
      go_ret
      exact ⟨_, rfl, HF2.out.1, Nat.le_refl _, HF2.out.2⟩
end Go.Proofs.YtojnlngpgbcimaaDoor
set_option linter.unusedVariables false
set_option linter.unusedSimpArgs false
namespace Go.Proofs.YtojnlngpgbcimaaDoor
open Go.RowKit Go.Maps Go.ChangeMaps Go.MapKept Go.WideShapes
/-- What a shape reads as. -/
def enS (p : Sh) : DataW Unit := .agg [.lit (.int .i64 p.k), .lit (.string p.w.data.toList), .lit (.int .i64 p.n), .lit (.int .i64 p.t), .lit (.bool p.o)]
def shE : Value → Option (DataW Unit × List MemPlace)
  | .agg cs => match cs.toList with
    | [.int .i64 k, .string w, .int .i64 n, .int .i64 t, .bool o] => some (.agg [.lit (.int .i64 k), .lit (.string w.data.toList), .lit (.int .i64 n), .lit (.int .i64 t), .lit (.bool o)], [])
    | _ => none
  | _ => none
theorem shE_mk (p : Sh) : shE (.agg (shC p).toArray) = some (enS p, []) := by simp [shE, shC, enS]
theorem shE_eq {v : Value} {p : Sh} {ps : List MemPlace} (h : shE v = some (enS p, ps)) : v = .agg (shC p).toArray := by
  cases v <;> try (simp [shE] at h; done)
  rename_i cs
  simp only [shE] at h
  split at h
  · rename_i l k w n t o e
    have e1 : cs = #[Value.int .i64 k, Value.string w, Value.int .i64 n, Value.int .i64 t, Value.bool o] := Array.toList_inj.1 e
    simp only [Option.some.injEq, Prod.mk.injEq, enS, DataW.agg.injEq, List.cons.injEq, DataW.lit.injEq, Lit.int.injEq, Lit.string.injEq, Lit.bool.injEq, true_and, and_true] at h
    obtain ⟨⟨rfl, h2, rfl, rfl, rfl⟩, -⟩ := h
    have e2 : w = p.w := by
      cases w; cases hw : p.w with | mk d => rw [hw] at h2; congr 1; exact Array.toList_inj.1 h2
    rw [e1, e2]; rfl
  · simp at h
theorem zeroSh (w : World) : (zeroValue 48).run Tryd.prog w = .ok (.agg (shC zS).toArray) w := by kernel_rfl
/-- The map in block mb holds just these, each by its key. -/
def SM (kt : TypeId) (kl : Sh → Lit) (W : World) (mb : Nat) (xs : List Sh) : Prop := ∃ D : DataW Unit, W.ownsMap Tryd.prog kt shE mb xs.length D ∧ (∀ l, Maps.has D l = true ↔ ∃ p ∈ xs, l = kl p) ∧ (∀ p ∈ xs, ∀ zd, D.atKey (kl p) zd = enS p) ∧ Maps.size D = xs.length
section
variable {kt mt : TypeId} {kl : Sh → Lit} {W W' : World} {mb : Nat} {xs : List Sh}
theorem SM.lt (h : SM kt kl W mb xs) : mb < W.heap.size := by
  obtain ⟨D, h1, _⟩ := h
  exact h1.lt
theorem SM.block (h : SM kt kl W mb xs) (e : W'.heap[mb]? = W.heap[mb]?) : SM kt kl W' mb xs := by
  obtain ⟨D, ⟨es, clock, hb, r⟩, h2⟩ := h
  exact ⟨D, ⟨es, clock, e.trans hb, r⟩, h2⟩
theorem SM.below (h : SM kt kl W mb xs) (b : Below W.heap.size W W') : SM kt kl W' mb xs := h.block (b.block mb h.lt)
theorem SM.made (kt : TypeId) (kl : Sh → Lit) (W : World) : SM kt kl (W.alloc (.map #[] 0)) W.heap.size [] := ⟨_, World.ownsMap_made (H := Unit) W Tryd.prog kt shE, fun l => by simp [Maps.has_eq], fun p hp => by simp at hp, rfl⟩
theorem SM.look (h : SM kt kl W mb xs) (K : Keyed Tryd.prog kt) (ht : Tryd.prog.underlying mt = some (.map kt 48)) {key : Value} {l : Lit} (hk : keyOf Tryd.prog kt key = some l) (g : Option Sh) (h1 : ∀ p, g = some p → p ∈ xs ∧ kl p = l) (h2 : g = none → ∀ p ∈ xs, kl p ≠ l) :
    (Instr.lookup mt (.map (some mb)) key true).run Tryd.prog W = .ok (.tuple #[.agg (shC (g.getD zS)).toArray, .bool g.isSome]) W := by
  obtain ⟨D, d1, d2, d3, d4⟩ := h
  obtain ⟨v, ps, hr, hv⟩ := d1.look_ok K ht (zeroSh W) (shE_mk zS) hk
  cases g with
  | none =>
    have hn : Maps.has D l = false := by
      cases hh : Maps.has D l with
      | false => rfl
      | true =>
        obtain ⟨p, hp, e⟩ := (d2 _).1 hh
        exact absurd e.symm (h2 rfl p hp)
    rw [hn] at hr
    rw [Maps.atKey_of_not_has hn] at hv
    rw [hr, shE_eq hv]; rfl
  | some p =>
    obtain ⟨hp, e⟩ := h1 p rfl
    have hy : Maps.has D l = true := (d2 _).2 ⟨p, hp, e.symm⟩
    rw [hy] at hr
    have := d3 p hp (enS zS)
    rw [e] at this
    rw [this] at hv
    rw [hr, shE_eq hv]; rfl
theorem SM.put (h : SM kt kl W mb xs) (K : Keyed Tryd.prog kt) (ht : Tryd.prog.underlying mt = some (.map kt 48)) {a : Sh} {key : Value} (hk : keyOf Tryd.prog kt key = some (kl a)) (hkl : Go.WideAt.IsKeyLit (kl a)) (hn : ∀ p ∈ xs, kl p ≠ kl a) (hl : xs.length < maxLen) :
    ∃ W', (Instr.mapUpdate mt (.map (some mb)) key (.agg (shC a).toArray)).run Tryd.prog W = .ok () W' ∧ SM kt kl W' mb (xs ++ [a]) ∧ Stay (fun k => k = mb) W W' ∧ W'.heap.size = W.heap.size := by
  obtain ⟨D, h1, h2, h3, h4⟩ := h
  obtain ⟨W', hr, ho, ht'⟩ := h1.store K ht hl hk (shE_mk a)
  have hnot : Maps.has D (kl a) = false := by
    cases hh : Maps.has D (kl a) with
    | false => rfl
    | true =>
      obtain ⟨p, hp, e⟩ := (h2 _).1 hh
      exact absurd e.symm (hn p hp)
  have hsz : W'.heap.size = W.heap.size := by
    obtain ⟨es, cl, es', cl', hb, rfl⟩ := ht'
    simp [setBlock]
  have hlen : (xs ++ [a]).length = xs.length + 1 := by simp
  refine ⟨W', hr, ⟨_, by rw [hlen]; exact ho, fun l => ?_, fun p hp zd => ?_, ?_⟩, .grown ht'.grown (fun k e => by cases e; rfl), hsz⟩
  · by_cases e : l = kl a
    · subst e
      rw [Maps.has_put_same h1.isMap hkl]
      exact ⟨fun _ => ⟨a, by simp, rfl⟩, fun _ => rfl⟩
    · rw [Maps.has_put_other e, h2]
      constructor
      · rintro ⟨x, hx', e'⟩; exact ⟨x, List.mem_append_left _ hx', e'⟩
      · rintro ⟨x, hx', e'⟩
        rcases List.mem_append.1 hx' with hx' | hx'
        · exact ⟨x, hx', e'⟩
        · rw [List.mem_singleton] at hx'
          subst hx'
          exact absurd e' e
  · rcases List.mem_append.1 hp with hp' | hp'
    · rw [Maps.atKey_put_other (hn p hp')]
      exact h3 p hp' zd
    · rw [List.mem_singleton] at hp'
      subst hp'
      exact Maps.atKey_put_same h1.isMap hkl _ _
  · rw [Maps.size_put (h1.tidy K), hnot, h4]; simp
end
end Go.Proofs.YtojnlngpgbcimaaDoor
set_option linter.unusedVariables false
set_option linter.unusedSimpArgs false
namespace Go.Proofs.YtojnlngpgbcimaaDoor
open Go.RowKit
set_option maxHeartbeats 8000000 in
set_option maxRecDepth 100000 in
theorem shapes_any (w : World) : Calls Tryd.prog 32 #[] w fun e w' => e = .returned (.slice (some ⟨w.heap.size, 0, none⟩) 23 23) ∧ w' = w.alloc (.cells (shL.flatMap shC).toArray 48) := by
  go_enter Tryd.func32, Tryd.ntmps32
  go_wp2
  go_ret
  exact ⟨rfl, rfl⟩
end Go.Proofs.YtojnlngpgbcimaaDoor
