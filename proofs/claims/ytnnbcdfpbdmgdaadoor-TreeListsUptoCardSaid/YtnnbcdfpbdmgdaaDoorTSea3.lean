/-
  DERIVED. A search: its two calls, from where it stands.
-/
import Derived.Test.YtnnbcdfpbdmgdaaDoorTSea2
set_option linter.unusedVariables false
set_option linter.unusedSimpArgs false
namespace Go.Proofs.YtnnbcdfpbdmgdaaDoor
open Go.RowKit Go.Maps Go.Sort Go.Proofs.BitMath Go.Proofs.TreeMath
theorem kids_nil {α : Type} {T : List (Nd α)} {dq : Nat → Nat} {b i n : Nat} (h : ∀ e, child T i e = none) : ∀ k, kids T dq b i n k = []
  | 0 => rfl
  | k + 1 => by rw [kids, kids_nil h k]; simp [kid, h]
/-- await, whether there is a map or not. -/
theorem await_any {n t wd : Nat} {T : List (Nd (Cd n))} {bs : List Nat} {ms : List (Option Nat)} {x : Num} (W : World) (h : TR W t wd T bs ms x) {j : Nat} {nd : Nd (Cd n)} (hj : T[j]? = some nd) {b : Nat} {m : Option Nat} (hb : bs[j]? = some b) (hm : ms[j]? = some m) (L : List St) (B : Nat) (wv : Value) (hL : W.ownsRow B 91 3 wv L.length (L.flatMap (stV bs))) (hLl : L.length ≤ T.length) (D bf g bd : Nat) (hD : D ≤ 8192) (hbd : bd ≤ 8192) (h3 : W.cell? ⟨bf, 0, none⟩ = some (.pointer (some ⟨g, 0, none⟩))) (h4 : W.cell? ⟨g, 1, none⟩ = some (.int .i64 (bd : Nat))) (hb3 : wv.ownBlock ≠ some bf) (hb4 : wv.ownBlock ≠ some g) (hBW : B ≤ W.heap.size) (htb : ∀ k, TFoot t bs ms k → wv.ownBlock ≠ some k) {dq : Nat → Nat} (hdq : dq j = D) :
    Calls Tryd.prog 57 #[.pointer (some ⟨b, 0, none⟩), wv, .int .i64 (D : Nat), mayF bf] W (AwO W B wv bs (L ++ kids T dq bd j 0 wd)) := by
  cases m with
  | none =>
    refine (await_none W h hj hb hm L B wv hL D bf).mono ?_
    rintro e w' ⟨rfl, b'⟩
    rw [kids_nil (h.bare j hm), List.append_nil]
    exact ⟨wv, rfl, row_kept (F := fun _ => False) hL (.below b') (fun _ _ hh => hh), fun k hk => .inl hk, .below b'⟩
  | some mb => exact await_some W h hj hb hm L B wv hL hLl D bf g bd hD hbd h3 h4 hb3 hb4 hBW htb hdq
theorem S2.await {n : Nat} {B : Nat} {W w : World} {t wd g cb bf k b0 : Nat} {q : Cd n} {T : List (Nd (Cd n))} {bs : List Nat} {ms : List (Option Nat)} {x : Num} {nv : Nat} {V : List Nat} {L : List St} {wv : Value} {cnt : Nat} {vs : List Value} {sb b e p j : Nat} {nd : Nd (Cd n)} {m : Option Nat} (h : S2 B W w t wd g cb bf k b0 q T bs ms x nv (lvc T V) L wv cnt vs sb b e p) (htb : ∀ j, TFoot t bs ms j → j < B) (hB : B ≤ w.heap.size) (hb0 : b0 ≤ 8192) (hj : T[j]? = some nd) (hb : bs[j]? = some b) (hm : ms[j]? = some m) (hLl : L.length ≤ T.length) (n8 : n ≤ 128) :
    Calls Tryd.prog 57 #[.pointer (some ⟨b, 0, none⟩), wv, .int .i64 (dC nd.code q : Nat), mayF bf] w (AwO w B wv bs (L ++ kids T (dqf T q) (bdV T k b0 q V) j 0 wd)) := by
  have hd := dC_le nd.code q
  refine await_any w h.tr hj hb hm L B wv h.row hLl _ bf g (bdV T k b0 q V) (by omega) (Nat.le_trans (bdV_le T k b0 q V) hb0) h.c3.1 h.fb.fx.cell.2.1 (fun e => ?_) (fun e => ?_) hB (fun j hj e => ?_) (dqf_eq hj)
  · obtain ⟨cur, e2⟩ := row_block h.row e
    rw [h.box] at e2; simp at e2
  · obtain ⟨cur, e2⟩ := row_block h.row e
    rw [h.fb.box] at e2; simp at e2
  · have := (h.row.lt j e).1
    have := htb j hj
    omega
/-- What adding leaves. -/
def AddTo {n : Nat} (B : Nat) (W : World) (t wd g cb bf k b0 : Nat) (q : Cd n) (T : List (Nd (Cd n))) (bs : List Nat) (ms : List (Option Nat)) (x : Num) (nv : Nat) (M : List (Cd n)) (L : List St) (wv : Value) (sb b e p : Nat) (code : ByteArray) (r : Ending) (w5 : World) : Prop :=
  r = .returned (.tuple #[]) ∧ Hid ((w5.cell? ⟨bf, 0, none⟩ = some (.pointer (some ⟨g, 0, none⟩)) ∧ w5.cell? ⟨sb, 0, none⟩ = some (.pointer (some ⟨b, 0, none⟩)) ∧ w5.cell? ⟨b, 0, none⟩ = some (.string code)) ∧ ∃ cnt vs, S2 B W w5 t wd g cb bf k b0 q T bs ms x nv M L wv cnt vs sb b e p)
theorem S2.addc {n : Nat} {B : Nat} {W w : World} {t wd g cb bf k b0 : Nat} {q : Cd n} {T : List (Nd (Cd n))} {bs : List Nat} {ms : List (Option Nat)} {x : Num} {nv : Nat} {M : List (Cd n)} {L : List St} {wv : Value} {cnt : Nat} {vs : List Value} {sb b e p j : Nat} {nd : Nd (Cd n)} (h : S2 B W w t wd g cb bf k b0 q T bs ms x nv M L wv cnt vs sb b e p) (htb : ∀ j, TFoot t bs ms j → j < B) (hB : B ≤ w.heap.size) (hb0 : b0 ≤ 8192) (hk1 : 1 ≤ k) (hk2 : k ≤ 9223372036854775807) (hj : T[j]? = some nd) (hb : bs[j]? = some b) (hM : M.length < 1099511627776) :
    Calls Tryd.prog 56 #[.pointer (some ⟨g, 0, none⟩), .int .i64 (dC nd.code q : Nat), .string nd.code.1] w (AddTo B W t wd g cb bf k b0 q T bs ms x nv (M ++ [nd.code]) L wv sb b e p nd.code.1) := by
  refine (fadd_any q nd.code k b0 hk1 hk2 M B g cb cnt vs w h.fb hb0 hM hB).mono ?_
  rintro r w5 ⟨rfl, cnt', vs', hf, st⟩
  have h5 := h.add htb hf st
  obtain ⟨b', m', hb', -, -, p0, -⟩ := h5.tr.at_ hj
  rw [hb] at hb'
  cases hb'
  exact ⟨rfl, Hid.mk ⟨⟨h5.c3.1, h5.c3.2, p0⟩, cnt', vs', h5⟩⟩
end Go.Proofs.YtnnbcdfpbdmgdaaDoor
