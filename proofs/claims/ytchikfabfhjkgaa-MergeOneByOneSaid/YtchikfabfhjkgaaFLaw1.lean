/-
  DERIVED. A merger over feeds: what each call of Next answers, and what was asked by then.
-/
import Derived.Test.YtchikfabfhjkgaaFLaw0
set_option linter.unusedVariables false
set_option linter.unusedSimpArgs false
namespace Go.Proofs.Ytchikfabfhjkgaa.Fd
open Go.RowKit
/-- A merger that has begun, with so much still to be told. -/
structure Bg (w0 : World) (B m : Nat) (bxs : List (Nat × List En)) (bottom : Bool) (R : List (List En)) (l : List En) (ys : List St) (rs : List (Option (List En))) (W : World) : Prop where
  mq : MQ w0 B m bxs (.slice none 0 0) (.bool bottom) (.int .i64 0) (.slice none 0 0) [] ys [] rs W
  yl : ys.length ≤ 1024
  pi : PI R ys rs
  tl : Tl bottom ys rs l
/-- One that has not. -/
structure Nb (w0 : World) (B m : Nat) (bxs : List (Nat × List En)) (bottom : Bool) (R : List (List En)) (l : List En) (W : World) : Prop where
  mq : ∃ sb sc cur, MQ w0 B m bxs (.slice (some ⟨sb, 0, none⟩) bxs.length sc) (.bool bottom) (.int .i64 0) (.slice none 0 0) [] [] [] (R.map some) W ∧ W.heap[sb]? = some (.cells cur 46 (0, 0)) ∧ ∀ (i : Nat) (b : Nat × List En), bxs[i]? = some b → cur[i]? = some (fdV b.1)
  len : R.length = bxs.length
  uq : Uniq R.flatten
  told : Told R bottom l
  up : ∀ r ∈ R, rises r = true
  cs : ∀ r ∈ R, ∀ e ∈ r, e.c.size ≤ 281474976710656
/-- What Next answers then. -/
def NxO (w0 : World) (B m : Nat) (bxs : List (Nat × List En)) (bottom : Bool) (R : List (List En)) (l : List En) (W : World) (r : Ending) (W' : World) : Prop :=
  KeepEn W W' ∧ ∃ ys rs, (l = [] ∧ r = .returned (.tuple #[zeroE, .bool false, .int .i64 0]) ∧ ys = [] ∧ Bg w0 B m bxs bottom R [] ys rs W') ∨
    ∃ e l', l = e :: l' ∧ r = .returned (.tuple #[.agg (enC e).toArray, .bool true, .int .i64 0]) ∧ Bg w0 B m bxs bottom R l' ys rs W' ∧ Low R rs (fun x => cpE x e ≤ 0)
theorem pool_end {rs : List (Option (List En))} (c : Cov [] rs) : pool [] (dn rs) = [] := by
  unfold pool
  simp only [List.map_nil, List.nil_append, List.flatten_eq_nil_iff]
  intro r hr
  obtain ⟨o, ho, rfl⟩ := List.mem_map.1 hr
  obtain ⟨j, hj, e⟩ := List.getElem_of_mem ho
  rcases c j hj with k | ⟨y, hy, -⟩
  · rw [List.getElem?_eq_getElem hj, e] at k
    cases k; rfl
  · simp at hy
theorem NextO.nx {w0 : World} {B m : Nat} {bxs : List (Nat × List En)} {bottom : Bool} {R : List (List En)} {l : List En} {ys : List St} {rs : List (Option (List En))} {W W' : World} {r : Ending} (h : NextO w0 B m bxs bottom ys rs W r W') (p : PI R ys rs) (t : Tl bottom ys rs l) : NxO w0 B m bxs bottom R l W r W' := by
  obtain ⟨hk, ⟨ys2, rs2, k, rfl, q, hl⟩ | ⟨e, ys2, rs2, k, rfl, q, hl⟩ | ⟨ys2, rs2, k, rfl, -⟩⟩ := h
  · rcases t.next p.inv k with ⟨h1, -⟩ | ⟨e, l', -, h2, -⟩
    · have he := k.end'
      have p2 := (k.pi p).1 (fun h => by cases h)
      subst he
      have hp := pool_end p2.cov
      exact ⟨hk, [], rs2, .inl ⟨h1, rfl, rfl, q, hl, p2, ⟨by rw [hp]; exact List.Pairwise.nil, List.Pairwise.nil, fun x => by
        rw [hp]
        constructor
        · intro hx; simp at hx
        · intro hx; have := hx.1.1; simp at this⟩⟩⟩
    · cases h2
  · rcases t.next p.inv k with ⟨-, h1⟩ | ⟨e', l', h1, h2, h3⟩
    · cases h1
    · cases h2
      exact ⟨hk, ys2, rs2, .inr ⟨e, l', h1, rfl, ⟨q, hl, (k.pi p).1 (fun h => by cases h), h3⟩, (k.pi p).2 e rfl⟩⟩
  · rcases t.next p.inv k with ⟨-, h1⟩ | ⟨e', l', h1, h2, h3⟩
    · cases h1
    · cases h2
theorem Bg.next {w0 : World} {B m : Nat} {bxs : List (Nat × List En)} {bottom : Bool} {R : List (List En)} {l : List En} {ys : List St} {rs : List (Option (List En))} {W : World} (h : Bg w0 B m bxs bottom R l ys rs W) :
    Calls Try.prog 19 #[.pointer (some ⟨m, 0, none⟩)] W (NxO w0 B m bxs bottom R l W) :=
  (next_any h.mq h.yl).mono fun r W' hO => hO.nx h.pi h.tl
theorem Nb.next {w0 : World} {B m : Nat} {bxs : List (Nat × List En)} {bottom : Bool} {R : List (List En)} {l : List En} {W : World} (h : Nb w0 B m bxs bottom R l W) :
    Calls Try.prog 19 #[.pointer (some ⟨m, 0, none⟩)] W (NxO w0 B m bxs bottom R l W) := by
  obtain ⟨sb, sc, cur, q, hsb, hcur⟩ := h.mq
  have bA : Below W.heap.size W (W.alloc (.cells #[.int .i64 0, .string ⟨#[]⟩, .int .i64 0, .int .i64 0, .bool false] 23)) := (Below.refl _ W).alloc (Nat.le_refl _) _
  have hBW : B ≤ W.heap.size := by
    obtain ⟨av, hm, -⟩ := q.hm
    have h2 : m < W.heap.size := (Array.getElem?_eq_some_iff.1 hm).1
    have := q.mB
    omega
  refine (next_gen (Q := fun ys rs => PI R ys rs ∧ Tl bottom ys rs l) hBW ((begin_any sb sc cur (q.later bA) ((bA.block sb (Array.getElem?_eq_some_iff.1 hsb).1).trans hsb) hcur).mono fun r W1 ⟨h1, ys, rs, h2, h3, h4, h5, h6⟩ => ?_)).mono fun r W' ⟨ys, rs, ⟨hp, ht⟩, hO⟩ => hO.nx hp ht
  have hnn : (ys.map St.num).Nodup := by have := h2.nums; rwa [List.append_nil] at this
  have hll : ∀ y ∈ ys, y.num < R.length := fun y hy => by
    obtain ⟨-, ⟨b, hb2, -⟩, -⟩ := h2.st y (List.mem_append_left _ hy)
    rw [h.len]; exact (List.getElem?_eq_some_iff.1 hb2).1
  rw [← h.len] at h3
  exact ⟨h1, ys, rs, h2, h4, Nat.le_trans h5 q.small, pi_of h3 hnn hll h6 h.cs h.up h.uq h.told⟩
/-- How often a feed was asked. -/
theorem Bg.used {w0 : World} {B m : Nat} {bxs : List (Nat × List En)} {bottom : Bool} {R : List (List En)} {l : List En} {ys : List St} {rs : List (Option (List En))} {W : World} (h : Bg w0 B m bxs bottom R l ys rs W) (i : Nat) (b : Nat × List En) (hb : bxs[i]? = some b) :
    ∃ o, rs[i]? = some o ∧ W.cell? ⟨b.1, 5, none⟩ = some (.int .i64 (usd b.2 o : Nat)) ∧ usd b.2 o ≤ b.2.length + 1 ∧ (ys = [] → usd b.2 o = b.2.length + 1) := by
  have hlt : i < rs.length := by rw [h.mq.len]; exact (List.getElem?_eq_some_iff.1 hb).1
  have hr : rs[i]? = some rs[i] := List.getElem?_eq_getElem hlt
  obtain ⟨la, cap, u, hx, hu⟩ := (h.mq.src i b _ hb hr).ex
  refine ⟨_, hr, by rw [cell_of_row _ _ 5 _ _ (0, 0) hx, ← hu]; rfl, ?_, fun hy => ?_⟩
  · cases rs[i] with
    | none => simp [usd]
    | some l => simp only [usd]; omega
  · subst hy
    rcases h.pi.cov i hlt with k | ⟨y, hy, -⟩
    · rw [hr, Option.some.injEq] at k
      rw [k]; rfl
    · simp at hy
end Go.Proofs.Ytchikfabfhjkgaa.Fd
