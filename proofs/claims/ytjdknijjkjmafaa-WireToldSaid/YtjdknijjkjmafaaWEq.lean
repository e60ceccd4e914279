/-
  DERIVED. Requests and hits compared.
-/
import Derived.Test.YtjdknijjkjmafaaWReq
set_option linter.unusedVariables false
set_option linter.unusedSimpArgs false
namespace Go.Proofs.Ytjdknijjkjmafaa
open Go.RowKit Go.Proofs.SealMath
def rqE (p q : Rq) : Bool := (p.op == q.op) && ((p.id == q.id) && ((p.c.toList == q.c.toList) && ((p.k == q.k) && (p.r == q.r))))
set_option maxHeartbeats 1000000 in
theorem rq_neq (p q : Rq) (W : World) : (binOp .neq 40 (.agg (rqV p)) (.agg (rqV q))).run Try.prog W = .ok (.bool (!rqE p q)) W := by
  obtain ⟨a, b, c, d, e⟩ := p
  obtain ⟨a', b', c', d', e'⟩ := q
  unfold rqE
  simp only [rqV]
  by_cases h1 : a = a'
  · by_cases h2 : b = b'
    · by_cases h3 : c.toList = c'.toList
      · by_cases h4 : d = d'
        · by_cases h5 : e = e'
          · simp [go_sem, Try.underlying40, Try.underlying9, Try.underlying3, h1, h2, h3, h4, h5]
          · simp [go_sem, Try.underlying40, Try.underlying9, Try.underlying3, h1, h2, h3, h4, h5]
        · simp [go_sem, Try.underlying40, Try.underlying9, Try.underlying3, h1, h2, h3, h4]
      · simp [go_sem, Try.underlying40, Try.underlying9, Try.underlying3, h1, h2, h3]
    · simp [go_sem, Try.underlying40, Try.underlying9, Try.underlying3, h1, h2]
  · simp [go_sem, Try.underlying40, Try.underlying9, Try.underlying3, h1]
set_option maxHeartbeats 1000000 in
theorem rq_eql (p q : Rq) (W : World) : (binOp .eql 40 (.agg (rqV p)) (.agg (rqV q))).run Try.prog W = .ok (.bool (rqE p q)) W := by
  obtain ⟨a, b, c, d, e⟩ := p
  obtain ⟨a', b', c', d', e'⟩ := q
  unfold rqE
  simp only [rqV]
  by_cases h1 : a = a'
  · by_cases h2 : b = b'
    · by_cases h3 : c.toList = c'.toList
      · by_cases h4 : d = d'
        · by_cases h5 : e = e'
          · simp [go_sem, Try.underlying40, Try.underlying9, Try.underlying3, h1, h2, h3, h4, h5]
          · simp [go_sem, Try.underlying40, Try.underlying9, Try.underlying3, h1, h2, h3, h4, h5]
        · simp [go_sem, Try.underlying40, Try.underlying9, Try.underlying3, h1, h2, h3, h4]
      · simp [go_sem, Try.underlying40, Try.underlying9, Try.underlying3, h1, h2, h3]
    · simp [go_sem, Try.underlying40, Try.underlying9, Try.underlying3, h1, h2]
  · simp [go_sem, Try.underlying40, Try.underlying9, Try.underlying3, h1]
theorem rqE_iff (p q : Rq) : rqE p q = true ↔ p = q := by
  obtain ⟨a, b, c, d, e⟩ := p
  obtain ⟨a', b', c', d', e'⟩ := q
  unfold rqE
  simp only [Bool.and_eq_true, beq_iff_eq, Rq.mk.injEq]
  rw [ByteArray.toList_eq, ByteArray.toList_eq]
  constructor
  · rintro ⟨h1, h2, h3, h4, h5⟩
    exact ⟨h1, h2, ByteArray.ext (Array.toList_inj.1 h3), h4, h5⟩
  · rintro ⟨h1, h2, h3, h4, h5⟩
    exact ⟨h1, h2, by rw [h3], h4, h5⟩
/-- A hit. -/
structure Ht where
  d : Int
  i : Int
  c : ByteArray
abbrev htV (h : Ht) : Array Value := #[.int .i64 h.d, .int .i64 h.i, .string h.c]
def htE (p q : Ht) : Bool := (p.d == q.d) && ((p.i == q.i) && (p.c.toList == q.c.toList))
set_option maxHeartbeats 1000000 in
theorem ht_neq (p q : Ht) (W : World) : (binOp .neq 25 (.agg (htV p)) (.agg (htV q))).run Try.prog W = .ok (.bool (!htE p q)) W := by
  obtain ⟨a, b, c⟩ := p
  obtain ⟨a', b', c'⟩ := q
  unfold htE
  simp only [htV]
  by_cases h1 : a = a'
  · by_cases h2 : b = b'
    · by_cases h3 : c.toList = c'.toList
      · simp [go_sem, Try.underlying25, Try.underlying9, Try.underlying3, h1, h2, h3]
      · simp [go_sem, Try.underlying25, Try.underlying9, Try.underlying3, h1, h2, h3]
    · simp [go_sem, Try.underlying25, Try.underlying9, Try.underlying3, h1, h2]
  · simp [go_sem, Try.underlying25, Try.underlying9, Try.underlying3, h1]
theorem htE_iff (p q : Ht) : htE p q = true ↔ p = q := by
  obtain ⟨a, b, c⟩ := p
  obtain ⟨a', b', c'⟩ := q
  unfold htE
  simp only [Bool.and_eq_true, beq_iff_eq, Ht.mk.injEq]
  rw [ByteArray.toList_eq, ByteArray.toList_eq]
  constructor
  · rintro ⟨h1, h2, h3⟩
    exact ⟨h1, h2, ByteArray.ext (Array.toList_inj.1 h3)⟩
  · rintro ⟨h1, h2, h3⟩
    exact ⟨h1, h2, by rw [h3]⟩
end Go.Proofs.Ytjdknijjkjmafaa
