/-
  DERIVED. There and back: how long it is, and what a law says of it.
-/
import Derived.Test.YtnkepggldlobjaaWBack2
import Derived.Test.YtnkepggldlobjaaWBeg
set_option linter.unusedVariables false
set_option linter.unusedSimpArgs false
namespace Go.Proofs.Ytnkepggldlobjaa
open Go.RowKit Go.Proofs.SealMath
theorem wrT_le (t : ByteArray) (h : t.size ≤ 65536) : (wrT t).length ≤ 65546 := by
  unfold wrT
  rw [List.length_append]
  have := (pvL_len 9 t.size).2
  have e : t.data.toList.length = t.size := Array.length_toList
  omega
theorem wrN_le (n : Int) : (wrN n).length ≤ 10 := by
  unfold wrN
  have := (pvL_len 9 n.toNat).2
  omega
theorem ck_text {t : ByteArray} {x : Bool} (h : (x, decide (65536 < t.size)) = (false, false)) : t.size ≤ 65536 := by
  have := of_decide_eq_false (Prod.mk.inj h).2
  omega
theorem wrQ_le (i : Nat) (q : Rq) (v : VQ i q) : (wrQ i q).length ≤ 65556 := by
  have hck := v.ck
  unfold ckQ at hck
  unfold wrQ
  split at hck <;> simp_all
  all_goals first
    | omega
    | (have h1 := wrN_le q.id; have h2 := (pvL_len 9 q.c.size).2; have h3 := wrN_le q.k; have h4 := wrN_le q.r; omega)
    | (have h1 := wrN_le q.id; omega)
theorem ask_size (q : Rq) (hW : RqW q) (h : (askA q).2 = 0) : 1 ≤ (askA q).1.length ∧ (askA q).1.length ≤ 8589934592 := by
  obtain ⟨i, hi, hop, hv, hcl, hA⟩ := ask_ok q hW h
  rw [hA]
  have := wrQ_le i q hv
  simp
  omega
theorem wrR_le (i : Nat) (r : Rp) (L : List Ht) (en : Nat) (v : VR i r L en) : (wrR i r L).length ≤ 4300000000 ∧ L.length ≤ 65536 := by
  obtain ⟨-, -, h3⟩ := stP_all v.st
  have hw := v.w
  have hck := v.ck
  unfold ckR at hck
  unfold wrR
  have hL : glE L = 0 → (pvL 9 L.length ++ L.flatMap wrHt).length ≤ 4300000000 ∧ L.length ≤ 65536 := fun hg => by
    obtain ⟨g1, g2⟩ := gl_ok hg hw
    have h1 := flat_le L g2 L.length
    rw [List.take_length] at h1
    have h2 := (pvL_len 9 L.length).2
    rw [List.length_append]
    refine ⟨?_, g1⟩
    have : L.length * 65566 ≤ 65536 * 65566 := Nat.mul_le_mul_right _ g1
    omega
  split
  · rename_i he
    rw [if_pos he] at hck
    unfold wrP
    unfold ckP at hck
    unfold lfS at h3
    split <;> simp_all
    all_goals first
      | omega
      | (have h2 := (pvL_len 9 r.t.size).2; omega)
      | (have h1 := wrN_le r.n; omega)
  · rename_i he
    unfold lfS at h3
    split at h3 <;> simp_all
theorem tell_size (op : Int) (r : Rp) (L : List Ht) (hn : r.n ≤ 9223372036854775807) (hw : HtsW L) (h : (tellA op r L).2 = 0) : (1 ≤ (tellA op r L).1.length ∧ (tellA op r L).1.length ≤ 8589934592) ∧ L.length ≤ 65536 := by
  obtain ⟨i, en, hi, hop, h999, hv, hA⟩ := tell_ok op r L hn hw h
  rw [hA]
  obtain ⟨h1, h2⟩ := wrR_le i r L en hv
  have h3 := (pvL_len 9 en).2
  refine ⟨?_, h2⟩
  simp
  omega
theorem ba_x (l : List UInt8) (more : ByteArray) : (⟨l.toArray⟩ : ByteArray) ++ ⟨#[120]⟩ ++ more = ⟨(l ++ 120 :: more.data.toList).toArray⟩ := by
  apply ByteArray.ext
  simp
theorem ba_last (l : List UInt8) : (⟨l.toArray⟩ : ByteArray).extract 0 ((⟨l.toArray⟩ : ByteArray).size - 1) = ⟨l.dropLast.toArray⟩ := by
  apply ByteArray.ext
  rw [ByteArray.data_extract]
  have e : (⟨l.toArray⟩ : ByteArray).size = l.length := by simp [ByteArray.size]
  rw [e]
  simp [List.dropLast_eq_take]
end Go.Proofs.Ytnkepggldlobjaa
