/-
  DERIVED. The document's Told, for every text.
-/
import Derived.Test.YtjdknijjkjmafaaWRefD
set_option linter.unusedVariables false
set_option linter.unusedSimpArgs false
namespace Go.Proofs.Ytjdknijjkjmafaa
open Go.RowKit Go.Proofs.SealMath
theorem rdK_P (i : Nat) (hi : i < 9) (b : ByteArray) (s : RS) : rdK (tlP i).1 (tlP i).2.1 (tlP i).2.2 b s = rdP i b s := by
  have h : i = 0 ∨ i = 1 ∨ i = 2 ∨ i = 3 ∨ i = 4 ∨ i = 5 ∨ i = 6 ∨ i = 7 ∨ i = 8 := by omega
  rcases h with rfl | rfl | rfl | rfl | rfl | rfl | rfl | rfl | rfl <;> rfl
theorem tlP_one (i : Nat) (hi : i < 9) : ((tlP i).1 = true → (tlP i).2.1 = false ∧ (tlP i).2.2 = false) ∧ ((tlP i).2.1 = true → (tlP i).2.2 = false) := by
  have h : i = 0 ∨ i = 1 ∨ i = 2 ∨ i = 3 ∨ i = 4 ∨ i = 5 ∨ i = 6 ∨ i = 7 ∨ i = 8 := by omega
  rcases h with rfl | rfl | rfl | rfl | rfl | rfl | rfl | rfl | rfl <;> decide
theorem dtold_any (b : ByteArray) (w : World) (hb : b.size < 4611686018427387904) :
    Calls Try.prog 9 #[.string b] w fun y w' => TdO w w' y (toldA b) := by
  by_cases hx : (hdX 82 b).1 = 0
  · have hi := hdX_lt 82 b
    obtain ⟨i, hie⟩ : ∃ i, i = (hdX 82 b).2 := ⟨_, rfl⟩
    have hop : bgN 82 b = i + 1 := by unfold bgN; rw [if_pos hx, hie]
    rw [← hie] at hi
    obtain ⟨m1, m2, m3⟩ := rdM_U b (2, (hdX 82 b).1)
    rw [hx] at m1 m2 m3
    have hk := rtold_k b w hb (i + 1) hop (tlP i).1 (tlP i).2.1 (tlP i).2.2 (tlP_one i hi) (fun W => tells_any i hi W) (rdU 999 13 b (2, 0)).2 (rdU 999 13 b (2, 0)).1 (by rw [hx]; exact m1) (by rw [hx]; exact m2) (by rw [hx]; exact m3) (rdR i (rdU 999 13 b (2, 0)).1 b (rdU 999 13 b (2, 0)).2) (by rw [rdK_P i hi]; rfl)
    have hA : toldA b = tdA b (rdR i (rdU 999 13 b (2, 0)).1 b (rdU 999 13 b (2, 0)).2).2 (i + 1) (rdU 999 13 b (2, 0)).1 (rdR i (rdU 999 13 b (2, 0)).1 b (rdU 999 13 b (2, 0)).2).1.1 (rdR i (rdU 999 13 b (2, 0)).1 b (rdU 999 13 b (2, 0)).2).1.2.1 (rdR i (rdU 999 13 b (2, 0)).1 b (rdU 999 13 b (2, 0)).2).1.2.2 := by
      unfold toldA tdA
      rw [if_neg (fun h => h hx), ← hie]
    rw [hA]
    exact hk
  · have hop : bgN 82 b = 0 := by unfold bgN; rw [if_neg hx]
    have hk := rtold_k b w hb 0 hop false false false ⟨(fun h => by cases h), (fun h => by cases h)⟩ (fun W => tells_zero W) (2, (hdX 82 b).1) 0 (by rw [rdM_stop hx]) (by rw [rdM_stop hx]) (by rw [rdM_stop hx]; intro _; rfl) ((0, [], []), (2, (hdX 82 b).1)) rfl
    have he : endE b (2, (hdX 82 b).1) = (hdX 82 b).1 := by unfold endE; rw [if_neg (fun h => hx h.1)]
    have hA : toldA b = tdA b (2, (hdX 82 b).1) 0 0 0 [] [] := by
      unfold toldA tdA
      rw [if_pos hx, he, if_pos hx]
    rw [hA]
    exact hk
end Go.Proofs.Ytjdknijjkjmafaa
