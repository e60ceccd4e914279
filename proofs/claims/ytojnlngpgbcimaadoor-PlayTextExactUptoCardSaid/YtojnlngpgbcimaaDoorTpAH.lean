/-
  DERIVED. PlWrite, PlTable, PlLine, as one text.
-/
import Derived.Test.YtojnlngpgbcimaaDoorTpAD
import Derived.Test.YtojnlngpgbcimaaDoorTpAE
import Derived.Test.YtojnlngpgbcimaaDoorTpAF
import Derived.Test.YtojnlngpgbcimaaDoorTpAG
import Derived.Lib.ItoaLen
import Derived.Lib.AppendIntMem
import Derived.Test.YtojnlngpgbcimaaDoorCards
import Derived.Test.YtojnlngpgbcimaaDoorTie
import Derived.ProofKit
import Derived.LaidMore
import Derived.SizedLaws
import Derived.OpenShut
import Derived.Lib.LaidTab
import Derived.Lib.SmallJoins
import Derived.Stop.Joined
import Derived.SevenTiedAt
set_option linter.unusedVariables false
set_option linter.unusedSimpArgs false
namespace Go.Proofs.YtojnlngpgbcimaaDoor
open Go.RowKit
abbrev Pow (w : World) : Prop := Lib.TabIs Tryd.prog w "internal/strconv.uint64pow10" .u64 Lib.pow10Tab
abbrev I64 (n : Int) : Prop := -9223372036854775808 ≤ n ∧ n ≤ 9223372036854775807
theorem itoa_any (n : Int) (w : World) (h : I64 n) (ht : Pow w) :
    Calls Tryd.prog 39 #[.int .i64 n] w fun e w' => e = .returned (.string ⟨(Lib.itoa n).toArray⟩) ∧ Below w.heap.size w w' := by
  refine (Tryd.strconv_Itoa n h.1 h.2 w ht).mono ?_
  rintro e w' ⟨rfl, k, os, rfl⟩
  exact ⟨rfl, Lib.below_grow _ _ (Nat.le_refl _) _ _⟩
theorem itoa_len (n : Int) (h : I64 n) : (Lib.itoa n).length ≤ 21 := by
  have := Lib.itoa_length_le n (by have := h.1; omega) (by have := h.2; omega)
  omega
theorem numsL_len (ns : List Int) (h : ∀ n ∈ ns, I64 n) : (numsL ns).length ≤ 22 * ns.length := by
  induction ns with
  | nil => simp [numsL]
  | cons n ns ih =>
    have h1 := itoa_len n (h n (by simp))
    have h2 := ih (fun x hx => h x (by simp [hx]))
    unfold numsL at h2 ⊢
    rw [List.flatMap_cons, List.length_append, List.length_cons, List.length_cons]; omega
/-- How many bytes texts have. -/
def bytesS (ts : List ByteArray) : Nat := (ts.map ByteArray.size).sum
theorem txtsL_len (ts : List ByteArray) : (txtsL ts).length ≤ 3 * bytesS ts + 2 * ts.length := by
  induction ts with
  | nil => simp [txtsL, bytesS]
  | cons t ts ih =>
    have h1 := escL_len t.data.toList
    have h3 : t.data.toList.length = t.size := by simp
    unfold txtsL bytesS at ih ⊢
    rw [List.flatMap_cons, List.length_append, List.length_cons, List.length_cons, List.map_cons, List.sum_cons]; omega
theorem bytesS_mem {ts : List ByteArray} {t : ByteArray} (h : t ∈ ts) : t.size ≤ bytesS ts := by
  induction ts with
  | nil => cases h
  | cons x ts ih =>
    unfold bytesS at ih ⊢
    rw [List.map_cons, List.sum_cons]
    rcases List.mem_cons.1 h with rfl | h
    · omega
    · have := ih h; omega
theorem numsL_succ (ns : List Int) (i : Nat) (hi : i < ns.length) : numsL (ns.take (i + 1)) = numsL (ns.take i) ++ (32 :: Lib.itoa ns[i]) := by
  unfold numsL
  rw [List.take_succ_eq_append_getElem hi, List.flatMap_append]; simp
theorem txtsL_succ (ts : List ByteArray) (i : Nat) (hi : i < ts.length) : txtsL (ts.take (i + 1)) = txtsL (ts.take i) ++ (32 :: escL ts[i].data.toList) := by
  unfold txtsL
  rw [List.take_succ_eq_append_getElem hi, List.flatMap_append]; simp
set_option maxHeartbeats 8000000 in
set_option maxRecDepth 100000 in
theorem words_any {W : World} {b : Nat} {p v : Value} {l : List UInt8} {la lb : Option Addr} {ca cb : Nat} (ns : List Int) (ts : List ByteArray) (h : Bd W b p v l) (hN : ∀ V, Stay (fun k => k = b ∨ v.ownBlock = some k) W V → EI.At V la ns) (hS : ∀ V, Stay (fun k => k = b ∨ v.ownBlock = some k) W V → ES.At V lb ts) (hP : ∀ V, Stay (fun k => k = b ∨ v.ownBlock = some k) W V → Pow V) (hI : ∀ n ∈ ns, I64 n) (hn : ns.length ≤ 1099511627776) (hs : ts.length ≤ 1099511627776) (hb : bytesS ts ≤ 1099511627776) (hl : l.length ≤ 70368744177664) :
    Calls Tryd.prog 34 #[Pt b, .slice la ns.length ca, .slice lb ts.length cb] W fun e W' => e = .returned (.tuple #[]) ∧ ∃ p' v', BW W b v W' p' v' (l ++ (numsL ns ++ txtsL ts)) := by
  have HI0 := Hid.mk (show ∃ p' v', BW W b v W p' v' (l ++ numsL (ns.take 0)) from ⟨p, v, by have := BW.refl h; simpa [numsL] using this⟩)
  have HH := Hid.mk (And.intro hN (And.intro hS (And.intro hP (And.intro hI (And.intro hb hl)))))
  have HN := Hid.mk (numsL_len ns hI)
  clear hN hS hP hI h hb hl
  obtain ⟨N, eN⟩ : ∃ N, N = ns.length := ⟨_, rfl⟩
  obtain ⟨M, eM⟩ : ∃ M, M = ts.length := ⟨_, rfl⟩
  rw [← eN] at hn ⊢
  rw [← eM] at hs ⊢
  have HE := Hid.mk (And.intro eN eM)
  clear eN eM
  go_enter Tryd.func34, Tryd.ntmps34
  go_wp2
  go_loopw [12] (fun u wr => ∃ i : Nat, u = .int .i64 i ∧ i ≤ N ∧ Hid (∃ p' v', BW W b v wr p' v' (l ++ numsL (ns.take i)))) (fun u _ => N - (intOf u).toNat)
  case atStart => exact ⟨0, rfl, Nat.zero_le _, HI0⟩
  case round =>
    clear HI0
    obtain ⟨i, rfl, hi, HM⟩ := hrel
    by_cases hlt : i < N
    · have i1 : (i : Int) < (N : Int) := by omega
      have i2 : (0 : Int) ≤ (i : Int) := by omega
      have hiN : i < ns.length := by rw [← HE.out.1]; exact hlt
      obtain ⟨p1, v1, hB⟩ := HM.out
      obtain ⟨g, off, rfl, x0⟩ := iAt (HH.out.1 wr hB.st) i hiN
      have h64 := HH.out.2.2.2.1 ns[i] (List.getElem_mem hiN)
      have hsn := numsL_succ ns i hiN
      have hlen := numsL_len (ns.take i) (fun x hx => HH.out.2.2.2.1 x (List.mem_of_mem_take hx))
      rw [List.length_take] at hlen
      have hll := HH.out.2.2.2.2.2
      generalize ns[i] = n at x0 h64 hsn
      have hwb : Calls Tryd.prog 37 #[Pt b, .int .u8 32] wr _ := wb_byte hB.bd 32 (by rw [List.length_append]; omega)
      have hil := itoa_len n h64
      have HB := Hid.mk (And.intro hB (And.intro hsn (And.intro hlen (And.intro h64 hil))))
      clear hB hsn hlen HM h64 hil hll
      go_wp2_with fail
      refine hwb.mono ?_
      clear hwb
      rintro r w1 ⟨rfl, v2, h2⟩
      have h12 := HB.out.1.trans h2
      have hit := itoa_any n w1 HB.out.2.2.2.1 (HH.out.2.2.1 w1 h12.st)
      obtain ⟨A, hA⟩ : ∃ A : ByteArray, A = ⟨(Lib.itoa n).toArray⟩ := ⟨_, rfl⟩
      rw [← hA] at hit
      have hAl : A.data.toList = Lib.itoa n := by rw [hA]
      have H12 := Hid.mk (And.intro h12 hAl)
      clear h2 h12 x0 hA hAl
      go_wp2_with fail
      refine hit.mono ?_
      clear hit
      rintro r w2 ⟨rfl, b2⟩
      have h3 := H12.out.1.below b2
      have hws := wb_str h3.bd A (by
        have e1 : A.size = A.data.toList.length := by simp
        rw [e1, H12.out.2, List.length_append, List.length_append, List.length_singleton]
        have := HB.out.2.2.1; have := HB.out.2.2.2.2; have := HH.out.2.2.2.2.2; omega)
      have H3 := Hid.mk h3
      clear h3 b2
      go_wp2_with fail
      refine hws.mono ?_
      clear hws
      rintro r w3 ⟨rfl, v3, h3⟩
      have HNx := Hid.mk (show ∃ p' v', BW W b v w3 p' v' (l ++ numsL (ns.take (i + 1))) from ⟨_, _, by
        have h4 := H3.out.trans h3
        rw [H12.out.2, List.append_assoc, List.append_assoc] at h4
        rw [HB.out.2.1]; exact h4⟩)
      clear h3
      go_wp2
      exact ⟨⟨i + 1, rfl, hlt, HNx⟩, by simp only [intOf]; omega⟩
    · have e : i = N := by omega
      subst e
      have hB0 : ∃ p' v', BW W b v wr p' v' (l ++ numsL ns ++ txtsL (ts.take 0)) := by
        obtain ⟨p1, v1, hB⟩ := HM.out
        rw [HE.out.1, List.take_length] at hB
        exact ⟨p1, v1, by simpa [txtsL] using hB⟩
      have HJ0 := Hid.mk hB0
      have HNl := Hid.mk (show (numsL ns).length ≤ 22 * i from by have := HN.out; rw [← HE.out.1] at this; exact this)
      clear HM hB0 HN
      go_wp2
      go_loopw [25] (fun u wr => ∃ j : Nat, u = .int .i64 j ∧ j ≤ M ∧ Hid (∃ p' v', BW W b v wr p' v' (l ++ numsL ns ++ txtsL (ts.take j)))) (fun u _ => M - (intOf u).toNat)
      case atStart => exact ⟨0, rfl, Nat.zero_le _, HJ0⟩
      case round =>
        clear HJ0
        obtain ⟨j, rfl, hj, HM⟩ := hrel
        by_cases hlt2 : j < M
        · have i1 : (j : Int) < (M : Int) := by omega
          have i2 : (0 : Int) ≤ (j : Int) := by omega
          have hjM : j < ts.length := by rw [← HE.out.2]; exact hlt2
          obtain ⟨p1, v1, hB⟩ := HM.out
          obtain ⟨g, off, rfl, x0⟩ := sAt (HH.out.2.1 wr hB.st) j hjM
          have hsz := bytesS_mem (List.getElem_mem hjM)
          have hsn := txtsL_succ ts j hjM
          have hlen : (txtsL (ts.take j)).length ≤ 3 * bytesS ts + 2 * ts.length := by
            have h1 := txtsL_len ts
            have h2 : txtsL ts = txtsL (ts.take j) ++ txtsL (ts.drop j) := by
              unfold txtsL; rw [← List.flatMap_append, List.take_append_drop]
            rw [h2, List.length_append] at h1; omega
          have hll := HH.out.2.2.2.2.2
          have hbb := HH.out.2.2.2.2.1
          have hnl := HNl.out
          have hMe := HE.out.2
          generalize ts[j] = t at x0 hsz hsn
          have hwb : Calls Tryd.prog 37 #[Pt b, .int .u8 32] wr _ := wb_byte hB.bd 32 (by rw [List.length_append, List.length_append]; omega)
          have hwo := fun (V : World) => wordOf_any t V (by omega)
          have hel := escL_len t.data.toList
          obtain ⟨A, hA⟩ : ∃ A : ByteArray, A = ⟨(escL t.data.toList).toArray⟩ := ⟨_, rfl⟩
          rw [← hA] at hwo
          have hAl : A.data.toList = escL t.data.toList := by rw [hA]
          have hAs : A.size ≤ 3 * t.size + 1 := by
            have e1 : A.size = A.data.toList.length := by simp
            have e2 : t.data.toList.length = t.size := by simp
            rw [e1, hAl]; omega
          have HB := Hid.mk (And.intro hB (And.intro hsn (And.intro hlen (And.intro hAl (And.intro hAs hsz)))))
          clear hB hsn hlen HM hsz hel hA hAl hAs hll hbb hnl hMe
          go_wp2_with fail
          refine hwb.mono ?_
          clear hwb
          rintro r w1 ⟨rfl, v2, h2⟩
          have H12 := Hid.mk (HB.out.1.trans h2)
          clear h2 x0
          go_wp2_with fail
          refine (hwo w1).mono ?_
          clear hwo
          rintro r w2 ⟨rfl, b2⟩
          have h3 := H12.out.below b2
          have hws := wb_str h3.bd A (by
            rw [List.length_append, List.length_append, List.length_append, List.length_singleton]
            have := HB.out.2.2.1; have := HB.out.2.2.2.2.1; have := HB.out.2.2.2.2.2; have := HH.out.2.2.2.2.2; have := HH.out.2.2.2.2.1; have := HNl.out; have := HE.out.2; omega)
          have H3 := Hid.mk h3
          clear h3 b2
          go_wp2_with fail
          refine hws.mono ?_
          clear hws
          rintro r w3 ⟨rfl, v3, h3⟩
          have HNx := Hid.mk (show ∃ p' v', BW W b v w3 p' v' (l ++ numsL ns ++ txtsL (ts.take (j + 1))) from ⟨_, _, by
            have h4 := H3.out.trans h3
            rw [HB.out.2.2.2.1, List.append_assoc (l ++ numsL ns ++ txtsL (ts.take j)), List.append_assoc (l ++ numsL ns)] at h4
            rw [HB.out.2.1]; exact h4⟩)
          clear h3
          go_wp2
          exact ⟨⟨j + 1, rfl, hlt2, HNx⟩, by simp only [intOf]; omega⟩
        · have e2 : j = M := by omega
          subst e2
          have HF := Hid.mk (show ∃ p' v', BW W b v wr p' v' (l ++ (numsL ns ++ txtsL ts)) from by
            obtain ⟨p1, v1, hB⟩ := HM.out
            rw [HE.out.2, List.take_length, List.append_assoc] at hB
            exact ⟨p1, v1, hB⟩)
          clear HM
          go_wp2
          go_end0
          exact ⟨rfl, HF.out⟩
end Go.Proofs.YtojnlngpgbcimaaDoor
namespace Go.Proofs.YtojnlngpgbcimaaDoor
open Go.ChangeShapes Go.WideShapes Go.ChangeAt Go.WideMaps Go.WideElems Go.RowKit 
theorem own : ownKnob Tryd.prog.godebug = none := by kernel_rfl
theorem gPow : Tryd.prog.globalNamed "internal/strconv.uint64pow10" = some 1 := by kernel_rfl
theorem tPow : (Tryd.prog.globals[1]?).map (·.type) = some 120 := by kernel_rfl
theorem cu64 : Tryd.prog.cellsOf 110 = 1 := by kernel_rfl
theorem cPow : Tryd.prog.cellsOf 120 = 20 := by kernel_rfl
/-- What the rows list. -/
abbrev lst : List (String × DataW Unit) := [("math/bits.deBruijn32tab", Rows.laid_math_bits_deBruijn32tab), ("math/bits.deBruijn64tab", Rows.laid_math_bits_deBruijn64tab), ("internal/strconv.uint64pow10", Rows.laid_internal_strconv_uint64pow10)]
theorem door_met (os : Os) (args : Array Value) : laidMetH Tryd.prog lst ((World.doorLaid Tryd.prog 4000 os).forCall (fun _ _ => 0) ⟨#[], args, []⟩).memory :=
  laidMetH_of_parts3 (fuel := 8) (laidMet_of_run' 8 (by kernel_rfl) (by kernel_rfl)) (by kernel_rfl) (by kernel_rfl)
theorem met_tail {P : Program} {x : String × DataW Unit} {l : List (String × DataW Unit)} {w : World} (h : laidMet P (x :: l) w) : laidMet P l w := by
  obtain ⟨ps, ⟨g, t, cs, fuel, p, q, h1, h2, h3, h4, h5, rfl⟩, hnd, hm⟩ := h
  exact ⟨q, h5, (List.nodup_append.1 hnd).2.1, fun b off hb => hm b off (List.mem_append_right _ hb)⟩
theorem pow_of {W : World} (h : laidMetH Tryd.prog lst W) : Pow W := by
  rw [MakeChecks.laidMetH_plain _ _ _ (by kernel_rfl)] at h
  exact Lib.tabIs_of_head (k := .u64) (zs := Lib.pow10Tab) gPow tPow Tryd.underlying120 Tryd.underlying110 cu64 cPow (met_tail (met_tail h))
end Go.Proofs.YtojnlngpgbcimaaDoor
set_option linter.unusedVariables false
set_option linter.unusedSimpArgs false
namespace Go.Proofs.YtojnlngpgbcimaaDoor
open Go.RowKit
theorem shL_o : ∀ p ∈ shL, p.o = true → p.t = 1 := by decide
/-- Numbers that ints hold. -/
structure StI (s : St) : Prop where
  k : I64 s.k
  N : ∀ n ∈ s.N, I64 n
  a : I64 s.a
  b : I64 s.b
  c : I64 s.c
theorem numsF_I {f : Sh} {s : St} (h : StI s) : ∀ n ∈ numsF f s, I64 n := by
  unfold numsF
  split
  · intro n hn
    simp at hn
    rcases hn with rfl | rfl | rfl
    · exact h.a
    · exact h.b
    · exact h.c
  · exact h.N
theorem piece_I {l : List Int} (h : ∀ n ∈ l, I64 n) (i size : Nat) : ∀ n ∈ pieceL 0 l i size, I64 n := by
  intro n hn
  obtain ⟨j, hj, rfl⟩ := List.mem_map.1 hn
  rcases Nat.lt_or_ge (i * size + j) l.length with h1 | h1
  · have e : l.getD (i * size + j) 0 = l[i * size + j] := by simp [List.getD, h1]
    rw [e]; exact h _ (List.getElem_mem h1)
  · have e : l.getD (i * size + j) 0 = 0 := by simp [List.getD, h1]
    rw [e]; decide
theorem getD_sz (S : List ByteArray) (i : Nat) : (S.getD i ⟨#[]⟩).size ≤ bytesS S := by
  rcases Nat.lt_or_ge i S.length with h1 | h1
  · have e : S.getD i ⟨#[]⟩ = S[i] := by simp [List.getD, h1]
    rw [e]; exact bytesS_mem (List.getElem_mem h1)
  · have e : S.getD i ⟨#[]⟩ = ⟨#[]⟩ := by simp [List.getD, h1]
    rw [e]; exact Nat.zero_le _
theorem piece_one (S : List ByteArray) (i t : Nat) (ht : t ≤ 1) : bytesS (pieceL ⟨#[]⟩ S i t) ≤ bytesS S := by
  rcases (show t = 0 ∨ t = 1 by omega) with rfl | rfl
  · simp [pieceL, bytesS]
  · have := getD_sz S (i * 1 + 0)
    simpa [pieceL, bytesS] using this
theorem words_len {f : Sh} (hf : f ∈ shL) {s : St} (h : StI s) (i : Nat) : (wordsF f s i).length ≤ 68 + 3 * bytesS (pieceL ⟨#[]⟩ s.S i f.t) := by
  have h1 := numsL_len _ (piece_I (numsF_I (f := f) h) i f.n)
  have h2 := txtsL_len (pieceL ⟨#[]⟩ s.S i f.t)
  rw [pieceL_len] at h1 h2
  have h3 := shL_wf f hf
  unfold wordsF
  rw [List.length_append]; omega
theorem bytesS_app (A B : List ByteArray) : bytesS (A ++ B) = bytesS A + bytesS B := by simp [bytesS]
theorem take_bytes (S : List ByteArray) (i : Nat) : bytesS (S.take i) ≤ bytesS S := by
  have h := bytesS_app (S.take i) (S.drop i)
  rw [List.take_append_drop] at h; omega
theorem pre_len {f : Sh} (hf : f ∈ shL) {s : St} (h : StI s) : ∀ i, i ≤ timesF f s → ((List.range i).flatMap (wordsF f s)).length ≤ 68 * i + 3 * bytesS s.S := by
  cases ho : f.o with
  | false =>
    intro i hi
    have ht : timesF f s = 1 := by unfold timesF; rw [ho]; rfl
    rw [ht] at hi
    rcases (show i = 0 ∨ i = 1 by omega) with rfl | rfl
    · simp
    · have h1 := words_len hf h 0
      have h2 := piece_one s.S 0 f.t (shL_wf f hf).2.2.2.2
      simp; omega
  | true =>
    intro i hi
    have ht : timesF f s = s.S.length := by unfold timesF; rw [ho]; rfl
    rw [ht] at hi
    have hk : ((List.range i).flatMap (wordsF f s)).length ≤ 68 * i + 3 * bytesS (s.S.take i) := by
      induction i with
      | zero => simp
      | succ i ih =>
        have h1 := ih (by omega)
        have h2 := words_len hf h i
        have h3 : bytesS (pieceL ⟨#[]⟩ s.S i f.t) = s.S[i].size := by
          rw [shL_o f hf ho]
          have e : s.S.getD i ⟨#[]⟩ = s.S[i] := by simp [List.getD, show i < s.S.length from hi]
          have e2 : s.S[i]?.getD ⟨#[]⟩ = s.S[i] := by simp [show i < s.S.length from hi]
          simp [pieceL, bytesS, e2]
        have h4 : bytesS (s.S.take (i + 1)) = bytesS (s.S.take i) + s.S[i].size := by
          rw [List.take_succ_eq_append_getElem (show i < s.S.length from hi), bytesS_app]; simp [bytesS]
        rw [List.range_succ, List.flatMap_append, List.length_append]
        simp only [List.flatMap_cons, List.flatMap_nil, List.append_nil]
        omega
    have := take_bytes s.S i
    omega
theorem line_len {f : Sh} (hf : f ∈ shL) {s : St} (h : StI s) : (lineF f s).length ≤ 76 + 68 * s.S.length + 3 * bytesS s.S := by
  have h1 := pre_len hf h (timesF f s) (Nat.le_refl _)
  have h2 : timesF f s ≤ s.S.length + 1 := by unfold timesF; split <;> omega
  have h3 := (shL_wf f hf).2.2.1
  have h4 : f.w.data.toList.length = f.w.size := by simp
  unfold lineF
  rw [List.length_append, List.length_append, List.length_singleton]; omega
end Go.Proofs.YtojnlngpgbcimaaDoor
