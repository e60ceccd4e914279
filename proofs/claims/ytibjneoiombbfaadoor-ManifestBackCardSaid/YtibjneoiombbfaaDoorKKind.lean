/-
  DERIVED. What a file's name says: the program's Kind.
-/
import Derived.Test.YtibjneoiombbfaaDoorKDec
import Derived.Lib.CutLaws
import Derived.Lib.IndexBytes
import Derived.Shelf.RegionOpen
set_option linter.unusedVariables false
set_option linter.unusedSimpArgs false
namespace Go.Proofs.YtibjneoiombbfaaDoor
open Go.RowKit
theorem idx_one (s : ByteArray) : Lib.indexByte s.data.toList 46 = Lib.indexB s ⟨#[46]⟩ := (Lib.index_one s.data.toList 46).symm
set_option maxHeartbeats 2000000 in
set_option maxRecDepth 100000 in
theorem lcut_any (s : ByteArray) (w : World) (hlim : s.size ≤ 281474976710656) :
    Calls Tryd.prog 96 #[.string s, .string ⟨#[46]⟩] w fun e w' => e = .returned (.tuple #[.string ⟨(Lib.cut s.data.toList [46]).1.toArray⟩, .string ⟨(Lib.cut s.data.toList [46]).2.1.toArray⟩, .bool (Lib.cut s.data.toList [46]).2.2]) ∧ ∃ n, w' = w.drewN n := by
  rcases Lib.indexB_cases s ⟨#[46]⟩ with hix | ⟨i, hix, hroom⟩
  · obtain ⟨e1, e2, e3⟩ := Lib.cutB_miss s ⟨#[46]⟩ hix
    have e1 : (⟨(Lib.cut s.data.toList [46]).1.toArray⟩ : ByteArray) = s := e1
    have e2 : (⟨(Lib.cut s.data.toList [46]).2.1.toArray⟩ : ByteArray) = ⟨#[]⟩ := e2
    have e3 : (Lib.cut s.data.toList [46]).2.2 = false := e3
    rw [e1, e2, e3]
    have hi := hix
    rw [← idx_one] at hi
    clear e1 e2 e3 hix
    go_enter Tryd.func96, Tryd.ntmps96
    go_wp2_with (go_at_call 111; refine (Tryd.stringslite_Index_one _ _ _).mono ?_; rintro e w' ⟨rfl, rfl⟩; rw [hi])
    go_ret3
    exact ⟨rfl, 0, rfl⟩
  · obtain ⟨e1, e2, e3⟩ := Lib.cutB_hit s ⟨#[46]⟩ i hix
    have e1 : (⟨(Lib.cut s.data.toList [46]).1.toArray⟩ : ByteArray) = s.extract 0 i := e1
    have e2 : (⟨(Lib.cut s.data.toList [46]).2.1.toArray⟩ : ByteArray) = s.extract (i + 1) s.size := e2
    have e3 : (Lib.cut s.data.toList [46]).2.2 = true := e3
    have hroom : i + 1 ≤ s.size := hroom
    rw [e1, e2, e3]
    have hi := hix
    rw [← idx_one] at hi
    clear e1 e2 e3 hix
    have c1 : (0 : Int) ≤ ↑i := by omega
    have c2 : (↑i : Int) ≤ ↑s.size := by omega
    have c3 : (0 : Int) ≤ ↑i + 1 := by omega
    have c4 : (↑i + 1 : Int) ≤ ↑s.size := by omega
    have c5 : IntKind.i64.wrap ((i : Int) + 1) = (i : Int) + 1 := i64_in _ (by omega) (by omega)
    have mixed : Tryd.prog.follows Departure.mixedOrders = true := by kernel_rfl
    go_enter Tryd.func96, Tryd.ntmps96
    go_wp2_with (go_at_call 111; refine (Tryd.stringslite_Index_one _ _ _).mono ?_; rintro e w' ⟨rfl, rfl⟩; rw [hi])
    go_region_o
    go_wp2
    go_ret3
    exact ⟨rfl, 1, rfl⟩
set_option maxRecDepth 100000 in
theorem cut_any (s : ByteArray) (w : World) (hlim : s.size ≤ 281474976710656) :
    Calls Tryd.prog 78 #[.string s, .string ⟨#[46]⟩] w fun e w' => e = .returned (.tuple #[.string ⟨(Lib.cut s.data.toList [46]).1.toArray⟩, .string ⟨(Lib.cut s.data.toList [46]).2.1.toArray⟩, .bool (Lib.cut s.data.toList [46]).2.2]) ∧ Below w.heap.size w w' := by
  go_enter Tryd.func78, Tryd.ntmps78
  go_wp2_with (go_at_call 96; refine (lcut_any _ _ hlim).mono ?_; rintro e w' ⟨rfl, n, rfl⟩)
  go_ret3
  exact ⟨rfl, Drew.below ⟨n, rfl⟩ _⟩
theorem cut_le (l : List UInt8) : (Lib.cut l [46]).1.length ≤ l.length ∧ (Lib.cut l [46]).2.1.length ≤ l.length := by
  unfold Lib.cut; split <;> simp <;> omega
/-- What numberAndTable answers. -/
def NtR (l : List UInt8) (n j : Int) (ok : Bool) : Prop := (ok = true ∧ numTab l = some (n, j)) ∨ (ok = false ∧ numTab l = none)
theorem NtR.mk (l a b : List UInt8) (f : Bool) (hc : Lib.cut l [46] = (a, b, f)) (n j : Int) (ok1 ok2 : Bool) (h1 : DcR a 1 1099511627776 n ok1) (h2 : DcR b 0 127 j ok2) : NtR l n j (ok1 && ok2) := by
  unfold NtR numTab
  rw [hc]
  rcases h1 with ⟨rfl, h1⟩ | ⟨rfl, h1⟩
  · rcases h2 with ⟨rfl, h2⟩ | ⟨rfl, h2⟩
    · left; simp [h1, h2, pairO]
    · right; simp [h1, h2, pairO]
  · right; simp [h1, pairO]
set_option maxHeartbeats 1000000 in
set_option maxRecDepth 100000 in
theorem numTab_any (s : ByteArray) (w : World) (V : Vs w) (hlim : s.size ≤ 281474976710656) :
    Calls Tryd.prog 60 #[.string s] w fun e w' => ∃ n j ok, e = .returned (.tuple #[.int .i64 n, .int .i64 j, .bool ok]) ∧ NtR s.data.toList n j ok ∧ Below w.heap.size w w' := by
  obtain ⟨h1, h2⟩ := cut_le s.data.toList
  have hs : s.data.toList.length = s.size := nm_size s
  have cc := cut_any s w hlim
  have hR := NtR.mk s.data.toList
  generalize Lib.cut s.data.toList [46] = c at cc h1 h2 hR
  obtain ⟨a, b, f⟩ := c
  simp only at cc h1 h2
  replace hR := hR a b f rfl
  have z1 : (⟨a.toArray⟩ : ByteArray).size ≤ 281474976710656 := by rw [← nm_size]; simp; omega
  have z2 : (⟨b.toArray⟩ : ByteArray).size ≤ 281474976710656 := by rw [← nm_size]; simp; omega
  go_enter Tryd.func60, Tryd.ntmps60
  have t1 : True := trivial
  go_wp2_with first
    | (go_at_call 78; refine cc.mono ?_; rintro e w0 ⟨rfl, b0⟩; have V0 := V.lat b0; clear cc)
    | (go_at_call 59; have _t := t1; refine (decimal_any _ _ _ _ V0 z1).mono ?_; rintro e w1 ⟨n, ok, rfl, d1, b1⟩; clear t1; have b2 := chain b0 b1 (Nat.le_refl _); have V1 := V0.lat b1)
    | (go_at_call 59; refine (decimal_any _ _ _ _ V1 z2).mono ?_; rintro e w3 ⟨j, ok2, rfl, d2, b3⟩; have b4 := chain b2 b3 (Nat.le_refl _))
  all_goals
    go_ret3
    refine ⟨_, _, _, rfl, ?_, b4⟩
    have := hR n j _ _ d1 d2
    first | exact this | simpa using this | (simp_all; done)
/-- What Kind answers, once it is no name of the manifest's. -/
theorem kind_j {l : List UInt8} (h1 : l ≠ nmManifest) (h2 : l ≠ nmNew) {r : List UInt8} (hl : l = 106 :: r) {n : Int} (hd : dec r 1 1099511627776 = some n) : kindT l = (3, n, 0) := by
  unfold kindT; rw [if_neg h1, if_neg h2]; subst hl; simp [hd]
theorem kind_r {l : List UInt8} (h1 : l ≠ nmManifest) (h2 : l ≠ nmNew) {r : List UInt8} (hl : l = 114 :: r) {n j : Int} (hd : numTab r = some (n, j)) : kindT l = (4, n, j) := by
  unfold kindT; rw [if_neg h1, if_neg h2]; subst hl; simp [hd]
theorem kind_0 {l : List UInt8} (h1 : l ≠ nmManifest) (h2 : l ≠ nmNew) (hj : ∀ r, l = 106 :: r → dec r 1 1099511627776 = none) (hr : ∀ r, l = 114 :: r → numTab r = none) : kindT l = (0, 0, 0) := by
  unfold kindT; rw [if_neg h1, if_neg h2]
  cases l with
  | nil => rfl
  | cons c r =>
    by_cases c1 : c = 106
    · subst c1; simp [hj r rfl]
    · by_cases c2 : c = 114
      · subst c2; simp [hr r rfl]
      · simp [c1, c2]
theorem pre_cases (c : UInt8) (l : List UInt8) : (∃ r, l = c :: r ∧ Lib.hasPrefix l [c] = true ∧ Lib.trimPrefix l [c] = r) ∨ (Lib.hasPrefix l [c] = false ∧ Lib.trimPrefix l [c] = l ∧ ∀ r, l ≠ c :: r) := by
  unfold Lib.trimPrefix Lib.hasPrefix
  cases l with
  | nil => right; simp
  | cons d r =>
    by_cases h : d = c
    · left; exact ⟨r, by rw [h], by simp [h], by simp [h]⟩
    · right
      have : (c == d) = false := by simpa using fun e => h e.symm
      refine ⟨by simp [List.isPrefixOf, this], by simp [List.isPrefixOf, this], fun r' e => h (by simpa using (List.cons.inj e).1)⟩
theorem pre_yes (c : UInt8) (s : ByteArray) (r : List UInt8) (hs : s.data.toList = c :: r) (w : World) :
    Calls Tryd.prog 58 #[.string s, .string ⟨#[c]⟩] w fun e w' => e = .returned (.tuple #[.string ⟨r.toArray⟩, .bool true]) ∧ w' = w := by
  refine (Tryd.strings_CutPrefix s ⟨#[c]⟩ w).mono ?_
  rintro e w' ⟨rfl, rfl⟩
  rcases pre_cases c s.data.toList with ⟨r', h1, h2, h3⟩ | ⟨-, -, h⟩
  · rw [hs] at h1
    obtain rfl : r = r' := (List.cons.inj h1).2
    refine ⟨?_, rfl⟩
    show Ending.returned (.tuple #[.string ⟨(Lib.trimPrefix s.data.toList [c]).toArray⟩, .bool (Lib.hasPrefix s.data.toList [c])]) = _
    rw [h2, h3]
  · exact absurd hs (h r)
theorem pre_no (c : UInt8) (s : ByteArray) (h : ∀ r, s.data.toList ≠ c :: r) (w : World) :
    Calls Tryd.prog 58 #[.string s, .string ⟨#[c]⟩] w fun e w' => e = .returned (.tuple #[.string s, .bool false]) ∧ w' = w := by
  refine (Tryd.strings_CutPrefix s ⟨#[c]⟩ w).mono ?_
  rintro e w' ⟨rfl, rfl⟩
  rcases pre_cases c s.data.toList with ⟨r', h1, h2, h3⟩ | ⟨h2, h3, -⟩
  · exact absurd h1 (h r')
  · refine ⟨?_, rfl⟩
    show Ending.returned (.tuple #[.string ⟨(Lib.trimPrefix s.data.toList [c]).toArray⟩, .bool (Lib.hasPrefix s.data.toList [c])]) = _
    rw [h2, h3]
theorem beq_no {l m : List UInt8} (h : l ≠ m) : (l == m) = false := by simpa using h
set_option maxHeartbeats 2000000 in
set_option maxRecDepth 100000 in
theorem kind_any (s : ByteArray) (w : World) (V : Vs w) (hlim : s.size ≤ 281474976710656) :
    Calls Tryd.prog 23 #[.string s] w fun e w' => e = .returned (.tuple #[.int .i64 (kindT s.data.toList).1, .int .i64 (kindT s.data.toList).2.1, .int .i64 (kindT s.data.toList).2.2]) ∧ Below w.heap.size w w' := by
  obtain ⟨T, hT⟩ : ∃ T, T = kindT s.data.toList := ⟨_, rfl⟩
  rw [← hT]
  have hs : s.data.toList.length = s.size := nm_size s
  have hd := ByteArray.toList_eq s
  by_cases h1 : s.data.toList = nmManifest
  · have e1 : s.toList = [109, 97, 110, 105, 102, 101, 115, 116] := hd.trans h1
    obtain rfl : T = (1, 0, 0) := by rw [hT]; unfold kindT; rw [if_pos h1]
    clear hT h1 hd hs
    go_enter Tryd.func23, Tryd.ntmps23
    go_wp2
    go_ret3
    exact ⟨rfl, Below.refl _ _⟩
  by_cases h2 : s.data.toList = nmNew
  · have e1 : s.toList = [109, 97, 110, 105, 102, 101, 115, 116, 46, 110, 101, 119] := hd.trans h2
    obtain rfl : T = (2, 0, 0) := by rw [hT]; unfold kindT; rw [if_neg h1, if_pos h2]
    clear hT h1 h2 hd hs
    go_enter Tryd.func23, Tryd.ntmps23
    go_wp2
    go_ret3
    exact ⟨rfl, Below.refl _ _⟩
  have e1 : (s.toList == [109, 97, 110, 105, 102, 101, 115, 116]) = false := beq_no (fun h => h1 (hd.symm.trans h))
  have e2 : (s.toList == [109, 97, 110, 105, 102, 101, 115, 116, 46, 110, 101, 119]) = false := beq_no (fun h => h2 (hd.symm.trans h))
  have H1 : Hid _ := h1
  have H2 : Hid _ := h2
  by_cases hj : ∃ r, s.data.toList = 106 :: r
  · obtain ⟨r, hr⟩ := hj
    have hnr : ∀ r', s.data.toList ≠ 114 :: r' := fun r' h => by rw [hr] at h; cases h
    have z1 : (⟨r.toArray⟩ : ByteArray).size ≤ 281474976710656 := by rw [← nm_size]; rw [hr] at hs; simp at hs ⊢; omega
    have c1 := pre_yes 106 s r hr w
    have c2 := fun W => pre_no 114 s hnr W
    have cd := decimal_any ⟨r.toArray⟩ 1 1099511627776 w V z1
    have kj := fun n (hn : dec r 1 1099511627776 = some n) => kind_j H1.out H2.out hr hn
    have k0 := fun (hn : dec r 1 1099511627776 = none) => kind_0 H1.out H2.out (fun r' h => by rw [hr] at h; cases h; exact hn) (fun r' h => absurd h (hnr r'))
    rw [← hT] at kj k0
    clear h1 h2 H1 H2 hd hs hT hr hnr
    go_enter Tryd.func23, Tryd.ntmps23
    have t1 : True := trivial
    go_wp2_with first
      | (go_at_call 58; have _t := t1; refine c1.mono ?_; rintro e w' ⟨rfl, rfl⟩; clear t1)
      | (go_at_call 58; refine (c2 _).mono ?_; rintro e w' ⟨rfl, rfl⟩)
      | (go_at_call 59; refine cd.mono ?_; rintro e w1 ⟨n, ok, rfl, d1, b1⟩; clear cd)
    · go_ret3
      rcases d1 with ⟨-, d1⟩ | ⟨d1, -⟩
      · rw [kj n d1]; exact ⟨rfl, b1⟩
      · simp_all
    · go_ret3
      rcases d1 with ⟨d1, -⟩ | ⟨-, d1⟩
      · simp_all
      · rw [k0 d1]; exact ⟨rfl, b1⟩
  have hnj : ∀ r', s.data.toList ≠ 106 :: r' := fun r' h => hj ⟨r', h⟩
  by_cases hr : ∃ r, s.data.toList = 114 :: r
  · obtain ⟨r, hr⟩ := hr
    have z1 : (⟨r.toArray⟩ : ByteArray).size ≤ 281474976710656 := by rw [← nm_size]; rw [hr] at hs; simp at hs ⊢; omega
    have c1 := pre_no 106 s hnj w
    have c2 := fun W => pre_yes 114 s r hr W
    have cd := numTab_any ⟨r.toArray⟩ w V z1
    have kj := fun n j (hn : numTab r = some (n, j)) => kind_r H1.out H2.out hr hn
    have k0 := fun (hn : numTab r = none) => kind_0 H1.out H2.out (fun r' h => absurd h (hnj r')) (fun r' h => by rw [hr] at h; cases h; exact hn)
    rw [← hT] at kj k0
    clear h1 h2 H1 H2 hd hs hT hr hnj hj
    go_enter Tryd.func23, Tryd.ntmps23
    have t1 : True := trivial
    go_wp2_with first
      | (go_at_call 58; have _t := t1; refine c1.mono ?_; rintro e w' ⟨rfl, rfl⟩; clear t1)
      | (go_at_call 58; refine (c2 _).mono ?_; rintro e w' ⟨rfl, rfl⟩)
      | (go_at_call 60; refine cd.mono ?_; rintro e w1 ⟨n, j, ok, rfl, d1, b1⟩; clear cd)
    · go_ret3
      rcases d1 with ⟨-, d1⟩ | ⟨d1, -⟩
      · rw [kj n j d1]; exact ⟨rfl, b1⟩
      · simp_all
    · go_ret3
      rcases d1 with ⟨d1, -⟩ | ⟨-, d1⟩
      · simp_all
      · rw [k0 d1]; exact ⟨rfl, b1⟩
  · have hnr : ∀ r', s.data.toList ≠ 114 :: r' := fun r' h => hr ⟨r', h⟩
    have c1 := pre_no 106 s hnj w
    have c2 := fun W => pre_no 114 s hnr W
    obtain rfl : T = (0, 0, 0) := by rw [hT]; exact kind_0 H1.out H2.out (fun r' h => absurd h (hnj r')) (fun r' h => absurd h (hnr r'))
    clear h1 h2 H1 H2 hd hs hT hr hnj hj hnr
    go_enter Tryd.func23, Tryd.ntmps23
    have t1 : True := trivial
    go_wp2_with first
      | (go_at_call 58; have _t := t1; refine c1.mono ?_; rintro e w' ⟨rfl, rfl⟩; clear t1)
      | (go_at_call 58; refine (c2 _).mono ?_; rintro e w' ⟨rfl, rfl⟩)
    go_ret3
    exact ⟨rfl, Below.refl _ _⟩
end Go.Proofs.YtibjneoiombbfaaDoor
