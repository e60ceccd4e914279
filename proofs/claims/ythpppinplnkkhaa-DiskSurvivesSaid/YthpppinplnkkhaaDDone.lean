/-
  DERIVED. The laws' own steps: done, play.
-/
import Derived.Test.YthpppinplnkkhaaDOps3
import Derived.Test.YthpppinplnkkhaaDArm
import Derived.Test.YthpppinplnkkhaaDCrash
set_option linter.unusedVariables false
set_option linter.unusedSimpArgs false
set_option linter.unnecessarySimpa false
namespace Go.Proofs.Ythpppinplnkkhaa
open Go.RowKit Go.Maps Go.Proofs.DiskMath
/-- A step of a script. -/
structure Stp where
  do_ : Int
  nm : ByteArray
  to : ByteArray
  da : ByteArray
  at_ : Int
  n : Int
  dn : Bool
  ca : Option Addr
  cs : List (ByteArray × Int × UInt8)
  cc : Nat
def stpC (s : Stp) : Array Value := #[.int .i64 s.do_, .string s.nm, .string s.to, .string s.da, .int .i64 s.at_, .int .i64 s.n, .bool s.dn, .slice s.ca s.cs.length s.cc]
/-- Its numbers are numbers. -/
structure StpOk (s : Stp) : Prop where
  at_ : -9223372036854775808 ≤ s.at_ ∧ s.at_ < 9223372036854775808
  n : -9223372036854775808 ≤ s.n ∧ s.n < 9223372036854775808
  da : s.da.size ≤ maxLen
  len : s.cs.length < 9223372036854775808
  cs : ∀ j (hj : j < s.cs.length), (s.cs[j]).1.size ≤ maxLen ∧ -9223372036854775808 ≤ (s.cs[j]).2.1 ∧ (s.cs[j]).2.1 < 9223372036854775808
/-- What an accepted write does to the files. -/
def effE (s : Stp) (es : List Ent) (c : Ctl) (es' : List Ent) : Prop :=
  (s.do_ = 1 ∧ findE es s.nm.data.toList = none ∧ isNm s.nm.data.toList = true ∧ ((doneC c = true ∧ ∃ fb, es' = insE (newE s.nm.data.toList fb) es) ∨ (doneC c = false ∧ es' = es))) ∨
  ∃ e, findE es s.nm.data.toList = some e ∧
    ((s.do_ = 2 ∧ ∃ v, es' = modE es { e with da := e.da ++ s.da.data.toList, v := v }) ∨
     (s.do_ = 3 ∧ es' = if c.left = 1 then es else modE es { e with du := e.da.length }) ∨
     (s.do_ = 4 ∧ 0 ≤ s.n ∧ s.n ≤ e.da.length ∧ ((doneC c = true ∧ ∃ v, es' = modE es { e with da := e.da.take s.n.toNat, du := min e.du s.n.toNat, v := v }) ∨ (doneC c = false ∧ es' = es))) ∨
     (s.do_ = 5 ∧ ((doneC c = true ∧ es' = renE es e s.to.data.toList) ∨ (doneC c = false ∧ es' = es))) ∨
     (¬ (1 ≤ s.do_ ∧ s.do_ ≤ 5) ∧ ((doneC c = true ∧ es' = delE es e.nm) ∨ (doneC c = false ∧ es' = es))))
theorem ck_45 {c : Ctl} {n : List UInt8} : ckE c n = 45 ↔ c.off = true := by
  unfold ckE; cases c.off
  · simp; split <;> omega
  · simp
theorem ck_0 {c : Ctl} {n : List UInt8} (h : ckE c n = 0) : c.off = false := by
  unfold ckE at h; cases ho : c.off
  · rfl
  · rw [ho] at h; simp at h
theorem fd_45 {es : List Ent} {c : Ctl} {n : List UInt8} : fdE es c n = 45 ↔ c.off = true := by
  unfold fdE
  split
  · rename_i h
    have := ck_0 h
    rw [this]
    cases findE es n <;> simp
  · exact ck_45
theorem fd_0 {es : List Ent} {c : Ctl} {n : List UInt8} (h : fdE es c n = 0) : c.off = false := by
  unfold fdE at h
  split at h
  · rename_i h1; exact ck_0 h1
  · exact ck_0 h
set_option maxHeartbeats 4000000 in
set_option maxRecDepth 100000 in
theorem done_any {p mb : Nat} {es : List Ent} {c : Ctl} (s : Stp) (ho : StpOk s) (w : World) (h : DK w p mb es c) (R : Ending → World → Prop)
    (h1 : ∀ E w', E ≠ 0 → (E = 45 ↔ c.off = true) → Step w w' p mb es es c → R (.returned (.int .i64 E)) w')
    (h2 : ∀ w' es', c.off = false → effE s es c es' → Step w w' p mb es es' (tick c) → R (.returned (.int .i64 (okE c))) w') :
    Calls Try.prog 10 #[Pt p, .agg (stpC s)] w R := by
  unfold stpC
  have hb1 : Below w.heap.size w (w.alloc (.cells #[.int .i64 s.do_, .string s.nm, .string s.to, .string s.da, .int .i64 s.at_, .int .i64 s.n, .bool s.dn, .slice s.ca s.cs.length s.cc] 29)) := (Below.refl _ w).alloc (Nat.le_refl _) _
  have d1 := h.below hb1
  have HR1 := Hid.mk h1
  have HR2 := Hid.mk h2
  have lift : ∀ {w' es' c'}, Step (w.alloc (.cells #[.int .i64 s.do_, .string s.nm, .string s.to, .string s.da, .int .i64 s.at_, .int .i64 s.n, .bool s.dn, .slice s.ca s.cs.length s.cc] 29)) w' p mb es es' c' → Step w w' p mb es es' c' := fun k => (step_alloc h hb1).trans k
  clear h1 h2
  have one : ∀ {E : Int} {w' : World}, E ≠ 0 → (E = 45 ↔ c.off = true) → Step (w.alloc (.cells #[.int .i64 s.do_, .string s.nm, .string s.to, .string s.da, .int .i64 s.at_, .int .i64 s.n, .bool s.dn, .slice s.ca s.cs.length s.cc] 29)) w' p mb es es c → ∃ x, Ending.returned (.int .i64 E) = .returned (.int .i64 x) ∧ Hid (R (.returned (.int .i64 E)) w') := fun h1 h2 h3 => ⟨_, rfl, HR1.out _ _ h1 h2 (lift h3)⟩
  have two : ∀ {w' : World} {es' : List Ent}, c.off = false → effE s es c es' → Step (w.alloc (.cells #[.int .i64 s.do_, .string s.nm, .string s.to, .string s.da, .int .i64 s.at_, .int .i64 s.n, .bool s.dn, .slice s.ca s.cs.length s.cc] 29)) w' p mb es es' (tick c) → ∃ x, Ending.returned (.int .i64 (okE c)) = .returned (.int .i64 x) ∧ Hid (R (.returned (.int .i64 (okE c))) w') := fun h1 h2 h3 => ⟨_, rfl, HR2.out _ _ h1 h2 (lift h3)⟩
  have no : ∀ {k : Int}, c.off = false → k ≠ 45 → (k = 45 ↔ c.off = true) := fun h1 h2 => ⟨fun e => absurd e h2, fun e => by rw [h1] at e; cases e⟩
  by_cases e1 : s.do_ = 1
  · have hop : Calls Try.prog 13 #[Pt p, .string s.nm] _ (fun r w' => ∃ x, r = .returned (.int .i64 x) ∧ Hid (R r w')) := create_any s.nm _ d1 _
      (fun hk w' st => one hk ck_45 st) (fun e hk hf w' st => one (by decide) (no (ck_0 hk) (by decide)) st) (fun hk hf hm w' st => one (by decide) (no (ck_0 hk) (by decide)) st)
      (fun hk hf hm hd w' fb st => two (ck_0 hk) (.inl ⟨e1, hf, (ck_size hk).2.1, .inl ⟨hd, fb, rfl⟩⟩) st) (fun hk hf hm hd w' st => two (ck_0 hk) (.inl ⟨e1, hf, (ck_size hk).2.1, .inr ⟨hd, rfl⟩⟩) st)
    rw [e1] at hop ⊢
    clear one two lift HR1 HR2 hb1 d1
    go_enter Try.func10, Try.ntmps10
    go_wp2_with fail
    refine hop.mono ?_
    rintro r w' ⟨x, rfl, hr⟩
    go_wp2
    exact hr.out
  by_cases e2 : s.do_ = 2
  · have hop : Calls Try.prog 15 #[Pt p, .string s.nm, .string s.da] _ (fun r w' => ∃ x, r = .returned (.int .i64 x) ∧ Hid (R r w')) := append_any s.nm s.da _ d1 ho.da _
      (fun hk w' st => one hk fd_45 st) (fun e hf hk hb w' st => one (by decide) (no (fd_0 hk) (by decide)) st) (fun e hf hk hb hu w' st => one (by decide) (no (fd_0 hk) (by decide)) st)
      (fun e hf hk hb hu w' v st => two (fd_0 hk) (.inr ⟨e, hf, .inl ⟨e2, v, rfl⟩⟩) st)
    rw [e2] at hop ⊢
    clear one two lift HR1 HR2 hb1 d1 e1
    go_enter Try.func10, Try.ntmps10
    go_wp2_with fail
    refine hop.mono ?_
    rintro r w' ⟨x, rfl, hr⟩
    go_wp2
    exact hr.out
  by_cases e3 : s.do_ = 3
  · have hop : Calls Try.prog 16 #[Pt p, .string s.nm] _ (fun r w' => ∃ x, r = .returned (.int .i64 x) ∧ Hid (R r w')) := sync_any s.nm _ d1 _
      (fun hk w' st => one hk fd_45 st) (fun e hf hk w' st => two (fd_0 hk) (.inr ⟨e, hf, .inr (.inl ⟨e3, rfl⟩)⟩) st)
    rw [e3] at hop ⊢
    clear one two lift HR1 HR2 hb1 d1 e1 e2
    go_enter Try.func10, Try.ntmps10
    go_wp2_with fail
    refine hop.mono ?_
    rintro r w' ⟨x, rfl, hr⟩
    go_wp2
    exact hr.out
  by_cases e4 : s.do_ = 4
  · have hop : Calls Try.prog 22 #[Pt p, .string s.nm, .int .i64 s.n] _ (fun r w' => ∃ x, r = .returned (.int .i64 x) ∧ Hid (R r w')) := cut_any s.nm s.n _ d1 _
      (fun hk w' st => one hk fd_45 st) (fun e hf hk hr w' st => one (by decide) (no (fd_0 hk) (by decide)) st)
      (fun e hf hk n0 n1 hd w' v st => two (fd_0 hk) (.inr ⟨e, hf, .inr (.inr (.inl ⟨e4, n0, n1, .inl ⟨hd, v, rfl⟩⟩))⟩) st) (fun e hf hk n0 n1 hd w' st => two (fd_0 hk) (.inr ⟨e, hf, .inr (.inr (.inl ⟨e4, n0, n1, .inr ⟨hd, rfl⟩⟩))⟩) st)
    rw [e4] at hop ⊢
    clear one two lift HR1 HR2 hb1 d1 e1 e2 e3
    go_enter Try.func10, Try.ntmps10
    go_wp2_with fail
    refine hop.mono ?_
    rintro r w' ⟨x, rfl, hr⟩
    go_wp2
    exact hr.out
  by_cases e5 : s.do_ = 5
  · have hop : Calls Try.prog 23 #[Pt p, .string s.nm, .string s.to] _ (fun r w' => ∃ x, r = .returned (.int .i64 x) ∧ Hid (R r w')) := rename_any s.nm s.to _ d1 _
      (fun hk w' st => one hk ck_45 st) (fun hk hf w' st => one hf fd_45 st)
      (fun e hf hk hc hd w' st => two (fd_0 hk) (.inr ⟨e, hf, .inr (.inr (.inr (.inl ⟨e5, .inl ⟨hd, rfl⟩⟩)))⟩) st) (fun e hf hk hc hd w' st => two (fd_0 hk) (.inr ⟨e, hf, .inr (.inr (.inr (.inl ⟨e5, .inr ⟨hd, rfl⟩⟩)))⟩) st)
    rw [e5] at hop ⊢
    clear one two lift HR1 HR2 hb1 d1 e1 e2 e3 e4
    go_enter Try.func10, Try.ntmps10
    go_wp2_with fail
    refine hop.mono ?_
    rintro r w' ⟨x, rfl, hr⟩
    go_wp2
    exact hr.out
  · have hop : Calls Try.prog 14 #[Pt p, .string s.nm] _ (fun r w' => ∃ x, r = .returned (.int .i64 x) ∧ Hid (R r w')) := delete_any s.nm _ d1 _
      (fun hk w' st => one hk fd_45 st)
      (fun e hf hk hd w' st => two (fd_0 hk) (.inr ⟨e, hf, .inr (.inr (.inr (.inr ⟨by omega, .inl ⟨hd, rfl⟩⟩)))⟩) st) (fun e hf hk hd w' st => two (fd_0 hk) (.inr ⟨e, hf, .inr (.inr (.inr (.inr ⟨by omega, .inr ⟨hd, rfl⟩⟩)))⟩) st)
    have g1 : (s.do_ == 1) = false := by simpa using e1
    have g2 : (s.do_ == 2) = false := by simpa using e2
    have g3 : (s.do_ == 3) = false := by simpa using e3
    have g4 : (s.do_ == 4) = false := by simpa using e4
    have g5 : (s.do_ == 5) = false := by simpa using e5
    clear one two lift HR1 HR2 hb1 d1
    go_enter Try.func10, Try.ntmps10
    go_wp2_with fail
    refine hop.mono ?_
    rintro r w' ⟨x, rfl, hr⟩
    go_wp2
    exact hr.out
end Go.Proofs.Ythpppinplnkkhaa
