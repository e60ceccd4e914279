/-
  DERIVED. A code's own node; find, Has.
-/
import Derived.Test.YtnnbcdfpbdmgdaaDoorTBox
set_option linter.unusedVariables false
set_option linter.unusedSimpArgs false
namespace Go.Proofs.YtnnbcdfpbdmgdaaDoor
open Go.RowKit Go.Maps Go.Proofs.BitMath Go.Proofs.TreeMath
/-- What the way's end says of the code: its own node, or that there is none. -/
theorem WayO.own {n : Nat} {T : List (Nd (Cd n))} (wf : WF dC T) {bs : List Nat} {c : Cd n} {l : Value} {d k : Nat} (h : WayO T bs c l d k) :
    (∃ j nd, d = 0 ∧ T[j]? = some nd ∧ nd.code = c ∧ l = ptr bs (some j)) ∨ ((∀ (j : Nat) nd, T[j]? = some nd → nd.code ≠ c) ∧ (d = 0 → l = .pointer none)) := by
  rcases h with ⟨h0, rfl, rfl, rfl⟩ | ⟨nd, h1, h2, rfl, rfl, rfl⟩
  · refine .inr ⟨fun j nd hj => ?_, fun _ => rfl⟩
    have := (List.getElem?_eq_some_iff.1 hj).1
    omega
  · by_cases hd : dC nd.code c = 0
    · exact .inl ⟨_, nd, hd, h1, dC_zero _ _ hd, rfl⟩
    · refine .inr ⟨fun j m hj he => hd ?_, fun e => absurd e hd⟩
      have hr := reach_root wf hj (dC_self _)
      rw [he] at hr
      rw [hr] at h1
      have : nd = m := Option.some.inj (h1.symm.trans hj)
      rw [this, he, dC_self]
theorem WayO.ptr {n : Nat} {T : List (Nd (Cd n))} {bs : List Nat} {c : Cd n} {l : Value} {d k : Nat} (h : WayO T bs c l d k) : ∃ q, l = .pointer q := by
  rcases h with ⟨-, h, -⟩ | ⟨nd, -, -, h, -⟩
  · exact ⟨_, h⟩
  · exact ⟨_, h⟩
set_option maxRecDepth 100000 in
theorem own_any (q : Option Addr) (d k : Nat) (W : World) (hd : d ≤ 8192) :
    Calls Tryd.prog 35 #[.agg #[.pointer q, .int .i64 d, .int .i64 k]] W (fun r w' => r = .returned (if d = 0 then .pointer q else .pointer none) ∧ Below W.heap.size W w') := by
  have hb : Below W.heap.size W (W.alloc (.cells #[.pointer q, .int .i64 d, .int .i64 k] 66)) := (Below.refl _ W).alloc (Nat.le_refl _) _
  by_cases h0 : d = 0
  · subst h0
    go_enter Tryd.func35, Tryd.ntmps35
    go_wp2
    go_ret
    exact ⟨rfl, hb⟩
  · have g1 : ((d : Int) != 0) = true := by simp; omega
    have HE : Hid ((if d = 0 then Value.pointer q else .pointer none) = .pointer none) := if_neg h0
    go_enter Tryd.func35, Tryd.ntmps35
    go_wp2
    go_ret
    exact ⟨rfl, hb⟩
/-- What find answers. -/
def FindO {n : Nat} (T : List (Nd (Cd n))) (bs : List Nat) (s : ByteArray) (o : Option Nat) : Prop := (o = none ∧ ∀ c ∈ lives T, c.1 ≠ s) ∨ ∃ j nd, o = some j ∧ T[j]? = some nd ∧ nd.code.1 = s ∧ nd.live = true
set_option maxHeartbeats 4000000 in
set_option maxRecDepth 100000 in
theorem find_any {n t wd : Nat} {T : List (Nd (Cd n))} {bs : List Nat} {ms : List (Option Nat)} {x : Num} (s : ByteArray) (W : World) (h : TR W t wd T bs ms x) (ht : Tab W) (hW0 : 0 < W.heap.size) :
    Calls Tryd.prog 38 #[.pointer (some ⟨t, 0, none⟩), .string s] W (fun r w' => Below W.heap.size W w' ∧ ∃ o, r = .returned (ptr bs o) ∧ FindO T bs s o) := by
  have hk := takes_any s W h
  by_cases hs : s.size = n
  · rw [decide_eq_true hs] at hk
    have hr := reach_any ⟨s, hs⟩ W h ht hW0
    have HT := Hid.mk h
    have hn8 : n ≤ 128 := by have := isW_bd h.wid; have := h.eight; omega
    clear h
    go_enter Tryd.func38, Tryd.ntmps38
    go_wp2_with fail
    refine hk.mono ?_
    rintro r w1 ⟨rfl, rfl⟩
    go_wp2_with fail
    refine hr.mono ?_
    rintro r w2 ⟨b2, l, d, k, rfl, hw⟩
    obtain ⟨q, rfl⟩ := hw.ptr
    have hd8 : d ≤ 8192 := by
      rcases hw with ⟨-, -, rfl, -⟩ | ⟨nd, -, -, -, rfl, -⟩
      · omega
      · exact Nat.le_trans (dC_le _ _) (by omega)
    have ho := own_any q d k w2 hd8
    have HO := Hid.mk (hw.own HT.out.wf)
    clear hk hr hw
    go_wp2_with fail
    refine ho.mono ?_
    rintro r w3 ⟨rfl, b3⟩
    have b13 := chain b2 b3 (Nat.le_refl _)
    clear ho
    rcases HO.out with ⟨j, nd, rfl, hj, hc, hq⟩ | ⟨hno, hz⟩
    · have tr3 := HT.out.below b13
      obtain ⟨b, m, hbb, hmm, hgd, q0, q1, q2, -, hbl⟩ := tr3.at_ hj
      have e1 : Value.pointer q = .pointer (some ⟨b, 0, none⟩) := by rw [hq]; show Value.pointer (some ⟨bs.getD j 0, 0, none⟩) = _; rw [hgd]
      have HQ := Hid.mk hq
      simp only [Value.pointer.injEq] at e1
      subst e1
      have HJ := Hid.mk (And.intro hj hc)
      rw [if_pos rfl]
      clear hq HO hj hc tr3 q0 q2 hbb hmm hgd
      cases hlv : nd.live
      · rw [hlv] at q1
        have HL := Hid.mk hlv
        clear hlv
        go_wp2
        go_ret
        refine ⟨b13, none, rfl, .inl ⟨rfl, fun c hcm he => ?_⟩⟩
        obtain ⟨j', nd', h1, h2, h3⟩ := mem_lives.1 hcm
        have hcc : nd'.code = nd.code := by rw [h3, HJ.out.2]; exact Subtype.ext he
        have hjj := HT.out.wf.codes j' j nd' nd h1 HJ.out.1 hcc
        subst hjj
        have : nd' = nd := Option.some.inj (h1.symm.trans HJ.out.1)
        rw [this, HL.out] at h2
        cases h2
      · rw [hlv] at q1
        have HL := Hid.mk hlv
        clear hlv
        go_wp2
        go_ret
        exact ⟨b13, some j, (by rw [HQ.out]; rfl), .inr ⟨j, nd, rfl, HJ.out.1, by rw [HJ.out.2], HL.out⟩⟩
    · have e2 : (if d = 0 then Value.pointer q else .pointer none) = .pointer none := by
        by_cases hd0 : d = 0
        · rw [if_pos hd0, hz hd0]
        · rw [if_neg hd0]
      rw [e2]
      have HN := Hid.mk hno
      clear hno hz HO e2
      go_wp2
      go_ret
      refine ⟨b13, none, rfl, .inl ⟨rfl, fun c hcm he => ?_⟩⟩
      obtain ⟨j', nd', h1, h2, h3⟩ := mem_lives.1 hcm
      exact HN.out j' nd' h1 (by rw [h3]; exact Subtype.ext he)
  · rw [decide_eq_false hs] at hk
    have HS := Hid.mk hs
    clear h hs
    go_enter Tryd.func38, Tryd.ntmps38
    go_wp2_with fail
    refine hk.mono ?_
    rintro r w1 ⟨rfl, rfl⟩
    go_wp2
    go_ret
    exact ⟨Below.refl _ _, none, rfl, .inl ⟨rfl, fun c _ e => HS.out (by rw [← e]; exact c.2)⟩⟩
set_option maxRecDepth 100000 in
theorem has_any {n t wd : Nat} {T : List (Nd (Cd n))} {bs : List Nat} {ms : List (Option Nat)} {x : Num} (s : ByteArray) (W : World) (h : TR W t wd T bs ms x) (ht : Tab W) (hW0 : 0 < W.heap.size) :
    Calls Tryd.prog 15 #[.pointer (some ⟨t, 0, none⟩), .string s] W (fun r w' => Below W.heap.size W w' ∧ ∃ b : Bool, r = .returned (.bool b) ∧ (b = true ↔ ∃ c ∈ lives T, c.1 = s)) := by
  have hf := find_any s W h ht hW0
  clear h ht
  go_enter Tryd.func15, Tryd.ntmps15
  go_wp2_with fail
  refine hf.mono ?_
  rintro r w1 ⟨b1, o, rfl, ho⟩
  have HO := Hid.mk ho
  clear ho hf
  cases o with
  | none =>
    have e1 : ptr bs none = .pointer none := rfl
    rw [e1]
    go_wp2
    go_ret
    refine ⟨b1, false, rfl, ⟨(fun e => by cases e), fun ⟨c, hc, he⟩ => ?_⟩⟩
    rcases HO.out with ⟨-, h⟩ | ⟨j, nd, h, -⟩
    · exact absurd he (h c hc)
    · cases h
  | some j =>
    have e1 : ptr bs (some j) = .pointer (some ⟨bs.getD j 0, 0, none⟩) := rfl
    rw [e1]
    go_wp2
    go_ret
    refine ⟨b1, true, rfl, ⟨fun _ => ?_, fun _ => rfl⟩⟩
    rcases HO.out with ⟨h, -⟩ | ⟨j', nd, h, h1, h2, h3⟩
    · cases h
    · exact ⟨nd.code, mem_lives.2 ⟨j', nd, h1, h3, rfl⟩, h2⟩
end Go.Proofs.YtnnbcdfpbdmgdaaDoor
