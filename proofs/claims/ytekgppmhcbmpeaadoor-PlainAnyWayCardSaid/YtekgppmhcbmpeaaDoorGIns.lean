/-
  DERIVED. A pair is put into a plain map.
-/
import Derived.Test.YtekgppmhcbmpeaaDoorGBox
set_option linter.unusedVariables false
set_option linter.unusedSimpArgs false
namespace Go.Proofs.YtekgppmhcbmpeaaDoor
open Go.RowKit
/-- What Insert answers. -/
def insE (wd : Int) (xs : List Pr) (i : Int) (c : ByteArray) : Int :=
  if 0 ≤ i ∧ i ≤ 281474976710656 then (if (c.size : Int) = wd / 8 then (if (getP xs i).isSome = true then 130 else if 1048576 ≤ xs.length then 43 else 0) else 11) else 60
def insX (wd : Int) (xs : List Pr) (i : Int) (c : ByteArray) : List Pr := if insE wd xs i c = 0 then ⟨i, c⟩ :: xs else xs
def insN (wd : Int) (xs : List Pr) (i : Int) (c : ByteArray) (n : Int) : Int := if insE wd xs i c = 0 then n + 1 else n
/-- Nothing has changed. -/
theorem ins_same {p mb : Nat} {wd n i E : Int} {xs : List Pr} {c : ByteArray} {w w' : World} (h : MP w p mb wd xs n) (he : insE wd xs i c = E) (h0 : E ≠ 0) (b : Below w.heap.size w w') :
    MP w' p mb wd (insX wd xs i c) (insN wd xs i c n) ∧ Stay (fun k => k = p ∨ k = mb) w w' := by
  unfold insX insN
  rw [he, if_neg h0, if_neg h0]
  exact ⟨h.below b, .below b⟩
set_option maxHeartbeats 1000000 in
set_option maxRecDepth 100000 in
theorem insert_any (p mb : Nat) (wd n i : Int) (xs : List Pr) (c : ByteArray) (w : World) (h : MP w p mb wd xs n) (hi : I64 i) (hn : 0 ≤ n ∧ n < 4611686018427387904) (hl : xs.length ≤ 1048576) :
    Calls Tryd.prog 19 #[Pt p, .int .i64 i, .string c] w fun e w' => e = .returned (.int .i64 (insE wd xs i c)) ∧ MP w' p mb wd (insX wd xs i c) (insN wd xs i c n) ∧ Stay (fun k => k = p ∨ k = mb) w w' := by
  obtain ⟨c0, c1, c2⟩ := h.at'.cells
  have hd := isID_any' i w
  by_cases hid : 0 ≤ i ∧ i ≤ 281474976710656
  · rw [decide_eq_true hid] at hd
    have htk := takes_any p mb wd n xs c w h
    by_cases hc : (c.size : Int) = wd / 8
    · rw [decide_eq_true hc] at htk
      have hlk := h.pm.look hi
      cases hg : getP xs i with
      | some x =>
        have he : insE wd xs i c = 130 := by unfold insE; rw [if_pos hid, if_pos hc, hg]; rfl
        have HE := Hid.mk (fun w' (b : Below w.heap.size w w') => ins_same (c := c) h he (by decide) b)
        rw [he]
        rw [hg] at hlk
        simp only [pC, Option.getD_some, Option.isSome_some] at hlk
        clear hg he h hid hc
        go_enter Tryd.func19, Tryd.ntmps19
        go_wp2_with (first
          | (go_at_call 39; refine hd.mono ?_; clear hd; rintro e w' ⟨rfl, rfl⟩)
          | (go_at_call 28; refine htk.mono ?_; clear htk; rintro e w2 ⟨rfl, rfl⟩))
        go_ret
        exact ⟨rfl, HE.out _ ((Below.refl _ _).alloc (Nat.le_refl _) _)⟩
      | none =>
        rw [hg] at hlk
        simp only [pC, zP, Option.getD_none, Option.isSome_none] at hlk
        have bA : Below w.heap.size w (w.alloc (.cells #[.int .i64 0, .string ⟨#[]⟩] 56)) := (Below.refl _ w).alloc (Nat.le_refl _) _
        have h1 := h.below bA
        obtain ⟨z0, z1, z2⟩ := h1.at'.cells
        have hln := fun ty => h1.pm.len ty
        by_cases hm : 1048576 ≤ xs.length
        · have he : insE wd xs i c = 43 := by unfold insE; rw [if_pos hid, if_pos hc, hg, if_pos hm]; rfl
          have HE := Hid.mk (fun w' (b : Below w.heap.size w w') => ins_same (c := c) h he (by decide) b)
          have hm' : (1048576 : Int) ≤ (xs.length : Int) := by omega
          rw [he]
          clear hg he h hid hc hm h1
          go_enter Tryd.func19, Tryd.ntmps19
          go_wp2_with (first
            | (go_at_call 39; refine hd.mono ?_; clear hd; rintro e w' ⟨rfl, rfl⟩)
            | (go_at_call 28; refine htk.mono ?_; clear htk; rintro e w2 ⟨rfl, rfl⟩))
          go_ret
          exact ⟨rfl, HE.out _ bA⟩
        · have he : insE wd xs i c = 0 := by unfold insE; rw [if_pos hid, if_pos hc, hg, if_neg hm]; rfl
          have hm' : ¬ (1048576 : Int) ≤ (xs.length : Int) := by omega
          have hs : c.size ≤ 65536 := by have := isW_bd h.isW; omega
          have HE : Hid (∀ w', PM w' mb (⟨i, c⟩ :: xs) → ∀ w'', w''.heap[mb]? = w'.heap[mb]? → MapAt w'' p mb wd (n + 1) → Stay (fun k => k = p ∨ k = mb) w w'' → MP w'' p mb wd (insX wd xs i c) (insN wd xs i c n) ∧ Stay (fun k => k = p ∨ k = mb) w w'') := fun w' hp w'' e1 hM s => by
            unfold insX insN
            rw [he, if_pos rfl, if_pos rfl]
            exact ⟨⟨hM, hp.block e1, fun x hx => by
              rcases List.mem_cons.1 hx with rfl | hx
              · exact ⟨hid.1, hid.2, hc⟩
              · exact h.fit x hx, h.isW⟩, s⟩
          rw [he]
          have HP := Hid.mk (And.intro h hg)
          have hwn : IntKind.i64.wrap (n + 1) = n + 1 := by rw [IntKind.wrap_i64]; omega
          have HL := Hid.mk (And.intro hs (And.intro hl hn))
          obtain ⟨m, hme⟩ : ∃ m : Int, m = (xs.length : Int) := ⟨_, rfl⟩
          rw [← hme] at hln hm'
          have hm2 : decide ((1048576 : Int) ≤ m) = false := decide_eq_false hm'
          clear hg he h hid hc hm h1 hs hl hn hm' hme
          go_enter Tryd.func19, Tryd.ntmps19
          go_wp2_with (first
            | (go_at_call 39; refine hd.mono ?_; clear hd; rintro e w' ⟨rfl, rfl⟩)
            | (go_at_call 28; refine htk.mono ?_; clear htk; rintro e w2 ⟨rfl, rfl⟩))
          obtain ⟨W1, hW1⟩ : ∃ W1, W1 = w2.alloc (.cells #[.int .i64 0, .string ⟨#[]⟩] 56) := ⟨_, rfl⟩
          rw [← hW1] at bA z0 z1 z2 hln ⊢
          clear hW1 c0 c1 c2 hlk
          have hcl := sclone_any c W1.drew HL.out.1
          have HM : Hid (MP W1 p mb wd xs n) := HP.out.1.below bA
          go_region_held (fun w' => w'.cell? ⟨p, 1, none⟩ = some (.map (some mb)))
            (first | exact q5.cells.2.1 | exact q1 | exact z1)
            ((go_at_call 43; refine hcl.mono ?_; clear hcl; rintro e w4 ⟨rfl, b4'⟩; have b4 : Below W1.heap.size W1 w4 := below_d b4'; clear b4'; have HM4 : Hid (MP w4 p mb wd xs n) := HM.out.below b4; have q1 := HM4.out.at'.cells.2.1; obtain ⟨w5, hput, hpm, hst, hsz⟩ := HM4.out.pm.put (a := ⟨i, c⟩) hi HP.out.2 (by have := HL.out.2.1; unfold maxLen; omega); simp only [pC] at hput; have q5 : MapAt w5 p mb wd n := (hst.block p HM4.out.at'.lt (fun e => HM4.out.ne e)).trans HM4.out.at'))
          all_goals
            obtain ⟨y0, y1, y2⟩ := q5.cells
            have yf : ∀ j, w5.frozen? ⟨p, j, none⟩ = false := fun j => frozen_of_row _ _ _ _ _ q5
            have hS : MapAt (w5.setCell ⟨p, 2, none⟩ (.int .i64 (n + 1))) p mb wd (n + 1) := by
              unfold MapAt
              rw [heap_setCell_same w5 p 2 _ _ _ q5]; rfl
            have HF : Hid (MP (w5.setCell ⟨p, 2, none⟩ (.int .i64 (n + 1))) p mb wd (insX wd xs i c) (insN wd xs i c n) ∧ Stay (fun k => k = p ∨ k = mb) w2 (w5.setCell ⟨p, 2, none⟩ (.int .i64 (n + 1)))) := by
              refine HE.out w5 hpm _ ?_ hS ?_
              · exact Below.heap_setCell _ _ _ _ (fun e => HM4.out.ne e.symm)
              · refine Stay.setCell ?_ (fun _ => .inl rfl) _
                exact (Stay.below (bA.trans (b4.mono bA.size))).andThen (hst.mono (fun k _ e => Or.inr e)) (fun k _ e => e)
            clear hpm hst q5 hS
            go_wp2
            go_ret
            exact ⟨rfl, HF.out⟩
    · rw [decide_eq_false hc] at htk
      have he : insE wd xs i c = 11 := by unfold insE; rw [if_pos hid, if_neg hc]
      have HE := Hid.mk (fun w' (b : Below w.heap.size w w') => ins_same (c := c) h he (by decide) b)
      rw [he]
      clear he h hid hc
      go_enter Tryd.func19, Tryd.ntmps19
      go_wp2_with (first
        | (go_at_call 39; refine hd.mono ?_; clear hd; rintro e w' ⟨rfl, rfl⟩)
        | (go_at_call 28; refine htk.mono ?_; clear htk; rintro e w2 ⟨rfl, rfl⟩))
      go_ret
      exact ⟨rfl, HE.out _ (Below.refl _ _)⟩
  · rw [decide_eq_false hid] at hd
    have he : insE wd xs i c = 60 := by unfold insE; rw [if_neg hid]
    have HE := Hid.mk (fun w' (b : Below w.heap.size w w') => ins_same (c := c) h he (by decide) b)
    rw [he]
    clear he h hid
    go_enter Tryd.func19, Tryd.ntmps19
    go_wp2_with (go_at_call 39; refine hd.mono ?_; clear hd; rintro e w' ⟨rfl, rfl⟩)
    go_ret
    exact ⟨rfl, HE.out _ (Below.refl _ _)⟩
end Go.Proofs.YtekgppmhcbmpeaaDoor
