/-
  DERIVED. DiskSurvives: what the walk keeps; the last two calls.
-/
import Derived.Test.YthpppinplnkkhaaDTell
set_option linter.unusedVariables false
set_option linter.unusedSimpArgs false
set_option linter.unnecessarySimpa false
namespace Go.Proofs.Ythpppinplnkkhaa
open Go.RowKit Go.Maps Go.Proofs.DiskMath
/-- The law's two flags against the disk's numbers. -/
def FL (c : Ctl) (ar dn : Bool) : Prop := (ar = true → c.left = 1 ∧ c.off = false ∧ dn = c.dn) ∧ (ar = false → c.left = 0)
/-- What the walk keeps: the disk, the list, that they are one, the flags. -/
structure SI (w W : World) (p mb : Nat) (es : List Ent) (c : Ctl) (v : Value) (K : List Fl) (ar dn : Bool) : Prop where
  ow : Ow w W p mb es c
  kl : KL w.heap.size W v K
  pm : K.Perm (es.map fl)
  fl : FL c ar dn
theorem SI.more {w W W' : World} {p mb : Nat} {es : List Ent} {c : Ctl} {v : Value} {K : List Fl} {ar dn : Bool} (h : SI w W p mb es c v K ar dn) (b : Below W.heap.size W W') : SI w W' p mb es c v K ar dn :=
  ⟨h.ow.more b, row_below h.kl b, h.pm, h.fl⟩
theorem SI.start {w W : World} {p mb : Nat} {c : Nat} (h : Ow w W p mb [] (newC c)) : SI w W p mb [] (newC c) (.slice none 0 0) [] false false :=
  ⟨h, World.ownsRow_nil _ _ _ _, .refl _, ⟨(fun h => by cases h), fun _ => rfl⟩⟩
theorem step_cell {W W' : World} {p mb : Nat} {es es' : List Ent} {c' : Ctl} (st : Step W W' p mb es es' c') {k j : Nat} {v : Value} (hk : ¬ Foot p mb es k) (h : W.cell? ⟨k, j, none⟩ = some v) : W'.cell? ⟨k, j, none⟩ = some v :=
  (World.cell?_of_block (st.stay.block k (World.block_lt_of_cell? W _ h) hk)).trans h
theorem step_frozen {W W' : World} {p mb : Nat} {es es' : List Ent} {c' : Ctl} (st : Step W W' p mb es es' c') {k j : Nat} (hl : k < W.heap.size) (hk : ¬ Foot p mb es k) : W'.frozen? ⟨k, j, none⟩ = W.frozen? ⟨k, j, none⟩ := by
  have := st.stay.block k hl hk
  simp [World.frozen?, this]
/-- Behind Arm. -/
theorem SI.arm {w W W' : World} {p mb : Nat} {es : List Ent} {c : Ctl} {v : Value} {K : List Fl} {ar dn : Bool} (h : SI w W p mb es c v K ar dn) (b : Bool) (st : Step W W' p mb es es (armC c 1 b)) : SI w W' p mb es (armC c 1 b) v K (!c.off) b := by
  refine ⟨h.ow.step st, h.kl.step h.ow.dk st, h.pm, ?_⟩
  unfold armC
  cases ho : c.off
  · exact ⟨fun _ => ⟨rfl, rfl, rfl⟩, (fun e => by cases e)⟩
  · refine ⟨(fun e => by cases e), fun _ => ?_⟩
    show c.left = 0
    cases ha : ar
    · exact h.fl.2 ha
    · have := (h.fl.1 ha).2.1; rw [ho] at this; cases this
/-- A write that was refused. -/
theorem SI.no {w W W' : World} {p mb : Nat} {es : List Ent} {c : Ctl} {v : Value} {K : List Fl} {ar dn : Bool} (h : SI w W p mb es c v K ar dn) (st : Step W W' p mb es es c) : SI w W' p mb es c v K ar dn :=
  ⟨h.ow.step st, h.kl.step h.ow.dk st, h.pm, h.fl⟩
theorem FL.tick {c : Ctl} {ar dn : Bool} (h : FL c ar dn) : FL (tick c) false dn := by
  refine ⟨(fun e => by cases e), fun _ => ?_⟩
  show c.left - 1 = 0
  cases ar
  · have := h.2 rfl; omega
  · have := (h.1 rfl).1; omega
/-- A write at which the power went and that was not done. -/
theorem SI.lost {w W W' : World} {p mb : Nat} {es : List Ent} {c : Ctl} {v : Value} {K : List Fl} {ar dn : Bool} (h : SI w W p mb es c v K ar dn) (st : Step W W' p mb es es (tick c)) : SI w W' p mb es (tick c) v K false dn :=
  ⟨h.ow.step st, h.kl.step h.ow.dk st, h.pm, h.fl.tick⟩
theorem eff_not {s : Stp} {es es' : List Ent} {c : Ctl} (h : effE s es c es') (h2 : s.do_ ≠ 2) (hl : c.left = 1) (hd : s.do_ = 3 ∨ c.dn = false) : es' = es := by
  have hdn : s.do_ ≠ 3 → doneC c = false := fun h3 => by
    rcases hd with hd | hd
    · exact absurd hd h3
    · unfold doneC; rw [hd, hl]; rfl
  rcases h with ⟨e1, -, -, ⟨hx, -⟩ | ⟨-, rfl⟩⟩ | ⟨e, -, hx⟩
  · rw [hdn (by omega)] at hx; cases hx
  · rfl
  · rcases hx with ⟨e2, -⟩ | ⟨e3, rfl⟩ | ⟨e4, -, -, ⟨hx, -⟩ | ⟨-, rfl⟩⟩ | ⟨e5, ⟨hx, -⟩ | ⟨-, rfl⟩⟩ | ⟨e6, ⟨hx, -⟩ | ⟨-, rfl⟩⟩
    · exact absurd e2 h2
    · rw [if_pos hl]
    · rw [hdn (by omega)] at hx; cases hx
    · rfl
    · rw [hdn (by omega)] at hx; cases hx
    · rfl
    · rw [hdn (by omega)] at hx; cases hx
    · rfl
/-- A write that was done: told, and the list is the files again. -/
theorem SI.told {w W W' : World} {p mb : Nat} {es es' : List Ent} {c : Ctl} {v : Value} {K : List Fl} {ar dn : Bool} (h : SI w W p mb es c v K ar dn) (s : Stp) (h1 : 1 ≤ s.do_) (h6 : s.do_ ≤ 6) (st : Step W W' p mb es es' (tick c)) (hef : effE s es c es') (hg : Goes s c) :
    Calls Try.prog 11 #[v, .agg (stpC s)] W' (fun r w' => ∃ v' K', r = .returned (.tuple #[v', .bool true]) ∧ SI w w' p mb es' (tick c) v' K' false dn ∧ ∃ a n cap, v' = .slice a n cap) := by
  have kl := h.kl.step h.ow.dk st
  have o' := h.ow.step st
  refine (told_eff s h1 h6 W' kl o'.bel.size h.pm h.ow.dk.srt h.ow.dk.many (fun e he => (h.ow.dk.hf e he).du) (fun e he => (h.ow.dk.hf e he).da) (fun e he => (o'.dk.hf e he).da) hef hg).mono ?_
  rintro r w' ⟨v', K', rfl, ht, hp⟩
  obtain ⟨a, cap, hv⟩ := own_form ht.row
  exact ⟨v', K', rfl, ⟨o'.told kl ht, ht.row, hp, h.fl.tick⟩, a, _, cap, hv⟩
/-- Behind Crash and its loop. -/
theorem SI.crash {w W : World} {p mb : Nat} {es es' : List Ent} {c : Ctl} {v : Value} {K : List Fl} {cs : List (ByteArray × Int × UInt8)} (dn : Bool) (hdu : ∀ e ∈ es, e.du ≤ e.da.length) (hp : K.Perm (es.map Go.Proofs.Ythpppinplnkkhaa.fl)) (o : Ow w W p mb es' (crashC c)) (hf : es'.map Go.Proofs.Ythpppinplnkkhaa.fl = ((es.map Go.Proofs.Ythpppinplnkkhaa.fl).map (cutF cs)).map (fun f => loseF f 0 0))
    (kl : KL w.heap.size W v (K.map fun f => loseF f (firstC cs f.nm).1 (firstC cs f.nm).2)) : SI w W p mb es' (crashC c) v (K.map fun f => loseF f (firstC cs f.nm).1 (firstC cs f.nm).2) false dn :=
  ⟨o, kl, kept_map hp hdu hf, ⟨(fun e => by cases e), fun _ => rfl⟩⟩
/-- The last name. -/
def lastN : ByteArray := ⟨#[116, 104, 101, 46, 108, 97, 115, 116, 46, 111, 110, 101]⟩
theorem mem_ins (x : Ent) (es : List Ent) : x ∈ insE x es := (insE_perm x es).mem_iff.2 (List.mem_cons_self ..)
/-- What the last Create answers. -/
def LastO (w : World) (p mb : Nat) (r : Ending) (w' : World) : Prop := ∃ E es c, r = .returned (.int .i64 E) ∧ Ow w w' p mb es c ∧ (E = 41 ∨ E = 43 ∨ E = 45 ∨ (E = 0 ∧ c.off = false ∧ c.left = 0 ∧ ∃ e ∈ es, e.nm = lastN.data.toList))
theorem create_last {w W : World} {p mb : Nat} {es : List Ent} {c : Ctl} (h : Ow w W p mb es c) (ho : c.off = false) (hl : c.left = 0 ∨ c.left = 1) : Calls Try.prog 13 #[Pt p, .string lastN] W (LastO w p mb) := by
  have hc : ckE c lastN.data.toList = 0 := by unfold ckE; rw [ho]; rfl
  refine create_any lastN W h.dk _ (fun hk => absurd hc hk) (fun e hk hf w' st => ⟨41, _, _, rfl, h.step st, .inl rfl⟩) (fun hk hf hm w' st => ⟨43, _, _, rfl, h.step st, .inr (.inl rfl)⟩) (fun hk hf hm hd w' fb st => ?_) (fun hk hf hm hd w' st => ?_)
  · rcases hl with hl | hl
    · refine ⟨okE c, _, _, rfl, h.step st, .inr (.inr (.inr ⟨?_, ?_, ?_, _, mem_ins _ _, rfl⟩))⟩
      · unfold okE; rw [hl]; rfl
      · show (c.left == 1) = false; rw [hl]; rfl
      · show c.left - 1 = 0; omega
    · exact ⟨okE c, _, _, rfl, h.step st, .inr (.inr (.inl (by unfold okE; rw [if_pos hl])))⟩
  · rcases hl with hl | hl
    · unfold doneC at hd; rw [hl] at hd; simp at hd
    · exact ⟨okE c, _, _, rfl, h.step st, .inr (.inr (.inl (by unfold okE; rw [if_pos hl])))⟩
/-- The last Delete: OK, where Create was. -/
theorem delete_last {w W : World} {p mb : Nat} {es : List Ent} {c : Ctl} (h : Ow w W p mb es c) (E : Int) (hE : E = 41 ∨ E = 43 ∨ E = 45 ∨ (E = 0 ∧ c.off = false ∧ c.left = 0 ∧ ∃ e ∈ es, e.nm = lastN.data.toList)) :
    Calls Try.prog 14 #[Pt p, .string lastN] W (fun r w' => ∃ F : Int, r = .returned (.int .i64 F) ∧ Below w.heap.size w w' ∧ (E = 41 ∨ E = 43 ∨ E = 45 ∨ (E = 0 ∧ F = 0))) := by
  rcases hE with hE | hE | hE | ⟨hE, ho, hl, e, he, hn⟩
  · exact delete_any lastN W h.dk _ (fun hk w' st => ⟨_, rfl, (h.step st).bel, .inl hE⟩) (fun e hf hk hd w' st => ⟨_, rfl, (h.step st).bel, .inl hE⟩) (fun e hf hk hd w' st => ⟨_, rfl, (h.step st).bel, .inl hE⟩)
  · exact delete_any lastN W h.dk _ (fun hk w' st => ⟨_, rfl, (h.step st).bel, .inr (.inl hE)⟩) (fun e hf hk hd w' st => ⟨_, rfl, (h.step st).bel, .inr (.inl hE)⟩) (fun e hf hk hd w' st => ⟨_, rfl, (h.step st).bel, .inr (.inl hE)⟩)
  · exact delete_any lastN W h.dk _ (fun hk w' st => ⟨_, rfl, (h.step st).bel, .inr (.inr (.inl hE))⟩) (fun e hf hk hd w' st => ⟨_, rfl, (h.step st).bel, .inr (.inr (.inl hE))⟩) (fun e hf hk hd w' st => ⟨_, rfl, (h.step st).bel, .inr (.inr (.inl hE))⟩)
  · have hfd := (fd_in h.dk.srt h.dk.nms ho he).1
    rw [hn] at hfd
    have h0 : okE c = 0 := by unfold okE; rw [hl]; rfl
    exact delete_any lastN W h.dk _ (fun hk => absurd hfd hk) (fun e hf hk hd w' st => ⟨_, rfl, (h.step st).bel, .inr (.inr (.inr ⟨hE, h0⟩))⟩) (fun e hf hk hd w' st => ⟨_, rfl, (h.step st).bel, .inr (.inr (.inr ⟨hE, h0⟩))⟩)
/-- Three cells of the list, stored. -/
theorem cellsK_set3 : ∀ (K : List Fl) (i : Nat) (hi : i < K.length) (x : Fl), (((cellsK K).set (i * 3) (encStr x.nm)).set (i * 3 + 1) (encStr x.da)).set (i * 3 + 2) (.int .i64 x.du) = cellsK (K.set i x)
  | [], i, hi, x => by cases hi
  | f :: r, 0, hi, x => rfl
  | f :: r, i + 1, hi, x => by
    have := cellsK_set3 r i (by simpa using hi) x
    have e1 : ∀ (g : Fl) (r : List Fl), cellsK (g :: r) = encStr g.nm :: encStr g.da :: .int .i64 g.du :: cellsK r := fun _ _ => rfl
    rw [e1, show (i + 1) * 3 + 2 = (i * 3 + 2) + 3 by omega, show (i + 1) * 3 + 1 = (i * 3 + 1) + 3 by omega, show (i + 1) * 3 = i * 3 + 3 by omega]
    simp only [List.set_cons_succ]
    rw [this, e1]
theorem KL.set3 {B : Nat} {W : World} {g cap n : Nat} {K : List Fl} (h : KL B W (.slice (some ⟨g, 0, none⟩) n cap) K) (i : Nat) (hi : i < K.length) (x : Fl) :
    KL B (((W.setCell ⟨g, i * 3, none⟩ (encStr x.nm)).setCell ⟨g, i * 3 + 1, none⟩ (encStr x.da)).setCell ⟨g, i * 3 + 2, none⟩ (.int .i64 x.du)) (.slice (some ⟨g, 0, none⟩) n cap) (K.set i x) := by
  have hn : n = K.length := by
    rcases h.2 with ⟨h0, _⟩ | ⟨g', cap', cur, h0, _⟩
    · simp at h0
    · simp only [Value.slice.injEq] at h0; exact h0.2.1
  subst hn
  unfold KL at *
  rw [← cellsK_set3 K i hi x, List.length_set]
  exact (World.ownsRow.stored (World.ownsRow.stored (World.ownsRow.stored h _ _).1 _ _).1 _ _).1
end Go.Proofs.Ythpppinplnkkhaa
