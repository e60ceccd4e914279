/-
  DERIVED. DiskQuiet's walk.
-/
import Derived.Test.YtjhdmfjbgkopbaaDBegun
import Derived.Test.YtjhdmfjbgkopbaaDImage
set_option linter.unusedVariables false
set_option linter.unusedSimpArgs false
set_option linter.unnecessarySimpa false
namespace Go.Proofs.Ytjhdmfjbgkopbaa
open Go.RowKit Go.Maps Go.Proofs.DiskMath
/-- A script in memory. -/
structure Scr (W : World) (a : Option Addr) (ss : List Stp) : Prop where
  at_ : ∀ i (hi : i < ss.length), ∃ b o, a = some ⟨b, o, none⟩ ∧ ∀ k (hk : k < 8), W.cell? ⟨b, o + i * 8 + k, none⟩ = (stpC ss[i])[k]?
  cuts : ∀ i (hi : i < ss.length), CutsAt W (ss[i]).ca (ss[i]).cs
theorem ow_cuts {w W : World} {p mb : Nat} {es : List Ent} {c : Ctl} {a : Option Addr} {ss : List Stp} (h : Ow w W p mb es c) (hsc : ∀ W, Below w.heap.size w W → Scr W a ss) (i : Nat) (hi : i < ss.length) : ∀ W', Stay (Foot p mb es) W W' → CutsAt W' (ss[i]).ca (ss[i]).cs := fun W' hW =>
  (hsc W' (h.bel.trans (hW.toBelow (fun k hk hF => by have := h.own k hF; omega) h.bel.size))).cuts i hi
/-- The image of these files. -/
def imgS (fs : List Fl) : ByteArray := ⟨(imgL fs).toArray⟩
theorem image_ow {w W : World} {p mb : Nat} {es : List Ent} {c : Ctl} (h : Ow w W p mb es c) (S : ByteArray) (hS : imgS (es.map fl) = S) : Calls Try.prog 9 #[Pt p] W (fun r w' => r = .returned (.string S) ∧ Below W.heap.size W w') :=
  image_any W h.dk _ (fun w' b => by subst hS; exact ⟨rfl, b⟩)
theorem full_lose {f : Fl} (h : f.du = f.da.length) (k : Int) (sp : UInt8) : loseF f k sp = f := by
  unfold loseF
  rw [h]
  have e0 : min k.toNat (f.da.length - f.da.length) = 0 := by omega
  rw [e0]
  unfold loseL
  obtain ⟨a, b, c⟩ := f
  simp only at h
  simp [h]
theorem full_cut {f : Fl} (h : f.du = f.da.length) (cs : List (ByteArray × Int × UInt8)) : cutF cs f = f := by
  induction cs with
  | nil => rfl
  | cons c r ih =>
    show cutF r _ = _
    dsimp only
    split
    · rw [full_lose h]; exact ih
    · exact ih
theorem lose_full {f : Fl} (h : f.du ≤ f.da.length) : (loseF f 0 0).du = (loseF f 0 0).da.length := by
  have := loseL_len f.da f.du (min (0 : Int).toNat (f.da.length - f.du)) 0 (by omega)
  unfold loseF; dsimp only; omega
theorem crashed {w : World} {p mb : Nat} {es es' : List Ent} {c : Ctl} {cs : List (ByteArray × Int × UInt8)} (h : DK w p mb es c) (hf : es'.map fl = ((es.map fl).map (cutF cs)).map (fun f => loseF f 0 0)) : ∀ f ∈ es'.map fl, f.du = f.da.length := fun f hfm => by
  rw [hf, List.map_map] at hfm
  obtain ⟨g, hg, rfl⟩ := List.mem_map.1 hfm
  obtain ⟨e, he, rfl⟩ := List.mem_map.1 hg
  exact lose_full (cutF_len cs (fl e) (h.hf e he).du).2
theorem crash_same {es es' : List Ent} {cs : List (ByteArray × Int × UInt8)} (h : ∀ f ∈ es.map fl, f.du = f.da.length) (hf : es'.map fl = ((es.map fl).map (cutF cs)).map (fun f => loseF f 0 0)) : es'.map fl = es.map fl := by
  rw [hf, List.map_map]
  conv => rhs; rw [← List.map_id (es.map fl)]
  refine List.map_congr_left fun f hfm => ?_
  show loseF (cutF cs f) 0 0 = f
  rw [full_cut (h f hfm), full_lose (h f hfm)]
/-- What a step of the script came to. -/
def PQ (s : Stp) (es es' : List Ent) (c c' : Ctl) (E : Int) : Prop :=
  (s.do_ = 8 ∨ s.do_ = 9) ∨ (1 ≤ s.do_ ∧ s.do_ ≤ 6 ∧ c.off = false ∧ (E = 0 ∨ E = 45) ∧ c'.wr = wrap64 (c.wr + 1)) ∨
  (es' = es ∧ c' = c ∧ (s.do_ = 7 ∨ (1 ≤ s.do_ ∧ s.do_ ≤ 6 ∧ E ≠ 0 ∧ (E = 45 → c.off = true)) ∨ (¬ (1 ≤ s.do_ ∧ s.do_ ≤ 9) ∧ E = 0)))
theorem okE_two (c : Ctl) : okE c = 0 ∨ okE c = 45 := by unfold okE; split <;> simp
theorem play_ow {w W : World} {p mb : Nat} {es : List Ent} {c : Ctl} (s : Stp) (ho : StpOk s) (h : Ow w W p mb es c) (hcs : ∀ W', Stay (Foot p mb es) W W' → CutsAt W' s.ca s.cs) (k : Nat) (v : Value) (hk : W.cell? ⟨k, 0, none⟩ = some v) (hkf : ¬ Foot p mb es k) :
    Calls Try.prog 13 #[Pt p, .agg (stpC s)] W (fun r w' => ∃ E es' c', r = .returned (.int .i64 E) ∧ Ow w w' p mb es' c' ∧ Hid (PQ s es es' c c' E) ∧ w'.cell? ⟨k, 0, none⟩ = some v) := by
  have kept : ∀ {w' es' c'}, Step W w' p mb es es' c' → w'.cell? ⟨k, 0, none⟩ = some v := fun st => (World.cell?_of_block (st.stay.block k (World.block_lt_of_cell? W _ hk) hkf)).trans hk
  refine play_any s ho W h.dk hcs _ (fun e E w' st => ⟨_, _, _, rfl, h.step st, .inr (.inr ⟨rfl, rfl, .inl e⟩), kept st⟩) (fun e w' st => ⟨_, _, _, rfl, h.step st, .inl (.inl e), kept st⟩) (fun e w' es' st _ => ⟨_, _, _, rfl, h.step st, .inl (.inr e), kept st⟩)
    (fun e1 e2 E w' hE h45 st => ⟨_, _, _, rfl, h.step st, .inr (.inr ⟨rfl, rfl, .inr (.inl ⟨e1, e2, hE, h45.1⟩)⟩), kept st⟩) (fun e1 e2 w' es' hoff hef st => ⟨_, _, _, rfl, h.step st, .inr (.inl ⟨e1, e2, hoff, okE_two c, rfl⟩), kept st⟩)
    (fun e w' st => ⟨_, _, _, rfl, h.step st, .inr (.inr ⟨rfl, rfl, .inr (.inr ⟨e, rfl⟩)⟩), kept st⟩)
theorem crash_nil_ow {w W : World} {p mb : Nat} {es : List Ent} {c : Ctl} (h : Ow w W p mb es c) : Calls Try.prog 14 #[Pt p, .slice none 0 0] W (fun r w' => r = .returned (.tuple #[]) ∧ ∃ es', Ow w w' p mb es' (crashC c) ∧ Hid (es'.map fl = ((es.map fl).map (cutF [])).map (fun f => loseF f 0 0)) ∧ Hid (∀ f ∈ es'.map fl, f.du = f.da.length)) :=
  crash_any none [] 0 W h.dk (fun W' _ j hj => by cases hj) (by decide) (fun j hj => by cases hj) _ (fun w' es' st hf => ⟨rfl, es', h.step st, hf, crashed h.dk hf⟩)
theorem crash_a_ow {w W : World} {p mb : Nat} {es : List Ent} {c : Ctl} (h : Ow w W p mb es c) (hfull : ∀ f ∈ es.map fl, f.du = f.da.length) : Calls Try.prog 14 #[Pt p, .slice (some ⟨W.heap.size, 0, none⟩) 1 1] (W.alloc (.cells #[.string ⟨#[97]⟩, .int .i64 5, .int .u8 255] 36)) (fun r w' => r = .returned (.tuple #[]) ∧ ∃ es', Ow w w' p mb es' (crashC c) ∧ Hid (es'.map fl = es.map fl)) := by
  have hb1 : Below W.heap.size W (W.alloc (.cells #[.string ⟨#[97]⟩, .int .i64 5, .int .u8 255] 36)) := (Below.refl _ W).alloc (Nat.le_refl _) _
  have o1 := h.more hb1
  refine crash_any (some ⟨W.heap.size, 0, none⟩) [(⟨#[97]⟩, 5, 255)] 1 _ o1.dk (fun W' hW j hj => ?_) (by decide) (fun j hj => ?_) _ (fun w' es' st hfl => ⟨rfl, es', o1.step st, crash_same hfull hfl⟩)
  · have hj0 : j = 0 := by simp at hj; omega
    subst hj0
    have hg : W'.heap[W.heap.size]? = some (.cells #[.string ⟨#[97]⟩, .int .i64 5, .int .u8 255] 36 (0, 0)) := (hW.block _ (by simp) (fun hF => by have := h.dk.lt hF; omega)).trans (heap_alloc_new W _)
    refine ⟨W.heap.size, 0, rfl, ?_, ?_, ?_⟩ <;> simp [World.cell?, hg]
  · have hj0 : j = 0 := by simp at hj; omega
    subst hj0
    refine ⟨?_, by show (-9223372036854775808 : Int) ≤ 5; omega, by show (5 : Int) < 9223372036854775808; omega⟩
    show 1 ≤ maxLen
    unfold maxLen; omega
theorem neq_self (S : ByteArray) : (S.toList != S.toList) = false := by simp
set_option maxHeartbeats 4000000 in
set_option maxRecDepth 100000 in
theorem quiet_walk (cap : Int) (a : Option Addr) (ss : List Stp) (sc : Nat) (w : World) (hok : ∀ i (hi : i < ss.length), StpOk ss[i]) (hlen : ss.length < 9223372036854775808) (hsc : ∀ W, Below w.heap.size w W → Scr W a ss) (R : Ending → World → Prop)
    (h1 : ∀ w', Below w.heap.size w w' → R (.returned (.bool true)) w') : Calls Try.prog 3 #[.int .i64 cap, .slice a ss.length sc] w R := by
  have HR := Hid.mk h1
  clear h1
  obtain ⟨C, hC, hC0⟩ : ∃ C : Int, (C = if cap < 100 ∨ 1073741824 < cap then 1000 else cap) ∧ (0 ≤ C ∧ C ≤ 1073741824) := ⟨_, rfl, by split <;> omega⟩
  have hcase : (cap < 100 ∧ C = 1000) ∨ (¬ cap < 100 ∧ 1073741824 < cap ∧ C = 1000) ∨ (¬ cap < 100 ∧ ¬ 1073741824 < cap ∧ C = cap) := by
    by_cases h1 : cap < 100
    · exact .inl ⟨h1, by rw [hC, if_pos (.inl h1)]⟩
    · by_cases h2 : 1073741824 < cap
      · exact .inr (.inl ⟨h1, h2, by rw [hC, if_pos (.inr h2)]⟩)
      · exact .inr (.inr ⟨h1, h2, by rw [hC, if_neg (by omega)]⟩)
  clear hC
  rcases hcase with ⟨t1, rfl⟩ | ⟨t1, t2, rfl⟩ | ⟨t1, t2, rfl⟩
  all_goals
    go_enter Try.func3, Try.ntmps3
    go_wp2_with fail
    refine begun_any w _ ?_
    intro w1 b1
    go_wp2_with fail
    refine new_any _ w1 _ (fun hc => by omega) ?_
    intro _ _ w2 d2 b2
    have o2 := Ow.new b1 d2 b2
    have hp1 : w.heap.size ≤ w1.heap.size := b1.size
    clear b1 d2 b2
    generalize hpp : w1.heap.size + 1 = p at *
    generalize w1.heap.size = mb at *
    clear hpp
    go_wp2
    go_loopw [7] (fun v wr => ∃ (i : Nat) (es : List Ent) (c : Ctl), v = .int .i64 i ∧ i ≤ ss.length ∧ Ow w wr p mb es c) (fun v _ => ss.length - (intOf v).toNat)
    case atStart => exact ⟨0, _, _, rfl, Nat.zero_le _, o2⟩
    case round =>
      obtain ⟨i, es, c, rfl, hi, ho⟩ := hrel
      by_cases hlt : i < ss.length
      · obtain ⟨b, o, rfl, hcell⟩ := (hsc wr ho.bel).at_ i hlt
        have hokI := hok i hlt
        have hcutI := fun {W es c} (h : Ow w W p mb es c) => ow_cuts h hsc i hlt
        generalize ss[i] = s at *
        have d0 := hcell 0 (by omega)
        have d1 := hcell 1 (by omega)
        have d2 := hcell 2 (by omega)
        have d3 := hcell 3 (by omega)
        have d4 := hcell 4 (by omega)
        have d5 := hcell 5 (by omega)
        have d6 := hcell 6 (by omega)
        have d7 := hcell 7 (by omega)
        simp only [stpC, List.getElem?_toArray, List.getElem?_cons_zero, List.getElem?_cons_succ, Nat.add_zero] at d0 d1 d2 d3 d4 d5 d6 d7
        have oA := ho.more ((Below.refl _ wr).alloc (Nat.le_refl _) (.cells (stpC s) 28))
        obtain ⟨S, hS⟩ : ∃ S, imgS (es.map fl) = S := ⟨_, rfl⟩
        have hI := image_ow oA S hS
        unfold stpC at oA hI
        clear hcell
        go_wp2_with fail
        refine hI.mono ?_
        rintro r w3 ⟨rfl, b3⟩
        have hbx : w3.heap[wr.heap.size]? = some (.cells #[.int .i64 s.do_, .string s.nm, .string s.to, .string s.da, .int .i64 s.at_, .int .i64 s.n, .bool s.dn, .slice s.ca s.cs.length s.cc] 28 (0, 0)) := (b3.block _ (by simp)).trans (heap_alloc_new wr _)
        have o3 := oA.more b3
        have c0 : w3.cell? ⟨wr.heap.size, 0, none⟩ = some (.int .i64 s.do_) := by simp [World.cell?, hbx]
        have c1 : w3.cell? ⟨wr.heap.size, 1, none⟩ = some (.string s.nm) := by simp [World.cell?, hbx]
        have c2 : w3.cell? ⟨wr.heap.size, 2, none⟩ = some (.string s.to) := by simp [World.cell?, hbx]
        have c3 : w3.cell? ⟨wr.heap.size, 3, none⟩ = some (.string s.da) := by simp [World.cell?, hbx]
        have c4 : w3.cell? ⟨wr.heap.size, 4, none⟩ = some (.int .i64 s.at_) := by simp [World.cell?, hbx]
        have c5 : w3.cell? ⟨wr.heap.size, 5, none⟩ = some (.int .i64 s.n) := by simp [World.cell?, hbx]
        have c6 : w3.cell? ⟨wr.heap.size, 6, none⟩ = some (.bool s.dn) := by simp [World.cell?, hbx]
        have c7 : w3.cell? ⟨wr.heap.size, 7, none⟩ = some (.slice s.ca s.cs.length s.cc) := by simp [World.cell?, hbx]
        have hP := play_ow s hokI o3 (hcutI o3) wr.heap.size _ c0 (fun hF => by have := ho.dk.lt hF; omega)
        unfold stpC at hP
        clear hI oA d0 d1 d2 d3 d4 d5 d6 d7 b3 hbx
        go_wp2_with fail
        refine (used_any w3 o3.dk).mono ?_
        rintro r w4 ⟨rfl, rfl⟩
        go_wp2_with fail
        refine (writes_any w4 o3.dk).mono ?_
        rintro r w5 ⟨rfl, rfl⟩
        go_wp2_with fail
        refine (down_any w5 o3.dk).mono ?_
        rintro r w6 ⟨rfl, rfl⟩
        go_wp2_with fail
        refine hP.mono ?_
        rintro r w7 ⟨E, es', c', rfl, o7, HP, c70⟩
        clear hP c0 c1 c2 c3 c4 c5 c6 c7 hcutI hokI
        generalize wr.heap.size = H at *
        have g7' : ∀ k : Int, s.do_ ≠ k → (s.do_ == k) = false := fun k hk => by simpa using hk
        rcases HP.out with h89 | ⟨e1, e6, hoff, hE, hwr⟩ | ⟨rfl, rfl, hun⟩
        · rcases h89 with h8 | h8
          all_goals
            rw [h8] at c70
            clear HP h8 g7'
            go_wp2
            exact ⟨⟨i + 1, _, _, rfl, hlt, o7⟩, by simp only [intOf]; omega⟩
        · have g8 := g7' 8 (by omega)
          have g9 := g7' 9 (by omega)
          have g7 := g7' 7 (by omega)
          have hW := writes_any w7 o7.dk
          rw [hwr] at hW
          clear HP g7' hwr
          rcases hE with rfl | rfl
          all_goals
            go_wp2_with fail
            refine hW.mono ?_
            rintro r w8 ⟨rfl, rfl⟩
            go_wp2
            exact ⟨⟨i + 1, _, _, rfl, hlt, o7⟩, by simp only [intOf]; omega⟩
        · rcases hun with h7 | ⟨e1, e6, hE, h45⟩ | ⟨hno, rfl⟩
          · rw [h7] at c70
            clear HP g7' h7
            go_wp2_with fail
            refine (image_ow o7 S hS).mono ?_
            rintro r w8 ⟨rfl, b8⟩
            have o8 := o7.more b8
            go_wp2_with fail
            refine (used_any w8 o8.dk).mono ?_
            rintro r w9 ⟨rfl, rfl⟩
            go_wp2_with fail
            refine (writes_any w9 o8.dk).mono ?_
            rintro r w10 ⟨rfl, rfl⟩
            go_wp2_with fail
            refine (down_any w10 o8.dk).mono ?_
            rintro r w11 ⟨rfl, rfl⟩
            go_wp2
            exact ⟨⟨i + 1, _, _, rfl, hlt, o8⟩, by simp only [intOf]; omega⟩
          · have g8 := g7' 8 (by omega)
            have g9 := g7' 9 (by omega)
            have g7 := g7' 7 (by omega)
            have gE : (E != 0) = true := by simpa using hE
            by_cases hx : E = 45
            · have hoff := h45 hx
              subst hx
              clear HP g7' h45 hE gE
              go_wp2_with fail
              refine (image_ow o7 S hS).mono ?_
              rintro r w8 ⟨rfl, b8⟩
              have o8 := o7.more b8
              go_wp2_with fail
              refine (used_any w8 o8.dk).mono ?_
              rintro r w9 ⟨rfl, rfl⟩
              go_wp2_with fail
              refine (writes_any w9 o8.dk).mono ?_
              rintro r w10 ⟨rfl, rfl⟩
              go_wp2_with fail
              refine (down_any w10 o8.dk).mono ?_
              rintro r w11 ⟨rfl, rfl⟩
              go_wp2
              exact ⟨⟨i + 1, _, _, rfl, hlt, o8⟩, by simp only [intOf]; omega⟩
            · have gx : (E != 45) = true := by simpa using hx
              clear HP g7' h45
              go_wp2_with fail
              refine (image_ow o7 S hS).mono ?_
              rintro r w8 ⟨rfl, b8⟩
              have o8 := o7.more b8
              go_wp2_with fail
              refine (used_any w8 o8.dk).mono ?_
              rintro r w9 ⟨rfl, rfl⟩
              go_wp2_with fail
              refine (writes_any w9 o8.dk).mono ?_
              rintro r w10 ⟨rfl, rfl⟩
              go_wp2_with fail
              refine (down_any w10 o8.dk).mono ?_
              rintro r w11 ⟨rfl, rfl⟩
              go_wp2
              exact ⟨⟨i + 1, _, _, rfl, hlt, o8⟩, by simp only [intOf]; omega⟩
          · have g8 := g7' 8 (by omega)
            have g9 := g7' 9 (by omega)
            have g7 := g7' 7 (by omega)
            clear HP g7'
            by_cases hl1 : s.do_ < 1
            · have gl : ¬ 1 ≤ s.do_ := by omega
              go_wp2
              exact ⟨⟨i + 1, _, _, rfl, hlt, o7⟩, by simp only [intOf]; omega⟩
            · have gl : 1 ≤ s.do_ := by omega
              have gl6 : ¬ s.do_ ≤ 6 := by omega
              go_wp2
              exact ⟨⟨i + 1, _, _, rfl, hlt, o7⟩, by simp only [intOf]; omega⟩
      · have e1 : i = ss.length := by omega
        subst e1
        clear hsc hok hlt hi
        go_wp2_with fail
        refine (crash_nil_ow ho).mono ?_
        rintro r w3 ⟨rfl, es3, o3, -, HF3⟩
        obtain ⟨S, hS⟩ : ∃ S, imgS (es3.map fl) = S := ⟨_, rfl⟩
        go_wp2_with fail
        refine (image_ow o3 S hS).mono ?_
        rintro r w4 ⟨rfl, b4⟩
        have o4 := o3.more b4
        go_wp2_with fail
        refine (used_any w4 o4.dk).mono ?_
        rintro r w5 ⟨rfl, rfl⟩
        go_wp2_with fail
        refine (age_any w5 o4.dk).mono ?_
        rintro r w6 ⟨rfl, rfl⟩
        go_wp2_with fail
        refine (crash_a_ow o4 HF3.out).mono ?_
        rintro r w7 ⟨rfl, es7, o7, HE7⟩
        have HS7 : Hid (imgS (es7.map fl) = S) := by show _ = _; rw [HE7.out]; exact hS
        have HU7 : used es7 = used es3 := by rw [used_fl, used_fl, HE7.out]
        clear o3 b4 hS HF3
        go_wp2_with fail
        refine (image_ow o7 S HS7.out).mono ?_
        rintro r w8 ⟨rfl, b8⟩
        have o8 := o7.more b8
        have hu8 := used_any w8 o8.dk
        rw [HU7] at hu8
        clear HU7
        go_wp2_with fail
        refine hu8.mono ?_
        rintro r w9 ⟨rfl, rfl⟩
        have ha9 := age_any w9 o8.dk
        rw [show (crashC (crashC c)).age = wrap64 ((crashC c).age + 1) from rfl] at ha9
        go_wp2_with fail
        refine ha9.mono ?_
        rintro r w10 ⟨rfl, rfl⟩
        have hd10 := down_any w10 o8.dk
        rw [show (crashC (crashC c)).off = false from rfl] at hd10
        go_wp2_with fail
        refine hd10.mono ?_
        rintro r w11 ⟨rfl, rfl⟩
        have hR := Hid.mk (HR.out w11 o8.bel)
        clear HR
        go_wp2
        exact hR.out
end Go.Proofs.Ytjhdmfjbgkopbaa
