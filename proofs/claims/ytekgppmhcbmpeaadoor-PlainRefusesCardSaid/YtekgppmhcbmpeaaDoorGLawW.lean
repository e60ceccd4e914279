/-
  DERIVED. PlainRefuses: its walk.
-/
import Derived.Test.YtekgppmhcbmpeaaDoorGLawS
set_option linter.unusedVariables false
set_option linter.unusedSimpArgs false
namespace Go.Proofs.YtekgppmhcbmpeaaDoor
open Go.RowKit Go.Proofs.BitMath
theorem ins_yes {wd : Int} {L : List Pr} {id : Int} {c : ByteArray} (h : insE wd L id c = 0) : (0 ≤ id ∧ id ≤ 281474976710656) ∧ getP L id = none := by
  unfold insE at h
  split at h
  · rename_i hid
    refine ⟨hid, ?_⟩
    split at h
    · split at h
      · simp at h
      · rename_i hs
        cases hg : getP L id with
        | none => rfl
        | some y => rw [hg] at hs; simp at hs
    · simp at h
  · simp at h
/-- Put in and taken away. -/
theorem ins_del {wd : Int} {L : List Pr} {id : Int} {c : ByteArray} (h : insE wd L id c = 0) (n : Int) : (getE (insX wd L id c) id).2 = 0 ∧ delX (insX wd L id c) id = L ∧ delN (insX wd L id c) id (insN wd L id c n) = n + 2 := by
  obtain ⟨hid, hn⟩ := ins_yes h
  have e1 : insX wd L id c = ⟨id, c⟩ :: L := by unfold insX; rw [if_pos h]
  have e2 : insN wd L id c n = n + 1 := by unfold insN; rw [if_pos h]
  have e3 : getP (⟨id, c⟩ :: L) id = some ⟨id, c⟩ := by simp [getP]
  have e4 : (getE (⟨id, c⟩ :: L) id).2 = 0 := by unfold getE; rw [if_pos hid, e3]
  have e5 : delP (⟨id, c⟩ :: L) id = L := by
    unfold delP
    rw [List.filter_cons_of_neg (by simp)]
    exact List.filter_eq_self.2 (fun p hp => by simpa using getP_none hn p hp)
  rw [e1, e2]
  refine ⟨e4, ?_, ?_⟩
  · unfold delX; rw [if_pos e4, e5]
  · unfold delN; rw [if_pos e4]; omega
theorem pl_stay {w w' : World} {la : Option Addr} {l : List Pr} {F : Nat → Prop} (h : PLAt w la l) (s : Stay F w w') (ho : ∀ g off, la = some ⟨g, off, none⟩ → ¬ F g) : PLAt w' la l := ⟨fun hn => by
  obtain ⟨g, off, e, hr⟩ := h.at' hn
  have hg : g < w.heap.size := by
    cases l with
    | nil => exact absurd rfl hn
    | cons x l => exact World.block_lt_of_cell? w _ (hr 0 (.int .i64 x.i) rfl)
  have hb := s.block g hg (ho g off e)
  exact ⟨g, off, e, fun j x hx => by rw [← hr j x hx]; simp only [World.cell?, hb]⟩⟩
theorem RB.at {w W W' : World} {wd : Int} {m mb : Nat} {L L2 : List Pr} {nn n2 : Int} {us : List Up} {la : Option Addr} (h : RB w W wd m mb L nn us la) (b : MPL W W' m mb wd L2 n2) (hl : L2.length ≤ 80) (hn : 0 ≤ n2 ∧ n2 ≤ 100) : RB w W' wd m mb L2 n2 us la :=
  { h with mp := b.1, st := mpl_below h b, len := hl, num := hn }
set_option maxHeartbeats 8000000 in
set_option maxRecDepth 100000 in
theorem law_refuses (x id : Int) (hid : I64 id) (ps : List Pr) (hps : ∀ y ∈ ps, I64 y.i ∧ y.c.size ≤ 140737488351232) (cd q : ByteArray) (hq : q.size ≤ 140737488351232) (la : Option Addr) (ca : Nat) (us : List Up) (hus : ∀ u ∈ us, I64 u.i) (lu : Option Addr) (cu : Nat) (w : World) (ha : PLAt w la ps) (hl : ps.length < 4611686018427387904) (hu : ULAt w lu us) (hul : us.length ≤ 3518437208780) (hcu : us.length ≤ cu) (ht : Tab w) :
    Calls Tryd.prog 5 #[.int .i64 x, .slice la ps.length ca, .int .i64 id, .string cd, .slice lu us.length cu, .string q] w fun e w' => e = .returned (.bool true) ∧ Below w.heap.size w w' := by
  have hbg := begun_any w ht
  have hwd := fun W => width_any x W
  obtain ⟨wd, hwe⟩ : ∃ wd, wd = wOf x := ⟨_, rfl⟩
  have hW : isW wd = true := by rw [hwe]; exact wOf_isW x
  have hb := isW_bd hW
  rw [← hwe] at hwd
  clear hwe
  obtain ⟨n, hn⟩ : ∃ n : Nat, wd / 8 = n := ⟨(wd / 8).toNat, by omega⟩
  have hn1 : n ≤ 1024 := by omega
  have hf1 := fun W => fit_any q n wd W hq hn1 hn (by omega)
  have sq := fitC_size q n
  obtain ⟨q', hq'⟩ : ∃ q', q' = fitC q n := ⟨_, rfl⟩
  rw [← hq'] at sq hf1
  have hfl := fun W (h : PLAt W la ps) => filled_any wd n hW hn ps hps la ca W h hl
  obtain ⟨len, hlen⟩ : ∃ len, len = ps.length := ⟨_, rfl⟩
  obtain ⟨lnu, hlnu⟩ : ∃ lnu, lnu = us.length := ⟨_, rfl⟩
  rw [← hlen] at hfl ⊢
  rw [← hlnu] at hcu ⊢
  obtain ⟨L, hL⟩ : ∃ L, L = flL n ps := ⟨_, rfl⟩
  rw [← hL] at hfl
  have HQ : Hid ((q'.size : Int) = wd / 8) := by show _ = _; rw [sq, hn]
  have HA := Hid.mk (And.intro ha (And.intro hu (And.intro hus (And.intro hul hid))))
  have HLN := Hid.mk hlnu
  clear ha ht hq' hL hlen hlnu hps hl hq hW hb hn hn1 sq hus hul hu hid
  go_enter Tryd.func5, Tryd.ntmps5
  go_wp2_with fail
  refine hbg.mono ?_
  clear hbg
  rintro e w1 ⟨rfl, b1⟩
  go_wp2_with fail
  refine (hwd _).mono ?_
  clear hwd
  rintro e w2 ⟨rfl, h2⟩
  subst h2
  go_wp2_with fail
  refine (hf1 _).mono ?_
  clear hf1
  rintro e w3 ⟨rfl, b3⟩
  have b14 : Below w.heap.size w w3 := b1.trans (b3.mono b1.size)
  have hfl4 := hfl w3 (HA.out.1.below b14)
  clear hfl
  go_wp2_with fail
  refine hfl4.mono ?_
  clear hfl4
  rintro e w5 ⟨m, mb, a0, c0, rfl, F5⟩
  have HB5 : Hid (RB w w5 wd m mb L L.length us lu) := ⟨F5.mp, b14.trans (F5.st.mono b14.size), F5.len, ⟨by omega, by have := F5.len; omega⟩, HA.out.2.1, HA.out.2.2.1, ⟨by have := F5.pf; have := b14.size; omega, by have := F5.mf; have := b14.size; omega⟩, HA.out.2.2.2.1⟩
  obtain ⟨nl0, hnl0⟩ : ∃ nl0, nl0 = L.length := ⟨_, rfl⟩
  have pr := pairs_any m mb wd L.length L w5 HB5.out.mp (by have := HB5.out.len; omega)
  rw [← hnl0]
  clear F5 b1 b3 b14 hnl0
  go_wp2_with fail
  refine pr.mono ?_
  clear pr
  rintro e w6 ⟨v6, rfl, r6, f6, b6⟩
  obtain ⟨aw, cw, hv, l6⟩ := r6.lat
  subst hv
  have HB6 : Hid (RB w w6 wd m mb L L.length us lu) := HB5.out.more b6
  have HW6 := Hid.mk l6
  have HFW : Hid (∀ g off, aw = some ⟨g, off, none⟩ → g ≠ m ∧ g ≠ mb) := fun g off e => by
    have h1 := f6 g (by rw [e]; rfl)
    have h2 := HB5.out.mp.at'.lt
    have h3 := HB5.out.mp.pm.lt
    omega
  clear f6
  obtain ⟨nl, hnl⟩ : ∃ nl, nl = (srtP L).length := ⟨_, rfl⟩
  rw [← hnl]
  have HNL := Hid.mk hnl
  obtain ⟨nn, hnn⟩ : ∃ nn : Int, nn = (L.length : Int) := ⟨_, rfl⟩
  rw [← hnn] at HB6
  have sq := seq_any m mb wd nn L w6 HB6.out.mp
  have HNN := Hid.mk hnn
  clear b6 r6 l6 HB5 hnl hnn
  go_wp2_with fail
  refine sq.mono ?_
  clear sq
  rintro e w7 ⟨rfl, h7⟩
  subst h7
  have hins := insert_any m mb wd nn id L cd w7 HB6.out.mp HA.out.2.2.2.2 (by have := HB6.out.num; omega) (by have := HB6.out.len; omega)
  go_wp2_with fail
  by_cases hE : insE wd L id cd = 0
  · have hd := ins_del hE nn
    rw [hE] at hins
    have HD := Hid.mk (And.intro hE hd)
    clear hE hd
    refine hins.mono ?_
    clear hins
    rintro e w8 ⟨rfl, m8, s8⟩
    have hdel := delete_any m mb wd _ id _ w8 m8 HA.out.2.2.2.2 (by have := HB6.out.num; have h1 := HD.out.1; unfold insN; rw [if_pos h1]; omega)
    rw [HD.out.2.1, HD.out.2.2.1, HD.out.2.2.2] at hdel
    have hww : IntKind.i64.wrap (nn + 2) = nn + 2 := by have := HB6.out.num; rw [IntKind.wrap_i64]; omega
    have HS8 := Hid.mk s8
    clear m8 s8
    go_wp2_with fail
    refine hdel.mono ?_
    clear hdel
    rintro e w9 ⟨rfl, m9, s9⟩
    have HB9 : Hid (RB w w9 wd m mb L (nn + 2) us lu) := HB6.out.at ⟨m9, HS8.out.trans s9⟩ HB6.out.len (by have h1 := HB6.out.len; have h2 := HNN.out; omega)
    have HW9 : Hid (PLAt w9 aw (srtP L) ∧ nl = (srtP L).length) := ⟨pl_stay HW6.out (HS8.out.trans s9) (fun g off e => by have := HFW.out g off e; omega), HNL.out⟩
    have sq9 := seq_any m mb wd (nn + 2) L w9 HB9.out.mp
    clear m9 s9 HS8
    go_wp2_with fail
    rename_i K1 a1 K2 a2 K3 a3
    have HC := Hid.mk a1
    clear a1
    refine sq9.mono ?_
    clear sq9
    rintro e wx ⟨rfl, hx9⟩
    subst hx9
    go_wp2_with fail
    exact HC.out _ _ (refuses_B HB9 HQ HW9 HLN hcu)
  · have hX : insX wd L id cd = L := by unfold insX; rw [if_neg hE]
    have hN : insN wd L id cd nn = nn := by unfold insN; rw [if_neg hE]
    rw [hX, hN] at hins
    obtain ⟨E, hEe⟩ : ∃ E, E = insE wd L id cd := ⟨_, rfl⟩
    rw [← hEe] at hins hE
    have hE2 : (E == 0) = false := by simpa using hE
    clear hX hN hEe
    refine hins.mono ?_
    clear hins
    rintro e w9 ⟨rfl, m9, s9⟩
    have HB9 : Hid (RB w w9 wd m mb L nn us lu) := HB6.out.at ⟨m9, s9⟩ HB6.out.len HB6.out.num
    have HW9 : Hid (PLAt w9 aw (srtP L) ∧ nl = (srtP L).length) := ⟨pl_stay HW6.out s9 (fun g off e => by have := HFW.out g off e; omega), HNL.out⟩
    have sq9 := seq_any m mb wd nn L w9 HB9.out.mp
    clear m9 s9
    go_wp2_with fail
    rename_i K1 a1 K2 a2 K3 a3
    have HC := Hid.mk a1
    clear a1
    refine sq9.mono ?_
    clear sq9
    rintro e wx ⟨rfl, hx9⟩
    subst hx9
    go_wp2_with fail
    exact HC.out _ _ (refuses_B HB9 HQ HW9 HLN hcu)
end Go.Proofs.YtekgppmhcbmpeaaDoor
