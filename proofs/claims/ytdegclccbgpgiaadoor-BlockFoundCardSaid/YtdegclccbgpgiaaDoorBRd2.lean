/-
  DERIVED. A sorted file is read as it was built; without a program.
-/
import Derived.Test.YtdegclccbgpgiaaDoorBRd1
import Derived.Test.YtdegclccbgpgiaaDoorBBuildF
set_option linter.unusedVariables false
set_option linter.unusedSimpArgs false
namespace Go.Proofs.YtdegclccbgpgiaaDoor
open Go.RowKit Go.Proofs.SealMath
theorem enE_code {h : Hd} {e : En} (he : enE h e = 0) : (e.c.size : Int) = h.w / 8 := by
  unfold enE at he
  split at he
  · assumption
  · simp at he
theorem lsE_codes {h : Hd} : ∀ (l : List En) (p : Option En), lsE h p l = 0 → ∀ e ∈ l, enE h e = 0
  | [], _, _, e, he => by simp at he
  | x :: l, p, h0, e, he => by
    rw [lsE] at h0
    split at h0
    · rename_i hx
      split at h0
      · rcases List.mem_cons.1 he with rfl | he
        · exact hx
        · exact lsE_codes l _ h0 e he
      · simp at h0
    · rename_i hx
      exact absurd h0 hx
theorem bdE_codes {h : Hd} {l : List En} (e : bdE h l = 0) : ∀ x ∈ l, Okc (cbH h) x := fun x hx => by
  obtain ⟨h1, h2, h3, h4⟩ := bdE_ok e
  have hc := enE_code (lsE_codes l none h3 x hx)
  have := h4 x hx
  exact ⟨this.v, this.i, this.s, by unfold cbH; omega⟩
theorem hdE_n (h : Hd) (n : Int) : hdE { h with n := n } = hdE h := rfl
theorem enE_n (h : Hd) (n : Int) (e : En) : enE { h with n := n } e = enE h e := rfl
theorem lsE_n (h : Hd) (n : Int) : ∀ (l : List En) (p : Option En), lsE { h with n := n } p l = lsE h p l
  | [], _ => rfl
  | x :: l, p => by rw [lsE, lsE, lsE_n h n l, enE_n]
theorem bdE_n (h : Hd) (n : Int) (l : List En) : bdE { h with n := n } l = bdE h l := by unfold bdE; rw [hdE_n, lsE_n]
theorem fileT_n (h : Hd) (n : Int) (l : List En) : fileT { h with n := n } l = fileT h l := rfl
theorem bdT_n (h : Hd) (n : Int) (l : List En) : bdT { h with n := n } l = bdT h l := by unfold bdT; rw [bdE_n, fileT_n]
/-- The parts of a file's text: head, blocks, index, foot. -/
theorem file_parts (h : Hd) (l : List En) : fileT h l = hdF h l ++ (blkL enB 5 (pk enB l) ++ (blkL lnB 6 (pk lnB (idx h l)) ++ frL 7 (ftB h l))) := by
  unfold fileT hbT; simp only [List.append_assoc]
theorem okL_len {y : Ln} (h : OkL y) : (lnB y).length ≤ 4096 := by
  have h1 := (lnB_len y).1
  have h2 := h.e.c
  omega
/-- Behind the blocks stands no block. -/
theorem no_block (b : ByteArray) (h : Hd) (l : List En) (x : List UInt8) (hok : ∀ y ∈ idx h l, OkL y) (hb : b.data.toList = x ++ (blkL lnB 6 (pk lnB (idx h l)) ++ frL 7 (ftB h l))) : ¬ ((psA b x.length).2.2.2 = 0 ∧ (psA b x.length).1 = 5) := by
  have hf := ftB_len h l
  cases hp : pk lnB (idx h l) with
  | nil =>
    rw [hp] at hb
    have h1 := ps_at b 7 (ftB h l) x [] (by omega) (by omega) (by omega) (by rw [hb]; simp [blkL])
    rw [h1]
    simp
  | cons p ps =>
    have hl : ln lnB p.2 ≤ 4096 := (pk_spec lnB (idx h l) (fun y hy => okL_len (hok y hy)) p (by rw [hp]; simp)).2.1
    rw [hp] at hb
    have e : blkL lnB 6 (p :: ps) = frL 6 (p.2.flatMap lnB) ++ blkL lnB 6 ps := by simp [blkL]
    rw [e, List.append_assoc] at hb
    have hl2 : (p.2.flatMap lnB).length ≤ 4096 := hl
    have h1 := ps_at b 6 (p.2.flatMap lnB) x _ (by omega) (by omega) (by omega) hb
    rw [h1]
    simp
theorem enB_few {cb : Nat} {l : List En} (h : ∀ e ∈ l, Okc cb e) : l.length * (cb + 7) ≤ ln enB l := by
  induction l with
  | nil => simp [ln]
  | cons x l ih =>
    have h1 := ih (fun e he => h e (List.mem_cons_of_mem _ he))
    have h2 := (h x (by simp)).c
    have h3 : cb + 7 ≤ (enB x).length := by
      have a1 := (pvL_len 9 x.i.toNat).1
      have a2 := (pvL_len 9 x.s.toNat).1
      have a3 := cl x.c
      unfold enB plB
      simp only [List.length_append, fixL_len, dB_len, a3]
      omega
    have : ln enB (x :: l) = (enB x).length + ln enB l := by simp [ln]
    rw [this, List.length_cons, Nat.add_mul]
    omega
/-- What is read of a file that was built. -/
theorem rd_file (h : Hd) (l : List En) (e : bdE h l = 0) : rdA ⟨(fileT h l).toArray⟩ = some ({ h with n := l.length }, (pk enB l).map fun p => p.2.flatMap enB) := by
  obtain ⟨hh, hn, hls, hok⟩ := bdE_ok e
  obtain ⟨k1, k2, k3, k4, k5, k6⟩ := hdE0 hh
  have hw := isW_bd k1
  have hbt := hbT_len h l hok hn
  have hoc := bdE_codes e
  have hlen : ∀ x ∈ l, (enB x).length ≤ 4096 := fun x hx => by
    have := (enB_len x).1
    have := (hok x hx).c
    omega
  have hhl := hdB_len h l.length
  obtain ⟨b, hb⟩ : ∃ b : ByteArray, b = ⟨(fileT h l).toArray⟩ := ⟨_, rfl⟩
  have hbl : b.data.toList = fileT h l := by rw [hb]
  rw [← hb]
  have hp := file_parts h l
  rw [← hbl] at hp
  have p0 := ps_at b 4 (hdB h l.length) [] _ (by omega) (by omega) (by omega) (by rw [hp]; rfl)
  rw [List.length_nil] at p0
  have hx : (hdF h l).length = 0 + ((hdB h l.length).length + 14) := by unfold hdF; rw [frL_len]; omega
  have hbk := blks_put b _ (pk enB l) (hdF h l) (fun p hpp => (pk_spec enB l hlen p hpp).2.1) hp (by
    have := no_block b h l (hdF h l ++ blkL enB 5 (pk enB l)) hbt.2.2 (by rw [hp]; simp only [List.append_assoc])
    rw [List.length_append] at this
    exact this)
  have hsz : l.length * (cbH h + 7) ≤ b.size := by
    have h1 := enB_few hoc
    have h2 := blkL_len enB 5 (pk enB l)
    rw [pk_flat] at h2
    have h3 := congrArg List.length hp
    rw [← ba_size, List.length_append, List.length_append] at h3
    omega
  unfold rdA
  rw [p0]
  dsimp only
  rw [if_pos ⟨rfl, rfl⟩, hdR_put h l.length (by omega) (by omega) (by omega) (by omega) (by omega) (by omega), ← hx, hbk]
  rw [if_pos]
  refine ⟨hh, by dsimp only; omega, ?_⟩
  dsimp only
  have hcb : ((cbH h : Nat) : Int) = h.w / 8 := by unfold cbH; omega
  rw [← hcb]
  have : (l.length : Int) * ((cbH h : Int) + 7) ≤ (b.size : Int) := by exact_mod_cast hsz
  exact (Int.le_ediv_iff_mul_le (by omega)).2 this
theorem al_file (h : Hd) (l : List En) (hoc : ∀ x ∈ l, Okc (cbH h) x) : alA (cbH h) ((pk enB l).map fun p => p.2.flatMap enB) = l := by
  have key : ∀ ps : List (Nat × List En), (∀ p ∈ ps, ∀ x ∈ p.2, Okc (cbH h) x) → alA (cbH h) (ps.map fun p => p.2.flatMap enB) = (ps.map (·.2)).flatten := by
    intro ps
    induction ps with
    | nil => intro _; rfl
    | cons p ps ih =>
      intro hp
      have e : alA (cbH h) ((p :: ps).map fun p => p.2.flatMap enB) = ents ⟨(p.2.flatMap enB).toArray⟩ 0 (cbH h) ++ alA (cbH h) (ps.map fun p => p.2.flatMap enB) := rfl
      rw [e, ih (fun q hq => hp q (List.mem_cons_of_mem _ hq)), ents_all _ _ (hp p (by simp))]
      simp
  rw [key, pk_flat]
  intro p hp x hx
  refine hoc x ?_
  have := pk_flat enB l
  rw [← this]
  exact List.mem_flatten.2 ⟨p.2, List.mem_map.2 ⟨p, hp, rfl⟩, hx⟩
/-- A file that was built is opened, and tells what was handed in. -/
theorem op_file (h : Hd) (l : List En) (e : bdE h l = 0) : opA ⟨(fileT h l).toArray⟩ = some ({ h with n := l.length }, (pk enB l).map fun p => p.2.flatMap enB) ∧ alA (cbH h) ((pk enB l).map fun p => p.2.flatMap enB) = l := by
  have ha := al_file h l (bdE_codes e)
  refine ⟨?_, ha⟩
  unfold opA
  rw [rd_file h l e]
  simp only []
  rw [show cbH { h with n := (l.length : Int) } = cbH h from rfl, ha, bdE_n, bdT_n, if_pos]
  refine ⟨e, ?_⟩
  unfold bdT
  rw [if_pos e]
/-- What is opened is a file, just as it is built of what it tells. -/
theorem op_only {b : ByteArray} {h : Hd} {bl : List (List UInt8)} (e : opA b = some (h, bl)) : h.n = (alA (cbH h) bl).length ∧ bl = (pk enB (alA (cbH h) bl)).map fun p => p.2.flatMap enB := by
  obtain ⟨h1, h2, h3⟩ := opA_some e
  obtain ⟨k1, k2⟩ := op_file h _ h2
  have hb : b = ⟨(fileT h (alA (cbH h) bl)).toArray⟩ := by apply ba_ext; rw [← h3]
  rw [← hb, e] at k1
  simp only [Option.some.injEq, Prod.mk.injEq] at k1
  refine ⟨?_, k1.2⟩
  have := congrArg Hd.n k1.1
  exact this
end Go.Proofs.YtdegclccbgpgiaaDoor
