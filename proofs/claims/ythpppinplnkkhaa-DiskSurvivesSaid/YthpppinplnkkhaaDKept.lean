/-
  DERIVED. DiskSurvives: what a crash leaves of a file: the first cut that names it.
-/
import Derived.Test.YthpppinplnkkhaaDHolds
set_option linter.unusedVariables false
set_option linter.unusedSimpArgs false
set_option linter.unnecessarySimpa false
namespace Go.Proofs.Ythpppinplnkkhaa
open Go.RowKit Go.Maps Go.Proofs.DiskMath
/-- The first cut that names it. -/
def firstC (cs : List (ByteArray × Int × UInt8)) (n : List UInt8) : Int × UInt8 := match cs.find? (fun c => c.1.data.toList == n) with | some c => c.2 | none => (0, 0)
theorem lose_full' {f : Fl} (h : f.du ≤ f.da.length) (k : Int) (sp : UInt8) : (loseF f k sp).du = (loseF f k sp).da.length := by
  have := loseL_len f.da f.du (min k.toNat (f.da.length - f.du)) sp (by omega)
  unfold loseF; dsimp only; omega
theorem firstC_cons (c : ByteArray × Int × UInt8) (r : List (ByteArray × Int × UInt8)) (n : List UInt8) : firstC (c :: r) n = if c.1.data.toList = n then c.2 else firstC r n := by
  unfold firstC
  by_cases h : c.1.data.toList = n
  · simp [h]
  · simp [h]
theorem kept_first (cs : List (ByteArray × Int × UInt8)) : ∀ f : Fl, f.du ≤ f.da.length → loseF (cutF cs f) 0 0 = loseF f (firstC cs f.nm).1 (firstC cs f.nm).2 := by
  induction cs with
  | nil => intro f _; rfl
  | cons c r ih =>
    intro f hf
    rw [firstC_cons]
    show loseF (cutF r (if c.1.data.toList = f.nm then loseF f c.2.1 c.2.2 else f)) 0 0 = _
    by_cases h : c.1.data.toList = f.nm
    · rw [if_pos h, if_pos h]
      have hfull := lose_full' hf c.2.1 c.2.2
      rw [full_cut hfull, full_lose hfull]
    · rw [if_neg h, if_neg h]
      exact ih f hf
/-- What the crash leaves of the list. -/
theorem kept_map {es es' : List Ent} {K : List Fl} {cs : List (ByteArray × Int × UInt8)} (hp : K.Perm (es.map fl)) (hd : ∀ e ∈ es, e.du ≤ e.da.length) (hf : es'.map fl = ((es.map fl).map (cutF cs)).map (fun f => loseF f 0 0)) :
    (K.map fun f => loseF f (firstC cs f.nm).1 (firstC cs f.nm).2).Perm (es'.map fl) := by
  rw [hf, List.map_map]
  have e1 : (es.map fl).map ((fun f => loseF f 0 0) ∘ cutF cs) = (es.map fl).map (fun f => loseF f (firstC cs f.nm).1 (firstC cs f.nm).2) := by
    refine List.map_congr_left fun f hfm => ?_
    obtain ⟨e, he, rfl⟩ := List.mem_map.1 hfm
    exact kept_first cs (fl e) (hd e he)
  rw [e1]
  exact hp.map _
/-- told's changes and the disk's, as lists. -/
theorem insF_perm (x : Fl) : ∀ fs : List Fl, (insF x fs).Perm (x :: fs)
  | [] => .refl _
  | y :: r => by
    unfold insF
    split
    · exact .refl _
    · exact ((insF_perm x r).cons y).trans (.swap x y r)
theorem create_perm {K fs : List Fl} (hp : K.Perm fs) (x : Fl) : (K ++ [x]).Perm (insF x fs) :=
  List.perm_append_comm.trans ((hp.cons x).trans (insF_perm x fs).symm)
theorem del_perm {K fs : List Fl} (hp : K.Perm fs) (n : List UInt8) : (delF K n).Perm (delF fs n) := hp.filter _
theorem ren_perm {K fs : List Fl} (hp : K.Perm fs) (f : Fl) (to : List UInt8) : (delF (delF K f.nm) to ++ [{ f with nm := to }]).Perm (renF fs f to) :=
  create_perm (del_perm (del_perm hp _) _) _
/-- A change in place. -/
theorem set_mod : ∀ (K : List Fl) (i : Nat) (hi : i < K.length) (x : Fl), x.nm = (K[i]).nm → (K.map Fl.nm).Nodup → K.set i x = modF K x
  | [], i, hi, x, _, _ => by cases hi
  | f :: r, 0, hi, x, hx, hn => by
    have hx' : x.nm = f.nm := hx
    simp only [List.map_cons, List.nodup_cons, List.mem_map, not_exists, not_and] at hn
    have e1 : modF r x = r := by
      unfold modF
      conv => rhs; rw [← List.map_id r]
      refine List.map_congr_left fun g hg => ?_
      rw [if_neg (by rw [hx']; exact hn.1 g hg)]; rfl
    show x :: r = modF (f :: r) x
    show x :: r = (if f.nm = x.nm then x else f) :: modF r x
    rw [if_pos hx'.symm, e1]
  | f :: r, i + 1, hi, x, hx, hn => by
    have hi' : i < r.length := by simpa using hi
    have hx' : x.nm = (r[i]).nm := hx
    simp only [List.map_cons, List.nodup_cons, List.mem_map, not_exists, not_and] at hn
    show f :: r.set i x = (if f.nm = x.nm then x else f) :: modF r x
    rw [if_neg (fun e => hn.1 _ (List.getElem_mem hi') (by rw [← hx', e])), set_mod r i hi' x hx' hn.2]
theorem mod_perm {K fs : List Fl} (hp : K.Perm fs) (x : Fl) : (modF K x).Perm (modF fs x) := hp.map _
theorem nodup_K {K : List Fl} {es : List Ent} (hp : K.Perm (es.map fl)) (hs : Srt es) : (K.map Fl.nm).Nodup := by
  refine ((hp.map Fl.nm).nodup_iff).2 ?_
  rw [List.map_map]
  have : (es.map Ent.nm).Pairwise (· ≠ ·) := by
    rw [List.pairwise_map]
    exact hs.imp (fun {a b} h e => by rw [e] at h; exact absurd h (List.lt_irrefl _))
  exact this
end Go.Proofs.Ythpppinplnkkhaa
