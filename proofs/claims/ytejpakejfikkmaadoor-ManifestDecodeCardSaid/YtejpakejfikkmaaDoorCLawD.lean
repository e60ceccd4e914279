/-
  DERIVED. ManifestDecode: its walk.
-/
import Derived.Test.YtejpakejfikkmaaDoorCRefE
import Derived.Test.YtejpakejfikkmaaDoorCOther
import Derived.Test.YtejpakejfikkmaaDoorCKept
import Derived.Test.YtejpakejfikkmaaDoorCBack2
set_option linter.unusedVariables false
set_option linter.unusedSimpArgs false
namespace Go.Proofs.YtejpakejfikkmaaDoor
open Go.RowKit Go.Proofs.SealMath
theorem num8 (x : Int) (w : World) : Calls Tryd.prog 8 #[.int .i64 x] w fun e w' => e = .returned (.int .i64 x) ∧ w' = w := by
  go_enter Tryd.func8, Tryd.ntmps8
  go_wp2
  go_ret
  exact ⟨rfl, rfl⟩
theorem dcV_len (b : ByteArray) : (dcV (dcM b)).rs.length ≤ 24 := by
  unfold dcM
  cases hU : dcU b with
  | error e => exact Nat.zero_le _
  | ok m =>
    have := (dcU_ok hU).2
    simp only
    split
    · exact this
    · exact Nat.zero_le _
/-- A manifest in a box, its runs in memory of their own. -/
structure Gv (W : World) (bx : Nat) (m : Mf) (n : Nat) (la : Option Addr) (c lo : Nat) : Prop where
  st : SAt W bx (mfC m la c)
  hn : n = m.rs.length
  ow : W.ownsRow 0 36 4 (.slice la m.rs.length c) m.rs.length (m.rs.flatMap ruC)
  own : ∀ k, (Value.slice la m.rs.length c).ownBlock = some k → lo ≤ k
theorem Gv.lat {W W' : World} {bx n c lo : Nat} {m : Mf} {la : Option Addr} (h : Gv W bx m n la c lo) (b : Below W.heap.size W W') : Gv W' bx m n la c lo := ⟨h.st.lat b, h.hn, row_kept (F := fun _ => False) h.ow (.below b) (fun _ _ h => h), h.own⟩
theorem Gv.stay {F : Nat → Prop} {W W' : World} {bx n c lo : Nat} {m : Mf} {la : Option Addr} (h : Gv W bx m n la c lo) (s : Stay F W W') (h1 : ¬ F bx) (h2 : ∀ k, (Value.slice la m.rs.length c).ownBlock = some k → ¬ F k) : Gv W' bx m n la c lo := ⟨h.st.stay s h1, h.hn, row_kept h.ow s h2, h.own⟩
theorem Gv.cells {W : World} {bx n c lo : Nat} {m : Mf} {la : Option Addr} (h : Gv W bx m n la c lo) : W.cell? ⟨bx, 0, none⟩ = some (.int .i64 m.w) ∧ W.cell? ⟨bx, 1, none⟩ = some (.int .i64 m.ch) ∧ W.cell? ⟨bx, 2, none⟩ = some (.int .i64 m.md) ∧ W.cell? ⟨bx, 3, none⟩ = some (.int .i64 m.seq) ∧ W.cell? ⟨bx, 4, none⟩ = some (.int .i64 m.nx) ∧ W.cell? ⟨bx, 5, none⟩ = some (.int .i64 m.jn) ∧ W.cell? ⟨bx, 6, none⟩ = some (.slice la n c) :=
  ⟨h.st 0 _ rfl, h.st 1 _ rfl, h.st 2 _ rfl, h.st 3 _ rfl, h.st 4 _ rfl, h.st 5 _ rfl, by rw [h.hn]; exact h.st 6 _ rfl⟩
/-- The other one's manifest: read alone. -/
structure Nv (W : World) (bx : Nat) (m : Mf) (n g : Nat) : Prop where
  st : SAt W bx (mfC m (some ⟨g, 0, none⟩) 2)
  hn : n = m.rs.length
  ls : LAt W (some ⟨g, 0, none⟩) m.rs
theorem Nv.lat {W W' : World} {bx n g : Nat} {m : Mf} (h : Nv W bx m n g) (b : Below W.heap.size W W') : Nv W' bx m n g := ⟨h.st.lat b, h.hn, h.ls.below b⟩
theorem Nv.stay {F : Nat → Prop} {W W' : World} {bx n g : Nat} {m : Mf} (h : Nv W bx m n g) (s : Stay F W W') (h1 : ¬ F bx) (h2 : ¬ F g) : Nv W' bx m n g := ⟨h.st.stay s h1, h.hn, ⟨fun hne => by
  obtain ⟨g', off, e, hr⟩ := h.ls.at' hne
  cases e
  refine ⟨_, _, rfl, fun j x hx => ?_⟩
  have h9 := hr j x hx
  have hb := s.block g (World.block_lt_of_cell? W _ h9) h2
  rw [← h9]
  simp only [World.cell?, hb]⟩⟩
theorem Nv.cells {W : World} {bx n g : Nat} {m : Mf} (h : Nv W bx m n g) : W.cell? ⟨bx, 0, none⟩ = some (.int .i64 m.w) ∧ W.cell? ⟨bx, 1, none⟩ = some (.int .i64 m.ch) ∧ W.cell? ⟨bx, 2, none⟩ = some (.int .i64 m.md) ∧ W.cell? ⟨bx, 3, none⟩ = some (.int .i64 m.seq) ∧ W.cell? ⟨bx, 4, none⟩ = some (.int .i64 m.nx) ∧ W.cell? ⟨bx, 5, none⟩ = some (.int .i64 m.jn) ∧ W.cell? ⟨bx, 6, none⟩ = some (.slice (some ⟨g, 0, none⟩) n 2) :=
  ⟨h.st 0 _ rfl, h.st 1 _ rfl, h.st 2 _ rfl, h.st 3 _ rfl, h.st 4 _ rfl, h.st 5 _ rfl, by rw [h.hn]; exact h.st 6 _ rfl⟩
/-- What a Decode leaves, its cells written out. -/
def Dx (m : Mf) (n : Nat) (er : Int) (W : World) (e : Ending) (w' : World) : Prop := ∃ (la : Option Addr) (c : Nat), e = .returned (.tuple #[.agg #[.int .i64 m.w, .int .i64 m.ch, .int .i64 m.md, .int .i64 m.seq, .int .i64 m.nx, .int .i64 m.jn, .slice la n c], .int .i64 er]) ∧ w'.ownsRow 0 36 4 (.slice la m.rs.length c) m.rs.length (m.rs.flatMap ruC) ∧ (∀ k, (Value.slice la m.rs.length c).ownBlock = some k → W.heap.size ≤ k) ∧ Below W.heap.size W w'
theorem Dx.of {X : Except Int Mf} {W : World} {e : Ending} {w' : World} (h : DeR W X e w') {m : Mf} {n : Nat} {er : Int} (hm : m = dcV X) (hn : n = m.rs.length) (he : er = unE X) : Dx m n er W e w' := by
  obtain ⟨la, c, h1, h2, h3, h4⟩ := h
  subst hm hn he
  exact ⟨la, c, h1, h2, h3, h4⟩
def RA1 (V : World) (la : Option Addr) (n c : Nat) (u : Value) (wr : World) : Prop := ∃ (i : Nat) (L : List Ru), u = .int .i64 i ∧ i ≤ n ∧ Hid (L.length = n ∧ wr.ownsRow 0 36 4 (.slice la n c) n (L.flatMap ruC) ∧ Stay (fun k => (Value.slice la n c).ownBlock = some k) V wr)
def RA2 (V : World) (la : Option Addr) (n c : Nat) (um u : Value) (wr : World) : Prop := ∃ (t k : Nat) (a : Option Addr) (c' : Nat) (L : List Ru), um = .slice a k c' ∧ u = .int .i64 t ∧ t ≤ 64 ∧ Hid (k = n + 1 + t ∧ L.length = k ∧ wr.ownsRow 0 36 4 (.slice a k c') k (L.flatMap ruC) ∧ (∀ g, (Value.slice a k c').ownBlock = some g → (Value.slice la n c).ownBlock = some g ∨ V.heap.size ≤ g) ∧ Stay (fun k => (Value.slice la n c).ownBlock = some k) V wr)
/-- One more behind. -/
theorem grow4 {V wr : World} {la : Option Addr} {n c : Nat} {a : Option Addr} {k c' : Nat} {L : List Ru} (hl : L.length = k) (ow : wr.ownsRow 0 36 4 (.slice a k c') k (L.flatMap ruC)) (hk : k ≤ 200) (own : ∀ g, (Value.slice a k c').ownBlock = some g → (Value.slice la n c).ownBlock = some g ∨ V.heap.size ≤ g) (st : Stay (fun k => (Value.slice la n c).ownBlock = some k) V wr) (r : Ru) :
    ∃ a2 c2 W2, (Builtin.append_ #[24, 24] 24 #[.slice a k c', .slice (some ⟨wr.heap.size, 0, none⟩) 1 1]).run Tryd.prog (wr.alloc (.cells #[.int .i64 r.num, .int .i64 r.lo, .int .i64 r.hi, .int .i64 r.cnt] 36)) = .ok (.slice a2 (k + 1) c2) W2 ∧ (L ++ [r]).length = k + 1 ∧ W2.ownsRow 0 36 4 (.slice a2 (k + 1) c2) (k + 1) ((L ++ [r]).flatMap ruC) ∧ (∀ g, (Value.slice a2 (k + 1) c2).ownBlock = some g → (Value.slice la n c).ownBlock = some g ∨ V.heap.size ≤ g) ∧ Stay (fun k => (Value.slice la n c).ownBlock = some k) V W2 := by
  have b5 : Below wr.heap.size wr (wr.alloc (.cells (ruC r).toArray 36)) := (Below.refl _ wr).alloc (Nat.le_refl _) _
  have RI : RowAt (wr.alloc (.cells (ruC r).toArray 36)) wr.heap.size 0 (([r] : List Ru).flatMap ruC) := fun j x hx => by
    rw [Nat.zero_add]; exact SAt.new wr (ruC r) _ j x (by simpa using hx)
  have ow5 := row_kept (F := fun _ => False) ow (.below b5) (fun _ _ h => h)
  subst hl
  obtain ⟨v', W2, hr, ow6, st6, loc6⟩ := ru_app (wr.alloc (.cells (ruC r).toArray 36)) L [r] _ ow5 (some ⟨wr.heap.size, 0, none⟩) 1 (fun _ => ⟨_, _, rfl, RI⟩) (by simp; omega)
  obtain ⟨a2, c2, rfl, -⟩ := slice_form ow6
  have hl2 : (L ++ [r]).length = L.length + 1 := by rw [List.length_append]; rfl
  rw [hl2] at hr ow6 loc6
  refine ⟨a2, c2, W2, hr, hl2, ow6, fun g hg => ?_, ?_⟩
  · rcases loc6 g hg with h | h
    · exact own g h
    · exact .inr (Nat.le_trans st.size (Nat.le_trans b5.size h))
  · refine (st.andThen (Stay.below (F := fun _ => False) b5) (fun _ _ h => h.elim)).andThen st6 (fun k hk h => ?_)
    rcases own k h with h' | h'
    · exact h'
    · omega
set_option maxHeartbeats 8000000 in
set_option maxRecDepth 100000 in
theorem law_decode (b : ByteArray) (w : World) (ht : Tab w) (hg : 0 < w.heap.size) (hb : b.size < 4611686018427387904) :
    Calls Tryd.prog 3 #[.string b] w fun e w' => e = .returned (.bool true) ∧ Below w.heap.size w w' := by
  obtain ⟨X, hX⟩ : ∃ X, X = dcM b := ⟨_, rfl⟩
  have hlen := dcV_len b
  rw [← hX] at hlen
  obtain ⟨M, hM⟩ : ∃ M, M = dcV X := ⟨_, rfl⟩
  obtain ⟨EE, hEE⟩ : ∃ EE, EE = unE X := ⟨_, rfl⟩
  rw [← hM] at hlen
  obtain ⟨n1, hn1⟩ : ∃ n1, n1 = M.rs.length := ⟨_, rfl⟩
  have hn24 : n1 ≤ 24 := by omega
  obtain ⟨TX, hTX⟩ : ∃ TX, TX = enT nM := ⟨_, rfl⟩
  have hTs : TX.size < 4611686018427387904 := by
    have h1 := enT_size nM_ok
    have h2 := pay_len (goes_of nM_ok)
    rw [hTX]; omega
  have cD : ∀ W, Tab W → 0 < W.heap.size → Calls Tryd.prog 5 #[.string b] W (Dx M n1 EE W) := fun W h1 h2 => (decode_any b W h1 h2 hb).mono fun e w' h => Dx.of h (by rw [hM, hX]) hn1 (by rw [hEE, hX])
  have cR : ∀ W, Calls Tryd.prog 6 #[.string b] W (Dx M n1 EE W) := fun W => (rdecode_any b W hb).mono fun e w' h => Dx.of h (by rw [hM, hX]) hn1 (by rw [hEE, hX])
  have hde := dec_enc nM_ok TX hTX
  obtain ⟨m0, hm0⟩ : ∃ m0, m0 = nM := ⟨_, rfl⟩
  obtain ⟨n2, hn2⟩ : ∃ n2, n2 = m0.rs.length := ⟨_, rfl⟩
  have hn22 : n2 = 2 := by rw [hn2, hm0]; rfl
  have cS : ∀ W, Tab W → 0 < W.heap.size → Calls Tryd.prog 5 #[.string TX] W (Dx m0 n2 0 W) := fun W h1 h2 => (decode_any TX W h1 h2 hTs).mono fun e w' h => Dx.of h (by rw [hde, hm0]; rfl) hn2 (by rw [hde]; rfl)
  have cO : Calls Tryd.prog 4 #[] w fun e w' => ∃ g, e = .returned (.tuple #[.string TX, .agg #[.int .i64 m0.w, .int .i64 m0.ch, .int .i64 m0.md, .int .i64 m0.seq, .int .i64 m0.nx, .int .i64 m0.jn, .slice (some ⟨g, 0, none⟩) n2 2]]) ∧ LAt w' (some ⟨g, 0, none⟩) m0.rs ∧ g < w'.heap.size ∧ Below w.heap.size w w' := by
    refine (other_any w).mono ?_
    rintro e w' ⟨g, rfl, hL, -, bb⟩
    refine ⟨g, by rw [hTX, hn2, hm0]; rfl, by rw [hm0]; exact hL, ?_, bb⟩
    obtain ⟨g', off, e1, hr⟩ := hL.at' (by decide)
    cases e1
    exact World.block_lt_of_cell? w' _ (hr 0 _ rfl)
  have HC := Hid.mk (And.intro cD (And.intro cR cS))
  have HM := Hid.mk (And.intro hn1 hn2)
  have HT := Hid.mk (And.intro ht hg)
  have HN2 := Hid.mk hn22
  clear hX hM hEE hTX hde hm0 hn1 hn2 cD cR cS hlen hTs ht hg hn22
  go_enter Tryd.func3, Tryd.ntmps3
  go_wp2_with fail
  refine cO.mono ?_
  clear cO
  rintro _ w1 ⟨gn, rfl, Ln, hgn, b1⟩
  obtain ⟨W1, hW1⟩ : ∃ W, W = w1.alloc (.cells #[.int .i64 m0.w, .int .i64 m0.ch, .int .i64 m0.md, .int .i64 m0.seq, .int .i64 m0.nx, .int .i64 m0.jn, .slice (some ⟨gn, 0, none⟩) n2 2] 26) := ⟨_, rfl⟩
  have hW1' : w1.alloc (.cells #[.int .i64 m0.w, .int .i64 m0.ch, .int .i64 m0.md, .int .i64 m0.seq, .int .i64 m0.nx, .int .i64 m0.jn, .slice (some ⟨gn, 0, none⟩) n2 2] 26) = W1 := hW1.symm
  have a1 : Below w1.heap.size w1 W1 := by rw [hW1]; exact (Below.refl _ w1).alloc (Nat.le_refl _) _
  have S1 : SAt W1 w1.heap.size (mfC m0 (some ⟨gn, 0, none⟩) 2) := by
    rw [hW1, HM.out.2]; exact SAt.new w1 _ _
  have G1 : Hid (Nv W1 w1.heap.size m0 n2 gn) := ⟨S1, HM.out.2, Ln.below a1⟩
  have BW1 := Hid.mk (chain b1 a1 (Nat.le_refl _))
  have hgn1 : gn < W1.heap.size := Nat.lt_of_lt_of_le hgn a1.size
  have s1 : w1.heap.size < W1.heap.size := by rw [hW1]; simp
  clear hW1 S1 a1 b1 Ln hgn
  go_wp2_with fail
  refine (HC.out.1 W1 (HT.out.1.below BW1.out HT.out.2) (Nat.lt_of_lt_of_le HT.out.2 BW1.out.size)).mono ?_
  rintro _ w2 ⟨la2, c2, rfl, ow2, own2, b2⟩
  obtain ⟨W2, hW2⟩ : ∃ W, W = w2.alloc (.cells #[.int .i64 M.w, .int .i64 M.ch, .int .i64 M.md, .int .i64 M.seq, .int .i64 M.nx, .int .i64 M.jn, .slice la2 n1 c2] 26) := ⟨_, rfl⟩
  have hW2' : w2.alloc (.cells #[.int .i64 M.w, .int .i64 M.ch, .int .i64 M.md, .int .i64 M.seq, .int .i64 M.nx, .int .i64 M.jn, .slice la2 n1 c2] 26) = W2 := hW2.symm
  have a2 : Below w2.heap.size w2 W2 := by rw [hW2]; exact (Below.refl _ w2).alloc (Nat.le_refl _) _
  have S2 : SAt W2 w2.heap.size (mfC M la2 c2) := by
    rw [hW2, HM.out.1]; exact SAt.new w2 _ _
  have G2 : Hid (Gv W2 w2.heap.size M n1 la2 c2 W1.heap.size) := ⟨S2, HM.out.1, row_kept (F := fun _ => False) ow2 (.below a2) (fun _ _ h => h), own2⟩
  have E2 := Hid.mk (chain b2 a2 (Nat.le_refl _))
  have BW2 := Hid.mk (BW1.out.trans (E2.out.mono BW1.out.size))
  have s2 : w2.heap.size < W2.heap.size := by rw [hW2]; simp
  have r2 : W1.heap.size ≤ w2.heap.size := b2.size
  have Q2 : Hid (∀ k, (Value.slice la2 M.rs.length c2).ownBlock = some k → k < w2.heap.size) := fun k hk => row_lt ow2 hk
  clear hW2 S2 a2 b2 ow2 own2
  go_wp2_with fail
  refine (HC.out.1 W2 (HT.out.1.below BW2.out HT.out.2) (Nat.lt_of_lt_of_le HT.out.2 BW2.out.size)).mono ?_
  rintro _ w3 ⟨la3, c3, rfl, ow3, own3, b3⟩
  obtain ⟨W3, hW3⟩ : ∃ W, W = w3.alloc (.cells #[.int .i64 M.w, .int .i64 M.ch, .int .i64 M.md, .int .i64 M.seq, .int .i64 M.nx, .int .i64 M.jn, .slice la3 n1 c3] 26) := ⟨_, rfl⟩
  have hW3' : w3.alloc (.cells #[.int .i64 M.w, .int .i64 M.ch, .int .i64 M.md, .int .i64 M.seq, .int .i64 M.nx, .int .i64 M.jn, .slice la3 n1 c3] 26) = W3 := hW3.symm
  have a3 : Below w3.heap.size w3 W3 := by rw [hW3]; exact (Below.refl _ w3).alloc (Nat.le_refl _) _
  have S3 : SAt W3 w3.heap.size (mfC M la3 c3) := by
    rw [hW3, HM.out.1]; exact SAt.new w3 _ _
  have G3 : Hid (Gv W3 w3.heap.size M n1 la3 c3 W2.heap.size) := ⟨S3, HM.out.1, row_kept (F := fun _ => False) ow3 (.below a3) (fun _ _ h => h), own3⟩
  have E3 := Hid.mk (chain b3 a3 (Nat.le_refl _))
  have BW3 := Hid.mk (BW2.out.trans (E3.out.mono BW2.out.size))
  have s3 : w3.heap.size < W3.heap.size := by rw [hW3]; simp
  have r3 : W2.heap.size ≤ w3.heap.size := b3.size
  have Q3 : Hid (∀ k, (Value.slice la3 M.rs.length c3).ownBlock = some k → k < w3.heap.size) := fun k hk => row_lt ow3 hk
  clear hW3 S3 a3 b3 ow3 own3
  go_wp2_with fail
  refine (HC.out.2.2 W3 (HT.out.1.below BW3.out HT.out.2) (Nat.lt_of_lt_of_le HT.out.2 BW3.out.size)).mono ?_
  rintro _ w4 ⟨la4, c4, rfl, ow4, own4, b4⟩
  obtain ⟨W4, hW4⟩ : ∃ W, W = w4.alloc (.cells #[.int .i64 m0.w, .int .i64 m0.ch, .int .i64 m0.md, .int .i64 m0.seq, .int .i64 m0.nx, .int .i64 m0.jn, .slice la4 n2 c4] 26) := ⟨_, rfl⟩
  have hW4' : w4.alloc (.cells #[.int .i64 m0.w, .int .i64 m0.ch, .int .i64 m0.md, .int .i64 m0.seq, .int .i64 m0.nx, .int .i64 m0.jn, .slice la4 n2 c4] 26) = W4 := hW4.symm
  have a4 : Below w4.heap.size w4 W4 := by rw [hW4]; exact (Below.refl _ w4).alloc (Nat.le_refl _) _
  have S4 : SAt W4 w4.heap.size (mfC m0 la4 c4) := by
    rw [hW4, HM.out.2]; exact SAt.new w4 _ _
  have G4 : Hid (Gv W4 w4.heap.size m0 n2 la4 c4 W3.heap.size) := ⟨S4, HM.out.2, row_kept (F := fun _ => False) ow4 (.below a4) (fun _ _ h => h), own4⟩
  have E4 := Hid.mk (chain b4 a4 (Nat.le_refl _))
  have BW4 := Hid.mk (BW3.out.trans (E4.out.mono BW3.out.size))
  have s4 : w4.heap.size < W4.heap.size := by rw [hW4]; simp
  have r4 : W3.heap.size ≤ w4.heap.size := b4.size
  have Q4 : Hid (∀ k, (Value.slice la4 m0.rs.length c4).ownBlock = some k → k < w4.heap.size) := fun k hk => row_lt ow4 hk
  clear hW4 S4 a4 b4 ow4 own4
  go_wp2_with fail
  refine (HC.out.2.2 W4 (HT.out.1.below BW4.out HT.out.2) (Nat.lt_of_lt_of_le HT.out.2 BW4.out.size)).mono ?_
  rintro _ w5 ⟨la5, c5, rfl, ow5, own5, b5⟩
  obtain ⟨W5, hW5⟩ : ∃ W, W = w5.alloc (.cells #[.int .i64 m0.w, .int .i64 m0.ch, .int .i64 m0.md, .int .i64 m0.seq, .int .i64 m0.nx, .int .i64 m0.jn, .slice la5 n2 c5] 26) := ⟨_, rfl⟩
  have hW5' : w5.alloc (.cells #[.int .i64 m0.w, .int .i64 m0.ch, .int .i64 m0.md, .int .i64 m0.seq, .int .i64 m0.nx, .int .i64 m0.jn, .slice la5 n2 c5] 26) = W5 := hW5.symm
  have a5 : Below w5.heap.size w5 W5 := by rw [hW5]; exact (Below.refl _ w5).alloc (Nat.le_refl _) _
  have S5 : SAt W5 w5.heap.size (mfC m0 la5 c5) := by
    rw [hW5, HM.out.2]; exact SAt.new w5 _ _
  have G5 : Hid (Gv W5 w5.heap.size m0 n2 la5 c5 W4.heap.size) := ⟨S5, HM.out.2, row_kept (F := fun _ => False) ow5 (.below a5) (fun _ _ h => h), own5⟩
  have E5 := Hid.mk (chain b5 a5 (Nat.le_refl _))
  have BW5 := Hid.mk (BW4.out.trans (E5.out.mono BW4.out.size))
  have s5 : w5.heap.size < W5.heap.size := by rw [hW5]; simp
  have r5 : W4.heap.size ≤ w5.heap.size := b5.size
  have Q5 : Hid (∀ k, (Value.slice la5 m0.rs.length c5).ownBlock = some k → k < w5.heap.size) := fun k hk => row_lt ow5 hk
  clear hW5 S5 a5 b5 ow5 own5
  go_wp2_with fail
  refine (HC.out.1 W5 (HT.out.1.below BW5.out HT.out.2) (Nat.lt_of_lt_of_le HT.out.2 BW5.out.size)).mono ?_
  rintro _ w6 ⟨la6, c6, rfl, ow6, own6, b6⟩
  obtain ⟨W6, hW6⟩ : ∃ W, W = w6.alloc (.cells #[.int .i64 M.w, .int .i64 M.ch, .int .i64 M.md, .int .i64 M.seq, .int .i64 M.nx, .int .i64 M.jn, .slice la6 n1 c6] 26) := ⟨_, rfl⟩
  have hW6' : w6.alloc (.cells #[.int .i64 M.w, .int .i64 M.ch, .int .i64 M.md, .int .i64 M.seq, .int .i64 M.nx, .int .i64 M.jn, .slice la6 n1 c6] 26) = W6 := hW6.symm
  have a6 : Below w6.heap.size w6 W6 := by rw [hW6]; exact (Below.refl _ w6).alloc (Nat.le_refl _) _
  have S6 : SAt W6 w6.heap.size (mfC M la6 c6) := by
    rw [hW6, HM.out.1]; exact SAt.new w6 _ _
  have G6 : Hid (Gv W6 w6.heap.size M n1 la6 c6 W5.heap.size) := ⟨S6, HM.out.1, row_kept (F := fun _ => False) ow6 (.below a6) (fun _ _ h => h), own6⟩
  have E6 := Hid.mk (chain b6 a6 (Nat.le_refl _))
  have BW6 := Hid.mk (BW5.out.trans (E6.out.mono BW5.out.size))
  have s6 : w6.heap.size < W6.heap.size := by rw [hW6]; simp
  have r6 : W5.heap.size ≤ w6.heap.size := b6.size
  have Q6 : Hid (∀ k, (Value.slice la6 M.rs.length c6).ownBlock = some k → k < w6.heap.size) := fun k hk => row_lt ow6 hk
  clear hW6 S6 a6 b6 ow6 own6
  go_wp2_with fail
  refine (HC.out.2.1 W6).mono ?_
  rintro _ w7 ⟨la7, c7, rfl, ow7, own7, b7⟩
  obtain ⟨W7, hW7⟩ : ∃ W, W = w7.alloc (.cells #[.int .i64 M.w, .int .i64 M.ch, .int .i64 M.md, .int .i64 M.seq, .int .i64 M.nx, .int .i64 M.jn, .slice la7 n1 c7] 26) := ⟨_, rfl⟩
  have hW7' : w7.alloc (.cells #[.int .i64 M.w, .int .i64 M.ch, .int .i64 M.md, .int .i64 M.seq, .int .i64 M.nx, .int .i64 M.jn, .slice la7 n1 c7] 26) = W7 := hW7.symm
  have a7 : Below w7.heap.size w7 W7 := by rw [hW7]; exact (Below.refl _ w7).alloc (Nat.le_refl _) _
  have S7 : SAt W7 w7.heap.size (mfC M la7 c7) := by
    rw [hW7, HM.out.1]; exact SAt.new w7 _ _
  have G7 : Hid (Gv W7 w7.heap.size M n1 la7 c7 W6.heap.size) := ⟨S7, HM.out.1, row_kept (F := fun _ => False) ow7 (.below a7) (fun _ _ h => h), own7⟩
  have E7 := Hid.mk (chain b7 a7 (Nat.le_refl _))
  have BW7 := Hid.mk (BW6.out.trans (E7.out.mono BW6.out.size))
  have s7 : w7.heap.size < W7.heap.size := by rw [hW7]; simp
  have r7 : W6.heap.size ≤ w7.heap.size := b7.size
  have Q7 : Hid (∀ k, (Value.slice la7 M.rs.length c7).ownBlock = some k → k < w7.heap.size) := fun k hk => row_lt ow7 hk
  clear hW7 S7 a7 b7 ow7 own7
  have T7 : Hid (Below W7.heap.size W7 W7) := Below.refl _ _
  have T6 : Hid (Below W6.heap.size W6 W7) := E7.out.trans (T7.out.mono E7.out.size)
  have T5 : Hid (Below W5.heap.size W5 W7) := E6.out.trans (T6.out.mono E6.out.size)
  have T4 : Hid (Below W4.heap.size W4 W7) := E5.out.trans (T5.out.mono E5.out.size)
  have T3 : Hid (Below W3.heap.size W3 W7) := E4.out.trans (T4.out.mono E4.out.size)
  have T2 : Hid (Below W2.heap.size W2 W7) := E3.out.trans (T3.out.mono E3.out.size)
  have T1 : Hid (Below W1.heap.size W1 W7) := E2.out.trans (T2.out.mono E2.out.size)
  have N1 : Hid (Nv W7 w1.heap.size m0 n2 gn) := G1.out.lat T1.out
  have H2 : Hid (Gv W7 w2.heap.size M n1 la2 c2 W1.heap.size) := G2.out.lat T2.out
  have H3 : Hid (Gv W7 w3.heap.size M n1 la3 c3 W2.heap.size) := G3.out.lat T3.out
  have H4 : Hid (Gv W7 w4.heap.size m0 n2 la4 c4 W3.heap.size) := G4.out.lat T4.out
  have H5 : Hid (Gv W7 w5.heap.size m0 n2 la5 c5 W4.heap.size) := G5.out.lat T5.out
  have H6 : Hid (Gv W7 w6.heap.size M n1 la6 c6 W5.heap.size) := G6.out.lat T6.out
  have H7 : Hid (Gv W7 w7.heap.size M n1 la7 c7 W6.heap.size) := G7.out.lat T7.out
  have SZ : Hid (w1.heap.size < W1.heap.size ∧ gn < W1.heap.size ∧ W1.heap.size ≤ w2.heap.size ∧ w2.heap.size < W2.heap.size ∧ W2.heap.size ≤ w3.heap.size ∧ w3.heap.size < W3.heap.size ∧ W3.heap.size ≤ w4.heap.size ∧ w4.heap.size < W4.heap.size ∧ W4.heap.size ≤ w5.heap.size ∧ w5.heap.size < W5.heap.size ∧ W5.heap.size ≤ w6.heap.size ∧ w6.heap.size < W6.heap.size ∧ W6.heap.size ≤ w7.heap.size ∧ w7.heap.size < W7.heap.size) := ⟨s1, hgn1, r2, s2, r3, s3, r4, s4, r5, s5, r6, s6, r7, s7⟩
  clear s1 hgn1 r2 s2 r3 s3 r4 s4 r5 s5 r6 s6 r7 s7
  have e0 : Hid (Below W7.heap.size W7 W7) := Below.refl _ _
  obtain ⟨x0, x1, x2, x3, x4, x5, x6⟩ := (H2.out.lat e0.out).cells
  obtain ⟨y0, y1, y2, y3, y4, y5, y6⟩ := (H7.out.lat e0.out).cells
  have hs : Calls Tryd.prog 7 #[.agg #[.int .i64 M.w, .int .i64 M.ch, .int .i64 M.md, .int .i64 M.seq, .int .i64 M.nx, .int .i64 M.jn, .slice la2 n1 c2], .agg #[.int .i64 M.w, .int .i64 M.ch, .int .i64 M.md, .int .i64 M.seq, .int .i64 M.nx, .int .i64 M.jn, .slice la7 n1 c7]] W7 fun e w' => e = .returned (.bool true) ∧ Below W7.heap.size W7 w' := by
    have h9 := same_eq M la2 la7 c2 c7 W7 (own_lat (H2.out.lat e0.out).ow).1 (own_lat (H7.out.lat e0.out).ow).1 (own_lat (H2.out.lat e0.out).ow).2 (own_lat (H7.out.lat e0.out).ow).2 (by have := HM.out; have := HN2.out; omega)
    rw [HM.out.1]; exact h9
  go_wp2_with fail
  refine hs.mono ?_
  clear hs
  rintro _ V1 ⟨rfl, d1⟩
  clear x0 x1 x2 x3 x4 x5 x6 y0 y1 y2 y3 y4 y5 y6
  have e1 := Hid.mk (e0.out.trans (d1.mono e0.out.size))
  clear d1
  obtain ⟨x0, x1, x2, x3, x4, x5, x6⟩ := (H3.out.lat e1.out).cells
  obtain ⟨y0, y1, y2, y3, y4, y5, y6⟩ := (H7.out.lat e1.out).cells
  have hs : Calls Tryd.prog 7 #[.agg #[.int .i64 M.w, .int .i64 M.ch, .int .i64 M.md, .int .i64 M.seq, .int .i64 M.nx, .int .i64 M.jn, .slice la3 n1 c3], .agg #[.int .i64 M.w, .int .i64 M.ch, .int .i64 M.md, .int .i64 M.seq, .int .i64 M.nx, .int .i64 M.jn, .slice la7 n1 c7]] V1 fun e w' => e = .returned (.bool true) ∧ Below V1.heap.size V1 w' := by
    have h9 := same_eq M la3 la7 c3 c7 V1 (own_lat (H3.out.lat e1.out).ow).1 (own_lat (H7.out.lat e1.out).ow).1 (own_lat (H3.out.lat e1.out).ow).2 (own_lat (H7.out.lat e1.out).ow).2 (by have := HM.out; have := HN2.out; omega)
    rw [HM.out.1]; exact h9
  go_wp2_with fail
  refine hs.mono ?_
  clear hs
  rintro _ V2 ⟨rfl, d2⟩
  clear x0 x1 x2 x3 x4 x5 x6 y0 y1 y2 y3 y4 y5 y6
  have e2 := Hid.mk (e1.out.trans (d2.mono e1.out.size))
  clear d2
  obtain ⟨x0, x1, x2, x3, x4, x5, x6⟩ := (H4.out.lat e2.out).cells
  obtain ⟨y0, y1, y2, y3, y4, y5, y6⟩ := (N1.out.lat e2.out).cells
  have hs : Calls Tryd.prog 7 #[.agg #[.int .i64 m0.w, .int .i64 m0.ch, .int .i64 m0.md, .int .i64 m0.seq, .int .i64 m0.nx, .int .i64 m0.jn, .slice la4 n2 c4], .agg #[.int .i64 m0.w, .int .i64 m0.ch, .int .i64 m0.md, .int .i64 m0.seq, .int .i64 m0.nx, .int .i64 m0.jn, .slice (some ⟨gn, 0, none⟩) n2 2]] V2 fun e w' => e = .returned (.bool true) ∧ Below V2.heap.size V2 w' := by
    have h9 := same_eq m0 la4 (some ⟨gn, 0, none⟩) c4 2 V2 (own_lat (H4.out.lat e2.out).ow).1 (N1.out.lat e2.out).ls (own_lat (H4.out.lat e2.out).ow).2 (by have h1 := HN2.out; have h2 := HM.out.2; omega) (by have := HM.out; have := HN2.out; omega)
    rw [HM.out.2]; exact h9
  go_wp2_with fail
  refine hs.mono ?_
  clear hs
  rintro _ V3 ⟨rfl, d3⟩
  clear x0 x1 x2 x3 x4 x5 x6 y0 y1 y2 y3 y4 y5 y6
  have e3 := Hid.mk (e2.out.trans (d3.mono e2.out.size))
  clear d3
  obtain ⟨x0, x1, x2, x3, x4, x5, x6⟩ := (H5.out.lat e3.out).cells
  obtain ⟨y0, y1, y2, y3, y4, y5, y6⟩ := (N1.out.lat e3.out).cells
  have hs : Calls Tryd.prog 7 #[.agg #[.int .i64 m0.w, .int .i64 m0.ch, .int .i64 m0.md, .int .i64 m0.seq, .int .i64 m0.nx, .int .i64 m0.jn, .slice la5 n2 c5], .agg #[.int .i64 m0.w, .int .i64 m0.ch, .int .i64 m0.md, .int .i64 m0.seq, .int .i64 m0.nx, .int .i64 m0.jn, .slice (some ⟨gn, 0, none⟩) n2 2]] V3 fun e w' => e = .returned (.bool true) ∧ Below V3.heap.size V3 w' := by
    have h9 := same_eq m0 la5 (some ⟨gn, 0, none⟩) c5 2 V3 (own_lat (H5.out.lat e3.out).ow).1 (N1.out.lat e3.out).ls (own_lat (H5.out.lat e3.out).ow).2 (by have h1 := HN2.out; have h2 := HM.out.2; omega) (by have := HM.out; have := HN2.out; omega)
    rw [HM.out.2]; exact h9
  go_wp2_with fail
  refine hs.mono ?_
  clear hs
  rintro _ V4 ⟨rfl, d4⟩
  clear x0 x1 x2 x3 x4 x5 x6 y0 y1 y2 y3 y4 y5 y6
  have e4 := Hid.mk (e3.out.trans (d4.mono e3.out.size))
  clear d4
  obtain ⟨x0, x1, x2, x3, x4, x5, x6⟩ := (H6.out.lat e4.out).cells
  obtain ⟨y0, y1, y2, y3, y4, y5, y6⟩ := (H7.out.lat e4.out).cells
  have hs : Calls Tryd.prog 7 #[.agg #[.int .i64 M.w, .int .i64 M.ch, .int .i64 M.md, .int .i64 M.seq, .int .i64 M.nx, .int .i64 M.jn, .slice la6 n1 c6], .agg #[.int .i64 M.w, .int .i64 M.ch, .int .i64 M.md, .int .i64 M.seq, .int .i64 M.nx, .int .i64 M.jn, .slice la7 n1 c7]] V4 fun e w' => e = .returned (.bool true) ∧ Below V4.heap.size V4 w' := by
    have h9 := same_eq M la6 la7 c6 c7 V4 (own_lat (H6.out.lat e4.out).ow).1 (own_lat (H7.out.lat e4.out).ow).1 (own_lat (H6.out.lat e4.out).ow).2 (own_lat (H7.out.lat e4.out).ow).2 (by have := HM.out; have := HN2.out; omega)
    rw [HM.out.1]; exact h9
  go_wp2_with fail
  refine hs.mono ?_
  clear hs
  rintro _ V5 ⟨rfl, d5⟩
  clear x0 x1 x2 x3 x4 x5 x6 y0 y1 y2 y3 y4 y5 y6
  have e5 := Hid.mk (e4.out.trans (d5.mono e4.out.size))
  clear d5
  have K2 : Hid (Gv V5 w2.heap.size M n1 la2 c2 W1.heap.size) := H2.out.lat e5.out
  have R0 : Hid (RA1 V5 la2 n1 c2 (.int .i64 ((0 : Nat) : Int)) V5) := ⟨0, M.rs, rfl, Nat.zero_le _, HM.out.1.symm, by rw [HM.out.1]; exact K2.out.ow, Stay.refl _ _⟩
  have HNF : Hid (∀ k, (Value.slice la2 n1 c2).ownBlock = some k → W1.heap.size ≤ k ∧ k < w2.heap.size) := fun k hk => by
    have h1 : (Value.slice la2 M.rs.length c2).ownBlock = some k := by rw [← HM.out.1]; exact hk
    exact ⟨K2.out.own k h1, Q2.out k h1⟩
  have hV5 : W7.heap.size ≤ V5.heap.size := e5.out.size
  go_wp2
  go_loopw [18] (fun u wr => RA1 V5 la2 n1 c2 u wr) (fun u _ => n1 - (intOf u).toNat)
  case atStart => exact R0.out
  case round =>
    clear R0
    obtain ⟨i, L, rfl, hi, HL⟩ := hrel
    have k6 : wr.cell? ⟨w2.heap.size, 6, none⟩ = some (.slice la2 n1 c2) := ((K2.out.st.stay HL.out.2.2 (fun e => by have := HNF.out _ e; omega)) 6 _ rfl).trans (by rw [HM.out.1])
    by_cases hlt : i < n1
    · have i1 : (i : Int) < (n1 : Int) := by omega
      have i2 : (0 : Int) ≤ (i : Int) := by omega
      have hwi : IntKind.i64.wrap ((i : Int) + 1) = ((i + 1 : Nat) : Int) := by rw [IntKind.wrap_i64]; omega
      have hiL : i < L.length := by have := HL.out.1; omega
      obtain ⟨q, hq⟩ : ∃ q, la2 = some ⟨q, 0, none⟩ := by
        rcases HL.out.2.1.2 with ⟨e, e2⟩ | ⟨q, cap, cur, e, -⟩
        · omega
        · simp only [Value.slice.injEq] at e
          exact ⟨q, e.1⟩
      subst hq
      have hRw : Rw wr q c2 L := by
        have h9 := HL.out.2.1
        rw [← HL.out.1] at h9
        exact h9
      obtain ⟨y0, y1, y2, y3⟩ := row_ru hRw.row i hiL
      rw [Nat.zero_add] at y0 y1 y2 y3
      generalize L[i] = Li at y0 y1 y2 y3
      have f0 := hRw.free (i * 4)
      have f1 := hRw.free (i * 4 + 1)
      have f2 := hRw.free (i * 4 + 2)
      have f3 := hRw.free (i * 4 + 3)
      have hR2 := hRw.set i ⟨-1, 0, 0, 0⟩ hiL
      have HN : Hid (RA1 V5 (some ⟨q, 0, none⟩) n1 c2 (.int .i64 ((i + 1 : Nat) : Int)) (set4 wr q i ⟨-1, 0, 0, 0⟩)) := by
        have hl2 : (L.set i ⟨-1, 0, 0, 0⟩).length = n1 := by rw [List.length_set]; exact HL.out.1
        refine ⟨i + 1, L.set i ⟨-1, 0, 0, 0⟩, rfl, hlt, hl2, ?_, ?_⟩
        · unfold Rw at hR2
          rw [hl2] at hR2
          exact hR2
        · exact HL.out.2.2.andThen (set4_stay wr q i ⟨-1, 0, 0, 0⟩) (fun k _ e => by (have e' : k = q := e; subst e'; rfl))
      simp only [set4] at HN
      clear hRw hR2 HL
      go_wp2
      exact ⟨HN.out, by simp only [intOf]; omega⟩
    · have i1 : ¬ (i : Int) < (n1 : Int) := by omega
      obtain ⟨a2', c2', W2', hap, hl2, ow2, own2, st2⟩ := grow4 (V := V5) (la := la2) (n := n1) (c := c2) HL.out.1 HL.out.2.1 (by omega) (fun g hg => .inl hg) HL.out.2.2 ⟨-2, 0, 0, 0⟩
      have R1 : Hid (RA2 V5 la2 n1 c2 (.slice a2' (n1 + 1) c2') (.int .i64 ((0 : Nat) : Int)) W2') := ⟨0, n1 + 1, a2', c2', _, rfl, rfl, Nat.zero_le _, by omega, hl2, ow2, own2, st2⟩
      obtain ⟨q1, hq1⟩ : ∃ q, q = n1 + 1 := ⟨_, rfl⟩
      rw [← hq1] at hap R1
      clear HL hl2 ow2 own2 st2 hlt hi hq1
      go_wp2_with (at_builtin; refine wpList_append_eq rfl _ _ _ _ rfl _ _ _ _ rfl rfl hap ?_; clear hap)
      clear k6
      go_loopw [19, 20] (fun um u wr => RA2 V5 la2 n1 c2 um u wr) (fun _ u _ => 64 - (intOf u).toNat)
      case atStart => exact R1.out
      case round =>
        clear R1
        obtain ⟨t, k, a, c', L, rfl, rfl, ht, HL⟩ := hrel
        by_cases htl : t < 64
        · have t1 : (t : Int) < 64 := by omega
          have hwt : IntKind.i64.wrap ((t : Int) + 1) = ((t + 1 : Nat) : Int) := by rw [IntKind.wrap_i64]; omega
          have hk := HL.out.1
          obtain ⟨a3, c3', W3', hap, hl3, ow3, own3, st3⟩ := grow4 (V := V5) (la := la2) (n := n1) (c := c2) HL.out.2.1 HL.out.2.2.1 (by omega) HL.out.2.2.2.1 HL.out.2.2.2.2 ⟨-2, 0, 0, 0⟩
          have HN : Hid (RA2 V5 la2 n1 c2 (.slice a3 (k + 1) c3') (.int .i64 ((t + 1 : Nat) : Int)) W3') := ⟨t + 1, k + 1, a3, c3', _, rfl, rfl, htl, by omega, hl3, ow3, own3, st3⟩
          obtain ⟨q3, hq3⟩ : ∃ q, q = k + 1 := ⟨_, rfl⟩
          rw [← hq3] at hap HN
          clear HL hl3 ow3 own3 st3 hq3 hk
          go_wp2_with (at_builtin; refine wpList_append_eq rfl _ _ _ _ rfl _ _ _ _ rfl rfl hap ?_; clear hap)
          exact ⟨HN.out, by simp only [intOf]; omega⟩
        · have t1 : ¬ (t : Int) < 64 := by omega
          obtain ⟨V6, rfl⟩ : ∃ V6, V6 = wr := ⟨_, rfl⟩
          have ST := Hid.mk HL.out.2.2.2.2
          have hw65 : IntKind.i64.wrap ((n1 : Int) + 65) = (k : Int) := by have := HL.out.1; rw [IntKind.wrap_i64]; omega
          clear HL
          have P1 : Hid (Nv V6 w1.heap.size m0 n2 gn) := (N1.out.lat e5.out).stay ST.out (fun e => by have h1 := HNF.out _ e; have h2 := SZ.out.1; omega) (fun e => by have h1 := HNF.out _ e; have h2 := SZ.out.2.1; omega)
          have P3 : Hid (Gv V6 w3.heap.size M n1 la3 c3 W2.heap.size) := (H3.out.lat e5.out).stay ST.out (fun e => by have h1 := HNF.out _ e; have h2 := SZ.out; omega) (fun k hk e => by have h1 := HNF.out _ e; have h2 := SZ.out; have h3 := H3.out.own k hk; omega)
          have P4 : Hid (Gv V6 w4.heap.size m0 n2 la4 c4 W3.heap.size) := (H4.out.lat e5.out).stay ST.out (fun e => by have h1 := HNF.out _ e; have h2 := SZ.out; omega) (fun k hk e => by have h1 := HNF.out _ e; have h2 := SZ.out; have h3 := H4.out.own k hk; omega)
          have P5 : Hid (Gv V6 w5.heap.size m0 n2 la5 c5 W4.heap.size) := (H5.out.lat e5.out).stay ST.out (fun e => by have h1 := HNF.out _ e; have h2 := SZ.out; omega) (fun k hk e => by have h1 := HNF.out _ e; have h2 := SZ.out; have h3 := H5.out.own k hk; omega)
          have P6 : Hid (Gv V6 w6.heap.size M n1 la6 c6 W5.heap.size) := (H6.out.lat e5.out).stay ST.out (fun e => by have h1 := HNF.out _ e; have h2 := SZ.out; omega) (fun k hk e => by have h1 := HNF.out _ e; have h2 := SZ.out; have h3 := H6.out.own k hk; omega)
          have P7 : Hid (Gv V6 w7.heap.size M n1 la7 c7 W6.heap.size) := (H7.out.lat e5.out).stay ST.out (fun e => by have h1 := HNF.out _ e; have h2 := SZ.out; omega) (fun k hk e => by have h1 := HNF.out _ e; have h2 := SZ.out; have h3 := H7.out.own k hk; omega)
          have BV6 : Hid (Below w.heap.size w V6) := (BW7.out.trans (e5.out.mono BW7.out.size)).trans (ST.out.toBelow (fun k hk e => by have h1 := HNF.out _ e; have h2 := BW1.out.size; omega) (Nat.le_trans BW7.out.size e5.out.size))
          have f0 : Hid (Below V6.heap.size V6 V6) := Below.refl _ _
          obtain ⟨x0, x1, x2, x3, x4, x5, x6⟩ := (P3.out.lat f0.out).cells
          obtain ⟨y0, y1, y2, y3, y4, y5, y6⟩ := (P7.out.lat f0.out).cells
          have hs : Calls Tryd.prog 7 #[.agg #[.int .i64 M.w, .int .i64 M.ch, .int .i64 M.md, .int .i64 M.seq, .int .i64 M.nx, .int .i64 M.jn, .slice la3 n1 c3], .agg #[.int .i64 M.w, .int .i64 M.ch, .int .i64 M.md, .int .i64 M.seq, .int .i64 M.nx, .int .i64 M.jn, .slice la7 n1 c7]] V6 fun e w' => e = .returned (.bool true) ∧ Below V6.heap.size V6 w' := by
            have h9 := same_eq M la3 la7 c3 c7 V6 (own_lat (P3.out.lat f0.out).ow).1 (own_lat (P7.out.lat f0.out).ow).1 (own_lat (P3.out.lat f0.out).ow).2 (own_lat (P7.out.lat f0.out).ow).2 (by have := HM.out; have := HN2.out; omega)
            rw [HM.out.1]; exact h9
          go_wp2_with fail
          refine hs.mono ?_
          clear hs
          rintro _ U1 ⟨rfl, d11⟩
          clear x0 x1 x2 x3 x4 x5 x6 y0 y1 y2 y3 y4 y5 y6
          have f1 := Hid.mk (f0.out.trans (d11.mono f0.out.size))
          clear d11
          obtain ⟨x0, x1, x2, x3, x4, x5, x6⟩ := (P4.out.lat f1.out).cells
          obtain ⟨y0, y1, y2, y3, y4, y5, y6⟩ := (P1.out.lat f1.out).cells
          have hs : Calls Tryd.prog 7 #[.agg #[.int .i64 m0.w, .int .i64 m0.ch, .int .i64 m0.md, .int .i64 m0.seq, .int .i64 m0.nx, .int .i64 m0.jn, .slice la4 n2 c4], .agg #[.int .i64 m0.w, .int .i64 m0.ch, .int .i64 m0.md, .int .i64 m0.seq, .int .i64 m0.nx, .int .i64 m0.jn, .slice (some ⟨gn, 0, none⟩) n2 2]] U1 fun e w' => e = .returned (.bool true) ∧ Below U1.heap.size U1 w' := by
            have h9 := same_eq m0 la4 (some ⟨gn, 0, none⟩) c4 2 U1 (own_lat (P4.out.lat f1.out).ow).1 (P1.out.lat f1.out).ls (own_lat (P4.out.lat f1.out).ow).2 (by have h1 := HN2.out; have h2 := HM.out.2; omega) (by have := HM.out; have := HN2.out; omega)
            rw [HM.out.2]; exact h9
          go_wp2_with fail
          refine hs.mono ?_
          clear hs
          rintro _ U2 ⟨rfl, d12⟩
          clear x0 x1 x2 x3 x4 x5 x6 y0 y1 y2 y3 y4 y5 y6
          have f2 := Hid.mk (f1.out.trans (d12.mono f1.out.size))
          clear d12
          obtain ⟨x0, x1, x2, x3, x4, x5, x6⟩ := (P5.out.lat f2.out).cells
          obtain ⟨y0, y1, y2, y3, y4, y5, y6⟩ := (P1.out.lat f2.out).cells
          have hs : Calls Tryd.prog 7 #[.agg #[.int .i64 m0.w, .int .i64 m0.ch, .int .i64 m0.md, .int .i64 m0.seq, .int .i64 m0.nx, .int .i64 m0.jn, .slice la5 n2 c5], .agg #[.int .i64 m0.w, .int .i64 m0.ch, .int .i64 m0.md, .int .i64 m0.seq, .int .i64 m0.nx, .int .i64 m0.jn, .slice (some ⟨gn, 0, none⟩) n2 2]] U2 fun e w' => e = .returned (.bool true) ∧ Below U2.heap.size U2 w' := by
            have h9 := same_eq m0 la5 (some ⟨gn, 0, none⟩) c5 2 U2 (own_lat (P5.out.lat f2.out).ow).1 (P1.out.lat f2.out).ls (own_lat (P5.out.lat f2.out).ow).2 (by have h1 := HN2.out; have h2 := HM.out.2; omega) (by have := HM.out; have := HN2.out; omega)
            rw [HM.out.2]; exact h9
          go_wp2_with fail
          refine hs.mono ?_
          clear hs
          rintro _ U3 ⟨rfl, d13⟩
          clear x0 x1 x2 x3 x4 x5 x6 y0 y1 y2 y3 y4 y5 y6
          have f3 := Hid.mk (f2.out.trans (d13.mono f2.out.size))
          clear d13
          obtain ⟨x0, x1, x2, x3, x4, x5, x6⟩ := (P6.out.lat f3.out).cells
          obtain ⟨y0, y1, y2, y3, y4, y5, y6⟩ := (P7.out.lat f3.out).cells
          have hs : Calls Tryd.prog 7 #[.agg #[.int .i64 M.w, .int .i64 M.ch, .int .i64 M.md, .int .i64 M.seq, .int .i64 M.nx, .int .i64 M.jn, .slice la6 n1 c6], .agg #[.int .i64 M.w, .int .i64 M.ch, .int .i64 M.md, .int .i64 M.seq, .int .i64 M.nx, .int .i64 M.jn, .slice la7 n1 c7]] U3 fun e w' => e = .returned (.bool true) ∧ Below U3.heap.size U3 w' := by
            have h9 := same_eq M la6 la7 c6 c7 U3 (own_lat (P6.out.lat f3.out).ow).1 (own_lat (P7.out.lat f3.out).ow).1 (own_lat (P6.out.lat f3.out).ow).2 (own_lat (P7.out.lat f3.out).ow).2 (by have := HM.out; have := HN2.out; omega)
            rw [HM.out.1]; exact h9
          go_wp2_with fail
          refine hs.mono ?_
          clear hs
          rintro _ U4 ⟨rfl, d14⟩
          clear x0 x1 x2 x3 x4 x5 x6 y0 y1 y2 y3 y4 y5 y6
          have f4 := Hid.mk (f3.out.trans (d14.mono f3.out.size))
          clear d14
          have BU := Hid.mk (BV6.out.trans (f4.out.mono BV6.out.size))
          go_wp2_with fail
          refine (HC.out.1 U4 (HT.out.1.below BU.out HT.out.2) (Nat.lt_of_lt_of_le HT.out.2 BU.out.size)).mono ?_
          rintro _ w8 ⟨la8, c8, rfl, ow8, own8, b8⟩
          obtain ⟨W8, hW8⟩ : ∃ W, W = w8.alloc (.cells #[.int .i64 M.w, .int .i64 M.ch, .int .i64 M.md, .int .i64 M.seq, .int .i64 M.nx, .int .i64 M.jn, .slice la8 n1 c8] 26) := ⟨_, rfl⟩
          have hW8' : w8.alloc (.cells #[.int .i64 M.w, .int .i64 M.ch, .int .i64 M.md, .int .i64 M.seq, .int .i64 M.nx, .int .i64 M.jn, .slice la8 n1 c8] 26) = W8 := hW8.symm
          have a8 : Below w8.heap.size w8 W8 := by rw [hW8]; exact (Below.refl _ w8).alloc (Nat.le_refl _) _
          have S8 : SAt W8 w8.heap.size (mfC M la8 c8) := by
            rw [hW8, HM.out.1]; exact SAt.new w8 _ _
          have G8 : Hid (Gv W8 w8.heap.size M n1 la8 c8 U4.heap.size) := ⟨S8, HM.out.1, row_kept (F := fun _ => False) ow8 (.below a8) (fun _ _ h => h), own8⟩
          have E8 := Hid.mk (chain b8 a8 (Nat.le_refl _))
          have f5 := Hid.mk (f4.out.trans (E8.out.mono f4.out.size))
          clear hW8 S8 a8 b8 ow8 own8
          obtain ⟨x0, x1, x2, x3, x4, x5, x6⟩ := (G8.out).cells
          obtain ⟨y0, y1, y2, y3, y4, y5, y6⟩ := (P7.out.lat f5.out).cells
          have hs : Calls Tryd.prog 7 #[.agg #[.int .i64 M.w, .int .i64 M.ch, .int .i64 M.md, .int .i64 M.seq, .int .i64 M.nx, .int .i64 M.jn, .slice la8 n1 c8], .agg #[.int .i64 M.w, .int .i64 M.ch, .int .i64 M.md, .int .i64 M.seq, .int .i64 M.nx, .int .i64 M.jn, .slice la7 n1 c7]] W8 fun e w' => e = .returned (.bool true) ∧ Below W8.heap.size W8 w' := by
            have h9 := same_eq M la8 la7 c8 c7 W8 (own_lat G8.out.ow).1 (own_lat (P7.out.lat f5.out).ow).1 (own_lat G8.out.ow).2 (own_lat (P7.out.lat f5.out).ow).2 (by have := HM.out; have := HN2.out; omega)
            rw [HM.out.1]; exact h9
          go_wp2_with fail
          refine hs.mono ?_
          clear hs
          rintro _ U5 ⟨rfl, d20⟩
          clear x0 x1 x2 x3 x4 x5 x6 y0 y1 y2 y3 y4 y5 y6
          have f6 := Hid.mk (f5.out.trans (d20.mono f5.out.size))
          clear d20
          obtain ⟨y0, y1, y2, y3, y4, y5, y6⟩ := (P7.out.lat f6.out).cells
          have HE := Hid.mk (BV6.out.trans (f6.out.mono BV6.out.size))
          clear y0 y1 y2 y3 y4 y5
          go_wp2_with (go_at_call 8; refine (num8 _ _).mono ?_; rintro _ u9 ⟨rfl, rfl⟩)
          go_ret
          exact ⟨rfl, HE.out⟩
end Go.Proofs.YtejpakejfikkmaaDoor
