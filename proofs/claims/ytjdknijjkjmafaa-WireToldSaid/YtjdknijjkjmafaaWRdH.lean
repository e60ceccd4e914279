/-
  DERIVED. Hits are read.
-/
import Derived.Test.YtjdknijjkjmafaaWTellP
import Derived.Test.YtjdknijjkjmafaaWAsk0
set_option linter.unusedVariables false
set_option linter.unusedSimpArgs false
namespace Go.Proofs.Ytjdknijjkjmafaa
open Go.RowKit Go.Proofs.SealMath
theorem oper_append_eq {P : Program} {w : World} {o : Oper} {a : Act} {K : Act → World → Prop} {Q : Exit → Act → World → Prop} (s x : Operand) (t u : TypeId)
    (ho : o.op = .call { callee := .builtin .append, args := #[s, x], argTypes := #[t, u] }) (v xv v' : Value) (w' : World) (hs : a.eval s = v) (hx : a.eval x = xv) (hr : (Builtin.append_ #[t, u] o.type #[v, xv]).run P w = .ok v' w')
    (h : K (a.put o.dst v') w') : Oper.wp P o a w K Q := by
  unfold Oper.wp execOp
  simp only [ho, resolve, invoke, builtin, Sem.run_bind, Sem.run_pure, Result.andThen_ok, List.map_toArray, List.map_cons, List.map_nil, hs, hx, hr]
  exact h
abbrev htL (h : Ht) : List Value := [.int .i64 h.d, .int .i64 h.i, .string h.c]
/-- A row of hits of one's own. -/
def HRow (w : World) (v : Value) (L : List Ht) : Prop := w.ownsRow 0 25 3 v L.length (L.flatMap htL)
theorem infoHt : (Try.prog.info? 25).map (fun i => (i.zero, i.size, i.bytes)) = some (some (.agg #[.int .i64 0, .int .i64 0, .string ⟨#[]⟩]), 3, 32) := by kernel_rfl
theorem hit_app1 (W : World) (l : List Ht) (v : Value) (h : HRow W v l) (x : Ht) (hb : (l.length + 1) * 32 ≤ 140737488355328) :
    ∃ v' w', (Builtin.append_ #[26, 26] 26 #[v, .slice (some ⟨W.heap.size, 0, none⟩) 1 1]).run Try.prog (W.alloc (.cells #[.int .i64 x.d, .int .i64 x.i, .string x.c] 25)) = .ok v' w' ∧ HRow w' v' (l ++ [x]) ∧ Stay (fun k => v.ownBlock = some k) W w' ∧ (∀ k, v'.ownBlock = some k → v.ownBlock = some k ∨ W.heap.size ≤ k) := by
  obtain ⟨i0, hi, hz0, hz1, hz2⟩ := info_parts infoHt
  have h' : (W.alloc (.cells #[.int .i64 x.d, .int .i64 x.i, .string x.c] 25)).ownsRow 0 25 3 v l.length (l.flatMap htL) := World.ownsRow.alloc h _
  have hc : ∀ (j : Nat) u, (htL x)[j]? = some u → (W.alloc (.cells #[.int .i64 x.d, .int .i64 x.i, .string x.c] 25)).cell? ((⟨W.heap.size, 0, none⟩ : Addr).add j) = some u := fun j u hu => by
    have := (HC.new W #[.int .i64 x.d, .int .i64 x.i, .string x.c] 25).cell (o := j) (v := u) (by simpa [htL] using hu)
    have e : (⟨W.heap.size, 0, none⟩ : Addr).add j = ⟨W.heap.size, j, none⟩ := by unfold Addr.add; split <;> simp_all
    rw [e]; exact this
  obtain ⟨v', w', hrun, ho, hg, _, hloc⟩ := run_append_own_at (P := Try.prog) (W.alloc (.cells #[.int .i64 x.d, .int .i64 x.i, .string x.c] 25)) 0 26 26 25 i0 _ 3 32 Try.underlying26 hi hz0 hz1 hz2 rfl (by decide) v l.length _ h' ⟨W.heap.size, 0, none⟩ 1 1 (htL x) rfl hc (fun u hu => by
    simp [htL] at hu
    rcases hu with rfl | rfl | rfl <;> rfl) (by unfold maxLen; omega) (by omega) (Nat.zero_le _)
  refine ⟨v', w', hrun, ?_, ((Stay.refl _ W).alloc _).trans (.grown hg (fun k hk => hk)), fun k hk => ?_⟩
  · unfold HRow
    rw [List.length_append, List.flatMap_append]
    simpa using ho
  · rcases hloc with hl | hl
    · exact .inl (hl ▸ hk)
    · rw [hl] at hk; cases hk; exact .inr (by simp)
theorem flat_len3 (L : List Ht) : (L.flatMap htL).length = L.length * 3 := by
  induction L with
  | nil => rfl
  | cons x t ih => rw [List.flatMap_cons, List.length_append, ih]; simp [htL]; omega
theorem flat_at3 (L : List Ht) (i : Nat) (hi : i < L.length) : (L.flatMap htL)[i * 3]? = some (.int .i64 L[i].d) ∧ (L.flatMap htL)[i * 3 + 1]? = some (.int .i64 L[i].i) ∧ (L.flatMap htL)[i * 3 + 2]? = some (.string L[i].c) := by
  induction L generalizing i with
  | nil => simp at hi
  | cons x t ih =>
    rw [List.flatMap_cons]
    cases i with
    | zero => simp [htL]
    | succ i =>
      obtain ⟨a, b, c⟩ := ih i (by simpa using hi)
      have e0 : (i + 1) * 3 = 3 + i * 3 := by omega
      have l3 : (htL x).length = 3 := rfl
      refine ⟨?_, ?_, ?_⟩
      · rw [e0, List.getElem?_append_right (by rw [l3]; omega), l3, show 3 + i * 3 - 3 = i * 3 by omega, a]; rfl
      · rw [e0, List.getElem?_append_right (by rw [l3]; omega), l3, show 3 + i * 3 + 1 - 3 = i * 3 + 1 by omega, b]; rfl
      · rw [e0, List.getElem?_append_right (by rw [l3]; omega), l3, show 3 + i * 3 + 2 - 3 = i * 3 + 2 by omega, c]; rfl
theorem HRow.cells {w : World} {v : Value} {L : List Ht} (h : HRow w v L) (i : Nat) (hi : i < L.length) : ∃ g cap, v = .slice (some ⟨g, 0, none⟩) L.length cap ∧ w.cell? ⟨g, i * 3, none⟩ = some (.int .i64 L[i].d) ∧ w.cell? ⟨g, i * 3 + 1, none⟩ = some (.int .i64 L[i].i) ∧ w.cell? ⟨g, i * 3 + 2, none⟩ = some (.string L[i].c) := by
  obtain ⟨a, b, c⟩ := flat_at3 L i hi
  rcases h.2 with ⟨rfl, h0⟩ | ⟨g, cap, cur, rfl, _, hg, _⟩
  · omega
  · have k0 := World.ownsRow.cells h (g := g) rfl (i * 3) _ a
    have k1 := World.ownsRow.cells h (g := g) rfl (i * 3 + 1) _ b
    have k2 := World.ownsRow.cells h (g := g) rfl (i * 3 + 2) _ c
    have e : ∀ j, (⟨g, 0, none⟩ : Addr).add j = ⟨g, j, none⟩ := fun j => by unfold Addr.add; split <;> simp_all
    rw [e] at k0 k1 k2
    exact ⟨g, cap, rfl, k0, k1, k2⟩
theorem HRow.stay {F : Nat → Prop} {w w' : World} {v : Value} {L : List Ht} (h : HRow w v L) (s : Stay F w w') (hF : ∀ k, v.ownBlock = some k → ¬ F k) : HRow w' v L := row_kept h s hF
/-- A hit is read. -/
def rdI (b : ByteArray) (s : RS) : Ht × RS := (⟨((rdN b s).1 : Int), ((rdN b (rdN b s).2).1 : Int), ⟨(rdT b (rdN b (rdN b s).2).2).1.toArray⟩⟩, (rdT b (rdN b (rdN b s).2).2).2)
theorem rdI_le (b : ByteArray) (s : RS) (h : s.1 ≤ b.size) : (rdI b s).2.1 ≤ b.size := (rdT_le b _ (rdN_le b _ (rdN_le b s h).1).1).1
theorem hit_read (b : ByteArray) (s : RS) (w : World) (r q : Nat) (hb : b.size < 4611686018427387904) (hp : s.1 ≤ b.size) (h : RdAt w r b s) (hq : HC w q #[.int .i64 0, .int .i64 0, .string ⟨#[]⟩] 25) :
    Calls Try.prog 65 #[Pt q, (rdH r).v] w fun e w' => e = Un ∧ RdAt w' r b (rdI b s).2 ∧ HC w' q (htV (rdI b s).1) 25 ∧ Stay (fun k => k = r ∨ k = q) w w' := by
  have hne : q ≠ r := HC.ne hq h (by decide)
  have lr := HC.lt h
  have lq := HC.lt hq
  have E := rdH_ent r
  have hA : HC (w.alloc (rdH r).box).drew q #[.int .i64 0, .int .i64 0, .string ⟨#[]⟩] 25 := HC.drew (hq.alloc _)
  have rA : RdAt (w.alloc (rdH r).box).drew r b s := HC.drew (h.alloc _)
  refine hit_g (rdH r) q 0 w _ E.1 E.2.1 ?_
  refine (rnumber_any b s _ r q 0 _ _ hb rA hA rfl hne).mono ?_
  rintro e w1 ⟨rfl, r1, g1, s1⟩
  refine ⟨rfl, box_kept s1 lr lq, ?_⟩
  refine (rnumber_any b _ _ r q 1 _ _ hb (HC.drew r1) (HC.drew g1) rfl hne).mono ?_
  rintro e w2 ⟨rfl, r2, g2, s2⟩
  refine ⟨rfl, box_kept2 (box_kept s1 lr lq) s2 lr lq, ?_⟩
  refine (rtext_any b _ _ r q 2 _ _ ⟨#[]⟩ hb (rdN_le b _ (rdN_le b s hp).1).1 (HC.drew r2) (HC.drew g2) rfl hne).mono ?_
  rintro e w3 ⟨rfl, r3, g3, s3⟩
  exact ⟨rfl, box_kept2 (box_kept2 (box_kept s1 lr lq) s2 lr lq) s3 lr lq, rfl, r3, g3, ((box_stay s1).drew.trans s2).drew.trans s3⟩
/-- So many hits are read behind those that are there. -/
def rdL (b : ByteArray) : Nat → List Ht → RS → List Ht × RS
  | 0, acc, s => (acc, s)
  | k + 1, acc, s => if (rdI b s).2.2 ≠ 0 then (acc, (rdI b s).2) else if okP acc.getLast? (rdI b s).1 then rdL b k (acc ++ [(rdI b s).1]) (rdI b s).2 else (acc, ((rdI b s).2.1, 50))
theorem rdL_cons (b : ByteArray) (k : Nat) (acc : List Ht) (s : RS) : rdL b (k + 1) acc s = if (rdI b s).2.2 ≠ 0 then (acc, (rdI b s).2) else if okP acc.getLast? (rdI b s).1 then rdL b k (acc ++ [(rdI b s).1]) (rdI b s).2 else (acc, ((rdI b s).2.1, 50)) := rfl
def rdHs (b : ByteArray) (s : RS) : List Ht × RS := rdL b (rdU 65536 43 b s).1 [] (rdU 65536 43 b s).2
/-- What stands while hits are read. -/
structure RI (w wr : World) (r hb g : Nat) (b : ByteArray) (s : RS) (e0 n0 : Int) (t0 : ByteArray) (v : Value) (acc : List Ht) : Prop where
  rd : RdAt wr r b s
  bx : wr.heap[hb]? = some (rdH r).box
  rep : HC wr g #[.int .i64 e0, .int .i64 n0, .string t0, v] 29
  row : HRow wr v acc
  own : ∀ k, v.ownBlock = some k → w.heap.size ≤ k
  old : Stay (fun k => k = r ∨ k = g) w wr
  lr : r < w.heap.size
  lg : g < w.heap.size
  lh : w.heap.size ≤ hb
  le : s.1 ≤ b.size
theorem RI.drew {w wr : World} {r hb g : Nat} {b : ByteArray} {s : RS} {e0 n0 : Int} {t0 : ByteArray} {v : Value} {acc : List Ht} (h : RI w wr r hb g b s e0 n0 t0 v acc) : RI w wr.drew r hb g b s e0 n0 t0 v acc :=
  ⟨h.rd, h.bx, h.rep, h.row.stay (Stay.refl (fun _ => False) wr).drew (fun _ _ h => h), h.own, h.old.drew, h.lr, h.lg, h.lh, h.le⟩
theorem RI.below {w wr w' : World} {r hb g : Nat} {b : ByteArray} {s : RS} {e0 n0 : Int} {t0 : ByteArray} {v : Value} {acc : List Ht} (h : RI w wr r hb g b s e0 n0 t0 v acc) (s' : Below wr.heap.size wr w') : RI w w' r hb g b s e0 n0 t0 v acc :=
  ⟨HC.below h.rd s', HC.below h.bx s', h.rep.below s', h.row.stay (F := fun _ => False) (.below s') (fun _ _ h => h), h.own, h.old.trans (.below s'), h.lr, h.lg, h.lh, h.le⟩
/-- The reader read, into a box that is new. -/
theorem RI.read {w wr w' : World} {r hb g q : Nat} {b : ByteArray} {s s' : RS} {e0 n0 : Int} {t0 : ByteArray} {v : Value} {acc : List Ht} (h : RI w wr r hb g b s e0 n0 t0 v acc) (h1 : RdAt w' r b s') (st : Stay (fun k => k = r ∨ k = q) wr w') (hq : w.heap.size ≤ q) (hqb : q ≠ hb) (hqv : ∀ k, v.ownBlock = some k → k ≠ q) (le : s'.1 ≤ b.size) : RI w w' r hb g b s' e0 n0 t0 v acc := by
  have l1 := h.lr; have l2 := h.lg; have l3 := h.lh
  have hrg : g ≠ r := HC.ne h.rep h.rd (by decide)
  refine ⟨h1, HC.stay (w := wr) h.bx st (fun e => ?_), h.rep.stay st (fun e => ?_), h.row.stay st (fun k hk e => ?_), h.own, h.old.andThen st (fun i hi e => ?_), h.lr, h.lg, h.lh, le⟩
  · rcases e with e | e
    · omega
    · exact hqb e.symm
  · rcases e with e | e
    · exact hrg e
    · omega
  · have := h.own k hk
    rcases e with e | e
    · omega
    · exact hqv k hk e
  · rcases e with e | e
    · exact .inl e
    · omega
/-- A hit is put behind. -/
theorem RI.app {w wr w' : World} {r hb g : Nat} {b : ByteArray} {s : RS} {e0 n0 : Int} {t0 : ByteArray} {v v' : Value} {acc : List Ht} {x : Ht} (h : RI w wr r hb g b s e0 n0 t0 v acc) (hr : HRow w' v' (acc ++ [x])) (st : Stay (fun k => v.ownBlock = some k) wr w') (loc : ∀ k, v'.ownBlock = some k → v.ownBlock = some k ∨ wr.heap.size ≤ k) (hbv : ∀ k, v.ownBlock = some k → k ≠ hb) :
    RI w (w'.setCell ⟨g, 3, none⟩ v') r hb g b s e0 n0 t0 v' (acc ++ [x]) := by
  have l1 := h.lr; have l2 := h.lg; have l3 := h.lh
  have lw := h.old.size
  have hrg : g ≠ r := HC.ne h.rep h.rd (by decide)
  have lhb : hb < wr.heap.size := (Array.getElem?_eq_some_iff.1 h.bx).1
  have nr : ¬ v.ownBlock = some r := fun e => by have := h.own r e; omega
  have ng : ¬ v.ownBlock = some g := fun e => by have := h.own g e; omega
  have nh : ¬ v.ownBlock = some hb := fun e => hbv hb e rfl
  have st2 : Stay (· = g) w' (w'.setCell ⟨g, 3, none⟩ v') := (Stay.refl (· = g) w').setCell (p := ⟨g, 3, none⟩) (fun _ => rfl) v'
  have og : ∀ k, v'.ownBlock = some k → w.heap.size ≤ k := fun k hk => by
    rcases loc k hk with e | e
    · exact h.own k e
    · omega
  refine ⟨HC.stay (HC.stay h.rd st nr) st2 (fun e => hrg e.symm), HC.stay (w := w') (HC.stay (w := wr) h.bx st nh) st2 (fun e => by omega), HC.set (h.rep.stay st ng) 3 v', hr.stay st2 (fun k hk e => by have := og k hk; omega), og, ?_, h.lr, h.lg, h.lh, h.le⟩
  refine (h.old.andThen st (fun i hi e => ?_)).andThen st2 (fun i hi e => .inr e)
  have := h.own i e; omega
/-- What a list of hits that was read leaves. -/
def HsO (w w' : World) (r g : Nat) (b : ByteArray) (e0 n0 : Int) (t0 : ByteArray) (S : List Ht × RS) : Prop :=
  ∃ v', RdAt w' r b S.2 ∧ HC w' g #[.int .i64 e0, .int .i64 n0, .string t0, v'] 29 ∧ HRow w' v' S.1 ∧ (∀ k, v'.ownBlock = some k → w.heap.size ≤ k) ∧ Stay (fun k => k = r ∨ k = g) w w' ∧ S.2.1 ≤ b.size
set_option maxHeartbeats 8000000 in
set_option maxRecDepth 100000 in
theorem rhits_any (b : ByteArray) (s : RS) (w : World) (r g : Nat) (e0 n0 : Int) (t0 : ByteArray) (hb0 : b.size < 4611686018427387904) (hp : s.1 ≤ b.size) (h : RdAt w r b s) (hg : HC w g #[.int .i64 e0, .int .i64 n0, .string t0, .slice none 0 0] 29) :
    Calls Try.prog 50 #[Pt r, Pc g 3] w fun e w' => e = Un ∧ HsO w w' r g b e0 n0 t0 (rdHs b s) := by
  have hHd := rdH_any r w
  have hU := fun W (hW : RdAt W r b s) => upto_any b s 65536 43 W r hb0 hp (Nat.le_refl _) hW
  have hle := rdU_le b s 65536 43 hp
  obtain ⟨S, hS⟩ : ∃ S, S = rdHs b s := ⟨_, rfl⟩
  rw [← hS]
  unfold rdHs at hS
  obtain ⟨n, s1, hR⟩ : ∃ n s1, rdU 65536 43 b s = (n, s1) := ⟨_, _, rfl⟩
  rw [hR] at hU hle hS
  have lr := HC.lt h
  have lg := HC.lt hg
  have HH := Hid.mk (And.intro h hg)
  have HS := Hid.mk hS
  have HU := Hid.mk hU
  have hn : n ≤ 65536 := hle.2
  have HLE := Hid.mk hle.1
  clear h hg hS hU hR hle hp
  have hsf : ∀ (W : World) (p : Addr) (f : Fn) (x c : Array Value), (store p (.func f x c)).run Try.prog W = stored Try.prog W p (.func f x c) .plain := fun W p f x c => run_store Try.prog W p _ .plain rfl
  go_enter Try.func50, Try.ntmps50
  go_wp2_with (first
    | (go_at_call 26; refine hHd.mono ?_; clear hHd; rintro e w1 ⟨rfl, b1⟩; have H1 := Hid.mk b1; clear b1)
    | (go_at_call 24; refine (HU.out _ (HC.alloc (HC.below HH.out.1 H1.out) _)).mono ?_; rintro e w2 ⟨rfl, r2, s2⟩; have H2 := Hid.mk (And.intro r2 s2); clear r2 s2))
  obtain ⟨hb, hhb⟩ : ∃ hb, hb = w1.heap.size := ⟨_, rfl⟩
  simp only [← hhb]
  have hRI : RI w w2 r hb g b s1 e0 n0 t0 (.slice none 0 0) [] := by
    have e1 := H1.out.size
    have k1 : HC (w1.alloc (rdH r).box) g #[.int .i64 e0, .int .i64 n0, .string t0, .slice none 0 0] 29 := HC.alloc (HC.below HH.out.2 H1.out) _
    have hrg : g ≠ r := HC.ne HH.out.2 HH.out.1 (by decide)
    refine ⟨H2.out.1, ?_, k1.stay H2.out.2 hrg, World.ownsRow_nil _ _ _ _, (fun k hk => by cases hk), ?_, lr, lg, by omega, HLE.out⟩
    · rw [hhb]
      exact HC.stay (w := w1.alloc (rdH r).box) (heap_alloc_last w1 _) H2.out.2 (fun e => by omega)
    · exact (((Stay.below H1.out).alloc (rdH r).box).trans (H2.out.2.mono (fun k _ hk => .inl hk)))
  have HRI := Hid.mk hRI
  clear hRI hhb H1 H2 HU HH
  go_loopw [11] (fun u wr => ∃ (i : Nat) (v : Value) (acc : List Ht) (si : RS), u = .int .i64 i ∧ i ≤ n ∧ Hid (RI w wr r hb g b si e0 n0 t0 v acc ∧ acc.length = i ∧ rdL b (n - i) acc si = S)) (fun u _ => n - (intOf u).toNat)
  case atStart => exact ⟨0, _, [], s1, rfl, Nat.zero_le _, Hid.mk ⟨HRI.out, rfl, by rw [Nat.sub_zero]; exact HS.out.symm⟩⟩
  case round =>
    obtain ⟨i, v, acc, si, rfl, hin, HI⟩ := hrel
    by_cases hlt : i < n
    · have hlt' : (i : Int) < (n : Int) := by omega
      obtain ⟨k0, k1, k2⟩ := box_cell HI.out.1.bx
      have lhb : hb < wr.heap.size := (Array.getElem?_eq_some_iff.1 HI.out.1.bx).1
      have hal : Below wr.heap.size wr (wr.alloc (.cells #[.int .i64 0, .int .i64 0, .string ⟨#[]⟩] 25)) := (Below.refl _ wr).alloc (Nat.le_refl _) _
      have hA := HI.out.1.below hal
      have hrd := hit_read b si _ r wr.heap.size hb0 HI.out.1.le hA.rd (HC.new wr #[.int .i64 0, .int .i64 0, .string ⟨#[]⟩] 25)
      have hleI := rdI_le b si HI.out.1.le
      obtain ⟨x, s2, hx⟩ : ∃ x s2, rdI b si = (x, s2) := ⟨_, _, rfl⟩
      have hstep := rdL_cons b (n - (i + 1)) acc si
      have hni : n - i = n - (i + 1) + 1 := by omega
      rw [← hni, HI.out.2.2, hx] at hstep
      rw [hx] at hrd hleI
      simp only at hstep hleI
      have HST := Hid.mk hstep
      have HRD := Hid.mk (And.intro hrd (And.intro hleI hA))
      clear hrd hleI hA hx hstep hni hal
      have HQ : Hid (∀ k, v.ownBlock = some k → k ≠ wr.heap.size) := fun k hk e => by have := row_lt HI.out.1.row hk; omega
      obtain ⟨p2, e2⟩ := s2
      by_cases he2 : e2 = 0
      · subst he2
        have HST2 := Hid.mk (show S = (if okP acc.getLast? x = true then rdL b (n - (i + 1)) (acc ++ [x]) (p2, 0) else (acc, (p2, 50))) from by have := HST.out; rw [if_neg (by simp)] at this; exact this)
        clear HST
        go_wp2_with (go_at_call 65; refine HRD.out.1.mono ?_; rintro e w3 ⟨rfl, r3, g3, t3⟩; have h3 := HRD.out.2.2.read r3 t3 (Nat.le_trans HI.out.1.old.size (Nat.le_refl _)) (fun e => by omega) HQ.out HRD.out.2.1; have z2 : w3.cell? ⟨r, 2, none⟩ = some (.int .i64 0) := HC.cell r3 rfl; have lq3 := HC.lt g3; have H3 := Hid.mk (And.intro h3 g3); clear h3 r3 g3 t3)
        have HQ3 : Hid (w.heap.size ≤ wr.heap.size) := HI.out.1.old.size
        obtain ⟨x0, x1, x2⟩ := x
        have m0 : w3.cell? ⟨wr.heap.size, 0, none⟩ = some (.int .i64 x0) := H3.out.2.cell rfl
        have m1 : w3.cell? ⟨wr.heap.size, 1, none⟩ = some (.int .i64 x1) := H3.out.2.cell rfl
        have m2 : w3.cell? ⟨wr.heap.size, 2, none⟩ = some (.string x2) := H3.out.2.cell rfl
        have HQ2 : Hid (¬ v.ownBlock = some wr.heap.size) := fun e => HQ.out _ e rfl
        obtain ⟨q, hq⟩ : ∃ q, q = wr.heap.size := ⟨_, rfl⟩
        simp only [← hq]
        rw [← hq] at m0 m1 m2 HQ2 HQ3
        clear hq HRD HQ
        by_cases hi0 : i = 0
        · have hac : acc = [] := List.length_eq_zero_iff.1 (by rw [HI.out.2.1]; exact hi0)
          have HN1 : Hid (S = rdL b (n - (i + 1)) (acc ++ [⟨x0, x1, x2⟩]) (p2, 0)) := by
            have := HST2.out
            rw [hac] at this ⊢
            rw [if_pos (show okP ([] : List Ht).getLast? _ = true from rfl)] at this
            exact this
          subst hi0
          clear HST2 hac
          refine wp_region_held_drew (S := fun _ => True) (by kernel_rfl) ?_ (fun hHeld => ?_)
          · trivial
          refine wpAnyH_take (i := 0) (oi := { dst := some 21, op := Op.move (Operand.tmp 5), type := 3, pos := "reader.go:96", after := #[], guard := none }) (v := ?vp0) rfl (by kernel_rfl) (by kernel_rfl) (by kernel_rfl) (fun _ _ _ h => h) (Or.inl ⟨by rfl, ?hp0⟩) (by assumption) ?rp0
          case hp0 => (intro w0 hSw; (try dsimp only at hSw); go_simp; try (with_reducible rfl))
          simp only [Act.put, List.setIfInBounds_toArray, List.set_cons_zero, List.set_cons_succ]
          refine wpAnyH_take (i := 1) (oi := { dst := some 22, op := Op.binOp BinOp.gtr 3 (Operand.tmp 21) (Operand.const (Value.int IntKind.i64 0)) 3, type := 4, pos := "reader.go:96", after := #[{ on := 0, ground := Ground.data }], guard := none }) (v := ?vp1) rfl (by kernel_rfl) (by kernel_rfl) (by kernel_rfl) (fun _ _ _ h => h) (Or.inl ⟨by rfl, ?hp1⟩) (by assumption) ?rp1
          case hp1 => (intro w0 hSw; (try dsimp only at hSw); go_simp; try (with_reducible rfl))
          simp only [Act.put, List.setIfInBounds_toArray, List.set_cons_zero, List.set_cons_succ]
          refine wpAnyH_take (i := 2) (oi := { dst := some 23, op := Op.move (Operand.tmp 22), type := 4, pos := "reader.go:96", after := #[{ on := 1, ground := Ground.data }], guard := none }) (v := ?vp2) rfl (by kernel_rfl) (by kernel_rfl) (by kernel_rfl) (fun _ _ _ h => h) (Or.inl ⟨by rfl, ?hp2⟩) (by assumption) ?rp2
          case hp2 => (intro w0 hSw; (try dsimp only at hSw); go_simp; try (with_reducible rfl))
          simp only [Act.put, List.setIfInBounds_toArray, List.set_cons_zero, List.set_cons_succ]
          refine wpAnyH_take (i := 3) (oi := { dst := some 24, op := Op.move (Operand.tmp 1), type := 119, pos := "reader.go:96", after := #[{ on := 2, ground := Ground.guard }], guard := some (2, true) }) rfl (by kernel_rfl) (by kernel_rfl) (by kernel_rfl) (fun _ _ _ h => h) (Or.inr ⟨by rfl, rfl⟩) (by assumption) ?_
          simp only [Act.put, List.setIfInBounds_toArray, List.set_cons_zero, List.set_cons_succ]
          refine wpAnyH_take (i := 4) (oi := { dst := some 25, op := Op.nilCheck (Operand.tmp 24), type := 0, pos := "reader.go:96", after := #[{ on := 3, ground := Ground.data }, { on := 2, ground := Ground.guard }], guard := some (2, true) }) rfl (by kernel_rfl) (by kernel_rfl) (by kernel_rfl) (fun _ _ _ h => h) (Or.inr ⟨by rfl, rfl⟩) (by assumption) ?_
          simp only [Act.put, List.setIfInBounds_toArray, List.set_cons_zero, List.set_cons_succ]
          refine wpAnyH_take (i := 5) (oi := { dst := some 26, op := Op.load 26 (Operand.tmp 25), type := 26, pos := "reader.go:96", after := #[{ on := 4, ground := Ground.data }, { on := 2, ground := Ground.guard }], guard := some (2, true) }) rfl (by kernel_rfl) (by kernel_rfl) (by kernel_rfl) (fun _ _ _ h => h) (Or.inr ⟨by rfl, rfl⟩) (by assumption) ?_
          simp only [Act.put, List.setIfInBounds_toArray, List.set_cons_zero, List.set_cons_succ]
          refine wpAnyH_take (i := 6) (oi := { dst := some 27, op := Op.move (Operand.tmp 5), type := 3, pos := "reader.go:96", after := #[{ on := 2, ground := Ground.guard }], guard := some (2, true) }) rfl (by kernel_rfl) (by kernel_rfl) (by kernel_rfl) (fun _ _ _ h => h) (Or.inr ⟨by rfl, rfl⟩) (by assumption) ?_
          simp only [Act.put, List.setIfInBounds_toArray, List.set_cons_zero, List.set_cons_succ]
          refine wpAnyH_take (i := 7) (oi := { dst := some 28, op := Op.binOp BinOp.sub 3 (Operand.tmp 27) (Operand.const (Value.int IntKind.i64 1)) 3, type := 3, pos := "reader.go:96", after := #[{ on := 6, ground := Ground.data }, { on := 2, ground := Ground.guard }], guard := some (2, true) }) rfl (by kernel_rfl) (by kernel_rfl) (by kernel_rfl) (fun _ _ _ h => h) (Or.inr ⟨by rfl, rfl⟩) (by assumption) ?_
          simp only [Act.put, List.setIfInBounds_toArray, List.set_cons_zero, List.set_cons_succ]
          refine wpAnyH_take (i := 8) (oi := { dst := some 29, op := Op.indexAddr 26 (Operand.tmp 26) (Operand.tmp 28), type := 0, pos := "reader.go:96", after := #[{ on := 5, ground := Ground.data }, { on := 7, ground := Ground.data }, { on := 2, ground := Ground.guard }], guard := some (2, true) }) rfl (by kernel_rfl) (by kernel_rfl) (by kernel_rfl) (fun _ _ _ h => h) (Or.inr ⟨by rfl, rfl⟩) (by assumption) ?_
          simp only [Act.put, List.setIfInBounds_toArray, List.set_cons_zero, List.set_cons_succ]
          refine wpAnyH_take (i := 9) (oi := { dst := some 30, op := Op.load 25 (Operand.tmp 29), type := 25, pos := "reader.go:96", after := #[{ on := 8, ground := Ground.data }, { on := 2, ground := Ground.guard }], guard := some (2, true) }) rfl (by kernel_rfl) (by kernel_rfl) (by kernel_rfl) (fun _ _ _ h => h) (Or.inr ⟨by rfl, rfl⟩) (by assumption) ?_
          simp only [Act.put, List.setIfInBounds_toArray, List.set_cons_zero, List.set_cons_succ]
          refine wpAnyH_take (i := 10) (oi := { dst := some 31, op := Op.load 25 (Operand.tmp 6), type := 25, pos := "reader.go:96", after := #[{ on := 2, ground := Ground.guard }], guard := some (2, true) }) rfl (by kernel_rfl) (by kernel_rfl) (by kernel_rfl) (fun _ _ _ h => h) (Or.inr ⟨by rfl, rfl⟩) (by assumption) ?_
          simp only [Act.put, List.setIfInBounds_toArray, List.set_cons_zero, List.set_cons_succ]
          refine wpAnyH_take (i := 11) (oi := { dst := some 32, op := Op.call { callee := Callee.value (Operand.func 66), args := #[Operand.tmp 30, Operand.tmp 31], argTypes := #[25, 25] }, type := 4, pos := "reader.go:96", after := #[{ on := 9, ground := Ground.data }, { on := 10, ground := Ground.data }, { on := 2, ground := Ground.chain }, { on := 2, ground := Ground.guard }], guard := some (2, true) }) rfl (by kernel_rfl) (by kernel_rfl) (by kernel_rfl) (fun _ _ _ h => h) (Or.inr ⟨by rfl, rfl⟩) (by assumption) ?_
          simp only [Act.put, List.setIfInBounds_toArray, List.set_cons_zero, List.set_cons_succ]
          refine wpAnyH_take (i := 12) (oi := { dst := some 33, op := Op.unOp UnOp.not 4 (Operand.tmp 32), type := 4, pos := "reader.go:96", after := #[{ on := 11, ground := Ground.data }, { on := 2, ground := Ground.guard }], guard := some (2, true) }) rfl (by kernel_rfl) (by kernel_rfl) (by kernel_rfl) (fun _ _ _ h => h) (Or.inr ⟨by rfl, rfl⟩) (by assumption) ?_
          simp only [Act.put, List.setIfInBounds_toArray, List.set_cons_zero, List.set_cons_succ]
          refine wpAnyH_take (i := 13) (oi := { dst := some 34, op := Op.pick (Operand.tmp 23) (Operand.tmp 33) (Operand.const (Value.bool false)), type := 4, pos := "reader.go:96", after := #[{ on := 2, ground := Ground.data }, { on := 12, ground := Ground.data }], guard := none }) (v := ?vp13) rfl (by kernel_rfl) (by kernel_rfl) (by kernel_rfl) (fun _ _ _ h => h) (Or.inl ⟨by rfl, ?hp13⟩) (by assumption) ?rp13
          case hp13 => (intro w0 hSw; (try dsimp only at hSw); go_simp; try (with_reducible rfl))
          simp only [Act.put, List.setIfInBounds_toArray, List.set_cons_zero, List.set_cons_succ]
          refine wpAnyH_done (by kernel_rfl) ?_ _
          have wi : IntKind.i64.wrap (((0 : Nat) : Int) + 1) = ((1 : Nat) : Int) := by decide
          have wi2 : IntKind.i64.wrap ((0 : Int) + 1) = 1 := by decide
          have m0 : w3.drew.cell? ⟨q, 0, none⟩ = some (.int .i64 x0) := m0
          have m1 : w3.drew.cell? ⟨q, 1, none⟩ = some (.int .i64 x1) := m1
          have m2 : w3.drew.cell? ⟨q, 2, none⟩ = some (.string x2) := m2
          have H6 := Hid.mk H3.out.1.drew
          obtain ⟨w6, hw6⟩ : ∃ w6, w6 = w3.drew := ⟨_, rfl⟩
          simp only [← hw6]
          rw [← hw6] at m0 m1 m2 H6
          clear hw6 H3
          go_wp2
          obtain ⟨v5, w5, hap, hr5, st5, loc5⟩ := hit_app1 w6.drew acc v H6.out.drew.row ⟨x0, x1, x2⟩ (by have := HI.out.2.1; omega)
          have hap : (Builtin.append_ #[26, 26] 26 #[v, .slice (some ⟨w6.heap.size, 0, none⟩) 1 1]).run Try.prog (w6.alloc (.cells #[.int .i64 x0, .int .i64 x1, .string x2] 25)).drew = .ok v5 w5 := hap
          have HBV : Hid (∀ k, v.ownBlock = some k → k ≠ hb) := fun k hk e => by subst e; obtain ⟨cur, hcur⟩ := row_block H6.out.row hk; have := H6.out.bx; rw [hcur] at this; simp [Hn.box] at this
          have H5 := Hid.mk (H6.out.drew.app hr5 st5 loc5 HBV.out)
          have nq : ¬ v.ownBlock = some q := HQ2.out
          have j0 := cstay (F := fun k => v.ownBlock = some k) st5 nq (show w6.drew.cell? _ = _ from m0)
          have j1 := cstay (F := fun k => v.ownBlock = some k) st5 nq (show w6.drew.cell? _ = _ from m1)
          have j2 := cstay (F := fun k => v.ownBlock = some k) st5 nq (show w6.drew.cell? _ = _ from m2)
          have cg : w6.cell? ⟨g, 3, none⟩ = some v := H6.out.rep.cell rfl
          have ngv : ¬ v.ownBlock = some g := fun e => by have := H6.out.own g e; have := H6.out.lg; omega
          have cg5 := cstay (F := fun k => v.ownBlock = some k) st5 ngv (show w6.drew.cell? _ = _ from cg)
          have zg5 : w5.frozen? ⟨g, 3, none⟩ = false := HC.free (HC.stay (H6.out.drew.rep) st5 ngv) 3
          have bl : Below w6.heap.size w6 (w6.alloc (.cells #[.int .i64 x0, .int .i64 x1, .string x2] 25)) := (Below.refl _ w6).alloc (Nat.le_refl _) _
          have n0 : (w6.alloc (.cells #[.int .i64 x0, .int .i64 x1, .string x2] 25)).drew.cell? ⟨q, 0, none⟩ = some (.int .i64 x0) := (show (w6.alloc (.cells #[.int .i64 x0, .int .i64 x1, .string x2] 25)).cell? _ = _ from cell_below bl m0)
          have n1 : (w6.alloc (.cells #[.int .i64 x0, .int .i64 x1, .string x2] 25)).drew.cell? ⟨q, 1, none⟩ = some (.int .i64 x1) := (show (w6.alloc (.cells #[.int .i64 x0, .int .i64 x1, .string x2] 25)).cell? _ = _ from cell_below bl m1)
          have n2 : (w6.alloc (.cells #[.int .i64 x0, .int .i64 x1, .string x2] 25)).drew.cell? ⟨q, 2, none⟩ = some (.string x2) := (show (w6.alloc (.cells #[.int .i64 x0, .int .i64 x1, .string x2] 25)).cell? _ = _ from cell_below bl m2)
          have cgA : (w6.alloc (.cells #[.int .i64 x0, .int .i64 x1, .string x2] 25)).drew.cell? ⟨g, 3, none⟩ = some v := (show (w6.alloc (.cells #[.int .i64 x0, .int .i64 x1, .string x2] 25)).cell? _ = _ from cell_below bl cg)
          have nqg : q ≠ g := by have := H6.out.lg; have := HQ3.out; omega
          have i0 : (w5.setCell ⟨g, 3, none⟩ v5).cell? ⟨q, 0, none⟩ = some (.int .i64 x0) := (World.cell?_setCell_far w5 ⟨g, 3, none⟩ ⟨q, 0, none⟩ v5 (fun e => nqg e.symm)).trans j0
          have i1 : (w5.setCell ⟨g, 3, none⟩ v5).cell? ⟨q, 1, none⟩ = some (.int .i64 x1) := (World.cell?_setCell_far w5 ⟨g, 3, none⟩ ⟨q, 1, none⟩ v5 (fun e => nqg e.symm)).trans j1
          have i2 : (w5.setCell ⟨g, 3, none⟩ v5).cell? ⟨q, 2, none⟩ = some (.string x2) := (World.cell?_setCell_far w5 ⟨g, 3, none⟩ ⟨q, 2, none⟩ v5 (fun e => nqg e.symm)).trans j2
          obtain ⟨av, cv, hav, -⟩ := slice_form H6.out.row
          obtain ⟨av5, cv5, hav5, -⟩ := slice_form hr5
          have HAV := Hid.mk hav
          have HAV5 := Hid.mk hav5
          obtain ⟨na, hna⟩ : ∃ na, na = acc.length := ⟨_, rfl⟩
          obtain ⟨nb, hnb⟩ : ∃ nb, nb = (acc ++ [(⟨x0, x1, x2⟩ : Ht)]).length := ⟨_, rfl⟩
          rw [← hna] at hav
          rw [← hnb] at hav5
          rw [hav] at cg cgA cg5 hap
          rw [hav5] at hap i0 i1 i2 H5
          clear hna hnb hav hav5 hr5 st5 loc5 bl
          refine wp_region_held_drew (S := fun w' => w'.cell? ⟨q, 0, none⟩ = some (.int .i64 x0) ∧ w'.cell? ⟨q, 1, none⟩ = some (.int .i64 x1) ∧ w'.cell? ⟨q, 2, none⟩ = some (.string x2)) (by kernel_rfl) ?_ (fun hHeld => ?_)
          · exact ⟨m0, m1, m2⟩
          refine wpAnyH_take (i := 0) (oi := { dst := some 37, op := Op.move (Operand.tmp 1), type := 119, pos := "reader.go:100", after := #[], guard := none }) (v := ?vq0) rfl (by kernel_rfl) (by kernel_rfl) (by kernel_rfl) (fun _ _ _ h => h) (Or.inl ⟨by rfl, ?hq0⟩) (by assumption) ?rq0
          case hq0 => (intro w0 hSw; (try dsimp only at hSw); go_simp; try (with_reducible rfl))
          simp only [Act.put, List.setIfInBounds_toArray, List.set_cons_zero, List.set_cons_succ]
          refine wpAnyH_take (i := 1) (oi := { dst := some 38, op := Op.move (Operand.tmp 1), type := 119, pos := "reader.go:100", after := #[], guard := none }) (v := ?vq1) rfl (by kernel_rfl) (by kernel_rfl) (by kernel_rfl) (fun _ _ _ h => h) (Or.inl ⟨by rfl, ?hq1⟩) (by assumption) ?rq1
          case hq1 => (intro w0 hSw; (try dsimp only at hSw); go_simp; try (with_reducible rfl))
          simp only [Act.put, List.setIfInBounds_toArray, List.set_cons_zero, List.set_cons_succ]
          refine wpAnyH_take (i := 2) (oi := { dst := some 39, op := Op.nilCheck (Operand.tmp 38), type := 0, pos := "reader.go:100", after := #[{ on := 1, ground := Ground.data }], guard := none }) (v := ?vq2) rfl (by kernel_rfl) (by kernel_rfl) (by kernel_rfl) (fun _ _ _ h => h) (Or.inl ⟨by rfl, ?hq2⟩) (by assumption) ?rq2
          case hq2 => (intro w0 hSw; (try dsimp only at hSw); go_simp; try (with_reducible rfl))
          simp only [Act.put, List.setIfInBounds_toArray, List.set_cons_zero, List.set_cons_succ]
          refine wpAnyH_take (i := 4) (oi := { dst := some 41, op := Op.load 25 (Operand.tmp 6), type := 25, pos := "reader.go:100", after := #[], guard := none }) (v := ?vq4) rfl (by kernel_rfl) (by kernel_rfl) (by kernel_rfl) (fun _ _ _ h => h) (Or.inl ⟨by rfl, ?hq4⟩) (by assumption) ?rq4
          case hq4 => (intro w0 hSw; (try dsimp only at hSw); go_simp; try (with_reducible rfl))
          simp only [Act.put, List.setIfInBounds_toArray, List.set_cons_zero, List.set_cons_succ]
          refine wpAnyH_ready (rs := [3, 5]) (by kernel_rfl) (by simp) ?_
          refine AllReadyH.cons rfl (fun K hK => ?_) (AllReadyH.cons rfl (fun K hK => ?_) AllReadyH.nil)
          · go_simp
            go_wp2_with (fail)
            refine hK.out _ _ ?_ (fun hHeld => ?_)
            · exact ⟨m0, m1, m2⟩
            clear hK K
            refine wpAnyH_ready (rs := [5]) (by kernel_rfl) (by simp) ?_
            refine AllReadyH.cons rfl (fun K hK => ?_) AllReadyH.nil
            go_simp
            go_wp2_with (fail)
            refine hK.out _ _ ?_ (fun hHeld => ?_)
            · exact ⟨n0, n1, n2⟩
            clear hK K
            refine wpAnyH_ready (rs := [6]) (by kernel_rfl) (by simp) ?_
            refine AllReadyH.cons rfl (fun K hK => ?_) AllReadyH.nil
            rw [if_pos (by rfl)]
            refine oper_append_eq _ _ _ _ rfl _ _ _ _ rfl rfl hap ?_
            go_simp
            refine hK.out _ _ ?_ (fun hHeld => ?_)
            · exact ⟨j0, j1, j2⟩
            clear hK K
            refine wpAnyH_take (i := 7) (oi := { dst := some 44, op := Op.nilCheck (Operand.tmp 37), type := 0, pos := "reader.go:100", after := #[{ on := 0, ground := Ground.data }, { on := 0, ground := Ground.phase }, { on := 1, ground := Ground.phase }, { on := 2, ground := Ground.phase }, { on := 3, ground := Ground.phase }, { on := 4, ground := Ground.phase }, { on := 5, ground := Ground.phase }, { on := 6, ground := Ground.phase }], guard := none }) (v := ?vqqa7) rfl (by kernel_rfl) (by kernel_rfl) (by kernel_rfl) (fun _ _ _ h => h) (Or.inl ⟨by rfl, ?hqqa7⟩) (by assumption) ?rqqa7
            case hqqa7 => (intro w0 hSw; (try dsimp only at hSw); go_simp; try (with_reducible rfl))
            simp only [Act.put, List.setIfInBounds_toArray, List.set_cons_zero, List.set_cons_succ]
            refine wpAnyH_ready (rs := [8]) (by kernel_rfl) (by simp) ?_
            refine AllReadyH.cons rfl (fun K hK => ?_) AllReadyH.nil
            go_simp
            go_wp2_with (fail)
            refine hK.out _ _ ?_ (fun hHeld => ?_)
            · exact ⟨i0, i1, i2⟩
            clear hK K
            refine wpAnyH_done (by kernel_rfl) ?_ _
            go_wp2
            exact ⟨⟨1, _, _, _, rfl, by omega, Hid.mk ⟨H5.out, by simp [HI.out.2.1], HN1.out.symm⟩⟩, by simp only [intOf]; omega⟩
          · go_simp
            go_wp2_with (fail)
            refine hK.out _ _ ?_ (fun hHeld => ?_)
            · exact ⟨n0, n1, n2⟩
            clear hK K
            refine wpAnyH_ready (rs := [3]) (by kernel_rfl) (by simp) ?_
            refine AllReadyH.cons rfl (fun K hK => ?_) AllReadyH.nil
            go_simp
            go_wp2_with (fail)
            refine hK.out _ _ ?_ (fun hHeld => ?_)
            · exact ⟨n0, n1, n2⟩
            clear hK K
            refine wpAnyH_ready (rs := [6]) (by kernel_rfl) (by simp) ?_
            refine AllReadyH.cons rfl (fun K hK => ?_) AllReadyH.nil
            rw [if_pos (by rfl)]
            refine oper_append_eq _ _ _ _ rfl _ _ _ _ rfl rfl hap ?_
            go_simp
            refine hK.out _ _ ?_ (fun hHeld => ?_)
            · exact ⟨j0, j1, j2⟩
            clear hK K
            refine wpAnyH_take (i := 7) (oi := { dst := some 44, op := Op.nilCheck (Operand.tmp 37), type := 0, pos := "reader.go:100", after := #[{ on := 0, ground := Ground.data }, { on := 0, ground := Ground.phase }, { on := 1, ground := Ground.phase }, { on := 2, ground := Ground.phase }, { on := 3, ground := Ground.phase }, { on := 4, ground := Ground.phase }, { on := 5, ground := Ground.phase }, { on := 6, ground := Ground.phase }], guard := none }) (v := ?vqqb7) rfl (by kernel_rfl) (by kernel_rfl) (by kernel_rfl) (fun _ _ _ h => h) (Or.inl ⟨by rfl, ?hqqb7⟩) (by assumption) ?rqqb7
            case hqqb7 => (intro w0 hSw; (try dsimp only at hSw); go_simp; try (with_reducible rfl))
            simp only [Act.put, List.setIfInBounds_toArray, List.set_cons_zero, List.set_cons_succ]
            refine wpAnyH_ready (rs := [8]) (by kernel_rfl) (by simp) ?_
            refine AllReadyH.cons rfl (fun K hK => ?_) AllReadyH.nil
            go_simp
            go_wp2_with (fail)
            refine hK.out _ _ ?_ (fun hHeld => ?_)
            · exact ⟨i0, i1, i2⟩
            clear hK K
            refine wpAnyH_done (by kernel_rfl) ?_ _
            go_wp2
            exact ⟨⟨1, _, _, _, rfl, by omega, Hid.mk ⟨H5.out, by simp [HI.out.2.1], HN1.out.symm⟩⟩, by simp only [intOf]; omega⟩
        · obtain ⟨j, hj⟩ : ∃ j, i = j + 1 := ⟨i - 1, by omega⟩
          have hjl : j < acc.length := by rw [HI.out.2.1]; omega
          obtain ⟨gr, capr, hv, r0, r1, r2⟩ := H3.out.1.row.cells j hjl
          obtain ⟨pt, hpt⟩ : ∃ pt, pt = acc[j] := ⟨_, rfl⟩
          rw [← hpt] at r0 r1 r2
          have hlast : acc.getLast? = some pt := by
            rw [List.getLast?_eq_getElem?, HI.out.2.1, hj, Nat.add_sub_cancel, List.getElem?_eq_getElem hjl, hpt]
          have hfl := fun W => follows_any pt ⟨x0, x1, x2⟩ W
          obtain ⟨fb, hfb⟩ : ∃ fb, fb = flB pt ⟨x0, x1, x2⟩ := ⟨_, rfl⟩
          rw [← hfb] at hfl
          have HST3 := Hid.mk (show S = (if fb = true then rdL b (n - (i + 1)) (acc ++ [⟨x0, x1, x2⟩]) (p2, 0) else (acc, (p2, 50))) from by
            have := HST2.out
            rw [hlast] at this
            unfold okP at this
            simp only [← hfb] at this
            exact this)
          have HV := Hid.mk hv
          have c3 : w3.cell? ⟨g, 3, none⟩ = some (.slice (some ⟨gr, 0, none⟩) i capr) := by
            have := H3.out.1.rep.cell (o := 3) (v := v) rfl
            rw [this, hv, HI.out.2.1]
          have i1 : (0 : Int) < (i : Int) := by omega
          have i1n : 0 < i := by omega
          have j0' : 0 ≤ (j : Int) := by omega
          have jn : (j : Int) < (i : Int) := by omega
          have qq : Hid (IntKind.i64.wrap ((i : Int) - 1) = (j : Int) ∧ wrap64 ((i : Int) - 1) = (j : Int)) := ⟨i64_eq (by omega) (by omega), w64_eq (by omega) (by omega)⟩
          have wi : Hid (IntKind.i64.wrap ((i : Int) + 1) = ((i + 1 : Nat) : Int)) := i64_in _ (by omega) (by omega)
          obtain ⟨a1, a2⟩ := qq.out
          obtain ⟨d0, d1, d2⟩ := pt
          simp only [htV] at hfl r0 r1 r2
          clear hpt hfb hlast hjl hj hi0 qq HST2 hv
          refine wp_region_held_drew (S := fun w' => w'.cell? ⟨g, 3, none⟩ = some (.slice (some ⟨gr, 0, none⟩) i capr) ∧ w'.cell? ⟨gr, j * 3, none⟩ = some (.int .i64 d0) ∧ w'.cell? ⟨gr, j * 3 + 1, none⟩ = some (.int .i64 d1) ∧ w'.cell? ⟨gr, j * 3 + 2, none⟩ = some (.string d2) ∧ w'.cell? ⟨q, 0, none⟩ = some (.int .i64 x0) ∧ w'.cell? ⟨q, 1, none⟩ = some (.int .i64 x1) ∧ w'.cell? ⟨q, 2, none⟩ = some (.string x2)) (by kernel_rfl) ?_ (fun hHeld => ?_)
          · exact ⟨c3, r0, r1, r2, m0, m1, m2⟩
          refine wpAnyH_take (i := 0) (oi := { dst := some 21, op := Op.move (Operand.tmp 5), type := 3, pos := "reader.go:96", after := #[], guard := none }) (v := ?vu0) rfl (by kernel_rfl) (by kernel_rfl) (by kernel_rfl) (fun _ _ _ h => h) (Or.inl ⟨by rfl, ?hu0⟩) (by assumption) ?ru0
          case hu0 => (intro w0 hSw; (try dsimp only at hSw); go_simp; try (with_reducible rfl))
          simp only [Act.put, List.setIfInBounds_toArray, List.set_cons_zero, List.set_cons_succ]
          refine wpAnyH_take (i := 1) (oi := { dst := some 22, op := Op.binOp BinOp.gtr 3 (Operand.tmp 21) (Operand.const (Value.int IntKind.i64 0)) 3, type := 4, pos := "reader.go:96", after := #[{ on := 0, ground := Ground.data }], guard := none }) (v := ?vu1) rfl (by kernel_rfl) (by kernel_rfl) (by kernel_rfl) (fun _ _ _ h => h) (Or.inl ⟨by rfl, ?hu1⟩) (by assumption) ?ru1
          case hu1 => (intro w0 hSw; (try dsimp only at hSw); go_simp; try (with_reducible rfl))
          simp only [Act.put, List.setIfInBounds_toArray, List.set_cons_zero, List.set_cons_succ]
          refine wpAnyH_take (i := 2) (oi := { dst := some 23, op := Op.move (Operand.tmp 22), type := 4, pos := "reader.go:96", after := #[{ on := 1, ground := Ground.data }], guard := none }) (v := ?vu2) rfl (by kernel_rfl) (by kernel_rfl) (by kernel_rfl) (fun _ _ _ h => h) (Or.inl ⟨by rfl, ?hu2⟩) (by assumption) ?ru2
          case hu2 => (intro w0 hSw; (try dsimp only at hSw); go_simp; try (with_reducible rfl))
          simp only [Act.put, List.setIfInBounds_toArray, List.set_cons_zero, List.set_cons_succ]
          refine wpAnyH_take (i := 3) (oi := { dst := some 24, op := Op.move (Operand.tmp 1), type := 119, pos := "reader.go:96", after := #[{ on := 2, ground := Ground.guard }], guard := some (2, true) }) (v := ?vu3) rfl (by kernel_rfl) (by kernel_rfl) (by kernel_rfl) (fun _ _ _ h => h) (Or.inl ⟨by rfl, ?hu3⟩) (by assumption) ?ru3
          case hu3 => (intro w0 hSw; (try dsimp only at hSw); go_simp; try (with_reducible rfl))
          simp only [Act.put, List.setIfInBounds_toArray, List.set_cons_zero, List.set_cons_succ]
          refine wpAnyH_take (i := 4) (oi := { dst := some 25, op := Op.nilCheck (Operand.tmp 24), type := 0, pos := "reader.go:96", after := #[{ on := 3, ground := Ground.data }, { on := 2, ground := Ground.guard }], guard := some (2, true) }) (v := ?vu4) rfl (by kernel_rfl) (by kernel_rfl) (by kernel_rfl) (fun _ _ _ h => h) (Or.inl ⟨by rfl, ?hu4⟩) (by assumption) ?ru4
          case hu4 => (intro w0 hSw; (try dsimp only at hSw); go_simp; try (with_reducible rfl))
          simp only [Act.put, List.setIfInBounds_toArray, List.set_cons_zero, List.set_cons_succ]
          refine wpAnyH_take (i := 5) (oi := { dst := some 26, op := Op.load 26 (Operand.tmp 25), type := 26, pos := "reader.go:96", after := #[{ on := 4, ground := Ground.data }, { on := 2, ground := Ground.guard }], guard := some (2, true) }) (v := ?vu5) rfl (by kernel_rfl) (by kernel_rfl) (by kernel_rfl) (fun _ _ _ h => h) (Or.inl ⟨by rfl, ?hu5⟩) (by assumption) ?ru5
          case hu5 => (intro w0 hSw; (try dsimp only at hSw); go_simp; try (with_reducible rfl))
          simp only [Act.put, List.setIfInBounds_toArray, List.set_cons_zero, List.set_cons_succ]
          refine wpAnyH_take (i := 6) (oi := { dst := some 27, op := Op.move (Operand.tmp 5), type := 3, pos := "reader.go:96", after := #[{ on := 2, ground := Ground.guard }], guard := some (2, true) }) (v := ?vu6) rfl (by kernel_rfl) (by kernel_rfl) (by kernel_rfl) (fun _ _ _ h => h) (Or.inl ⟨by rfl, ?hu6⟩) (by assumption) ?ru6
          case hu6 => (intro w0 hSw; (try dsimp only at hSw); go_simp; try (with_reducible rfl))
          simp only [Act.put, List.setIfInBounds_toArray, List.set_cons_zero, List.set_cons_succ]
          refine wpAnyH_take (i := 7) (oi := { dst := some 28, op := Op.binOp BinOp.sub 3 (Operand.tmp 27) (Operand.const (Value.int IntKind.i64 1)) 3, type := 3, pos := "reader.go:96", after := #[{ on := 6, ground := Ground.data }, { on := 2, ground := Ground.guard }], guard := some (2, true) }) (v := ?vu7) rfl (by kernel_rfl) (by kernel_rfl) (by kernel_rfl) (fun _ _ _ h => h) (Or.inl ⟨by rfl, ?hu7⟩) (by assumption) ?ru7
          case hu7 => (intro w0 hSw; (try dsimp only at hSw); go_simp; try (with_reducible rfl))
          simp only [Act.put, List.setIfInBounds_toArray, List.set_cons_zero, List.set_cons_succ]
          refine wpAnyH_take (i := 8) (oi := { dst := some 29, op := Op.indexAddr 26 (Operand.tmp 26) (Operand.tmp 28), type := 0, pos := "reader.go:96", after := #[{ on := 5, ground := Ground.data }, { on := 7, ground := Ground.data }, { on := 2, ground := Ground.guard }], guard := some (2, true) }) (v := ?vu8) rfl (by kernel_rfl) (by kernel_rfl) (by kernel_rfl) (fun _ _ _ h => h) (Or.inl ⟨by rfl, ?hu8⟩) (by assumption) ?ru8
          case hu8 => (intro w0 hSw; (try dsimp only at hSw); go_simp; try (with_reducible rfl))
          simp only [Act.put, List.setIfInBounds_toArray, List.set_cons_zero, List.set_cons_succ]
          refine wpAnyH_take (i := 9) (oi := { dst := some 30, op := Op.load 25 (Operand.tmp 29), type := 25, pos := "reader.go:96", after := #[{ on := 8, ground := Ground.data }, { on := 2, ground := Ground.guard }], guard := some (2, true) }) (v := ?vu9) rfl (by kernel_rfl) (by kernel_rfl) (by kernel_rfl) (fun _ _ _ h => h) (Or.inl ⟨by rfl, ?hu9⟩) (by assumption) ?ru9
          case hu9 => (intro w0 hSw; (try dsimp only at hSw); go_simp; try (with_reducible rfl))
          simp only [Act.put, List.setIfInBounds_toArray, List.set_cons_zero, List.set_cons_succ]
          refine wpAnyH_take (i := 10) (oi := { dst := some 31, op := Op.load 25 (Operand.tmp 6), type := 25, pos := "reader.go:96", after := #[{ on := 2, ground := Ground.guard }], guard := some (2, true) }) (v := ?vu10) rfl (by kernel_rfl) (by kernel_rfl) (by kernel_rfl) (fun _ _ _ h => h) (Or.inl ⟨by rfl, ?hu10⟩) (by assumption) ?ru10
          case hu10 => (intro w0 hSw; (try dsimp only at hSw); go_simp; try (with_reducible rfl))
          simp only [Act.put, List.setIfInBounds_toArray, List.set_cons_zero, List.set_cons_succ]
          refine wpAnyH_ready (rs := [11]) (by kernel_rfl) (by simp) ?_
          refine AllReadyH.cons rfl (fun K hK => ?_) AllReadyH.nil
          go_simp
          go_wp2_with (go_at_call 66; refine (hfl _).mono ?_; clear hfl; rintro e w6 ⟨rfl, b6⟩; have H6 := Hid.mk (H3.out.1.drew.below b6); have c3 := cell_below b6 c3; have r0 := cell_below b6 r0; have r1 := cell_below b6 r1; have r2 := cell_below b6 r2; have m0 := cell_below b6 m0; have m1 := cell_below b6 m1; have m2 := cell_below b6 m2; clear b6)
          refine hK.out _ _ ?_ (fun hHeld => ?_)
          · exact ⟨c3, r0, r1, r2, m0, m1, m2⟩
          clear hK K
          refine wpAnyH_take (i := 12) (oi := { dst := some 33, op := Op.unOp UnOp.not 4 (Operand.tmp 32), type := 4, pos := "reader.go:96", after := #[{ on := 11, ground := Ground.data }, { on := 2, ground := Ground.guard }], guard := some (2, true) }) (v := ?vu12) rfl (by kernel_rfl) (by kernel_rfl) (by kernel_rfl) (fun _ _ _ h => h) (Or.inl ⟨by rfl, ?hu12⟩) (by assumption) ?ru12
          case hu12 => (intro w0 hSw; (try dsimp only at hSw); go_simp; try (with_reducible rfl))
          simp only [Act.put, List.setIfInBounds_toArray, List.set_cons_zero, List.set_cons_succ]
          refine wpAnyH_take (i := 13) (oi := { dst := some 34, op := Op.pick (Operand.tmp 23) (Operand.tmp 33) (Operand.const (Value.bool false)), type := 4, pos := "reader.go:96", after := #[{ on := 2, ground := Ground.data }, { on := 12, ground := Ground.data }], guard := none }) (v := ?vu13) rfl (by kernel_rfl) (by kernel_rfl) (by kernel_rfl) (fun _ _ _ h => h) (Or.inl ⟨by rfl, ?hu13⟩) (by assumption) ?ru13
          case hu13 => (intro w0 hSw; (try dsimp only at hSw); go_simp; try (with_reducible rfl))
          simp only [Act.put, List.setIfInBounds_toArray, List.set_cons_zero, List.set_cons_succ]
          refine wpAnyH_done (by kernel_rfl) ?_ _
          clear hHeld
          clear hHeld
          clear a1 a2 r0 r1 r2 c3 i1 i1n j0' jn
          clear r0 r1 r2 c3
          cases fb with
          | true =>
            have HN1 : Hid (S = rdL b (n - (i + 1)) (acc ++ [⟨x0, x1, x2⟩]) (p2, 0)) := by have := HST3.out; rw [if_pos rfl] at this; exact this
            clear HST3 HV
            go_wp2
            obtain ⟨v5, w5, hap, hr5, st5, loc5⟩ := hit_app1 w6.drew acc v H6.out.drew.row ⟨x0, x1, x2⟩ (by have := HI.out.2.1; omega)
            have hap : (Builtin.append_ #[26, 26] 26 #[v, .slice (some ⟨w6.heap.size, 0, none⟩) 1 1]).run Try.prog (w6.alloc (.cells #[.int .i64 x0, .int .i64 x1, .string x2] 25)).drew = .ok v5 w5 := hap
            have HBV : Hid (∀ k, v.ownBlock = some k → k ≠ hb) := fun k hk e => by subst e; obtain ⟨cur, hcur⟩ := row_block H6.out.row hk; have := H6.out.bx; rw [hcur] at this; simp [Hn.box] at this
            have H5 := Hid.mk (H6.out.drew.app hr5 st5 loc5 HBV.out)
            have nq : ¬ v.ownBlock = some q := HQ2.out
            have j0 := cstay (F := fun k => v.ownBlock = some k) st5 nq (show w6.drew.cell? _ = _ from m0)
            have j1 := cstay (F := fun k => v.ownBlock = some k) st5 nq (show w6.drew.cell? _ = _ from m1)
            have j2 := cstay (F := fun k => v.ownBlock = some k) st5 nq (show w6.drew.cell? _ = _ from m2)
            have cg : w6.cell? ⟨g, 3, none⟩ = some v := H6.out.rep.cell rfl
            have ngv : ¬ v.ownBlock = some g := fun e => by have := H6.out.own g e; have := H6.out.lg; omega
            have cg5 := cstay (F := fun k => v.ownBlock = some k) st5 ngv (show w6.drew.cell? _ = _ from cg)
            have zg5 : w5.frozen? ⟨g, 3, none⟩ = false := HC.free (HC.stay (H6.out.drew.rep) st5 ngv) 3
            have bl : Below w6.heap.size w6 (w6.alloc (.cells #[.int .i64 x0, .int .i64 x1, .string x2] 25)) := (Below.refl _ w6).alloc (Nat.le_refl _) _
            have n0 : (w6.alloc (.cells #[.int .i64 x0, .int .i64 x1, .string x2] 25)).drew.cell? ⟨q, 0, none⟩ = some (.int .i64 x0) := (show (w6.alloc (.cells #[.int .i64 x0, .int .i64 x1, .string x2] 25)).cell? _ = _ from cell_below bl m0)
            have n1 : (w6.alloc (.cells #[.int .i64 x0, .int .i64 x1, .string x2] 25)).drew.cell? ⟨q, 1, none⟩ = some (.int .i64 x1) := (show (w6.alloc (.cells #[.int .i64 x0, .int .i64 x1, .string x2] 25)).cell? _ = _ from cell_below bl m1)
            have n2 : (w6.alloc (.cells #[.int .i64 x0, .int .i64 x1, .string x2] 25)).drew.cell? ⟨q, 2, none⟩ = some (.string x2) := (show (w6.alloc (.cells #[.int .i64 x0, .int .i64 x1, .string x2] 25)).cell? _ = _ from cell_below bl m2)
            have cgA : (w6.alloc (.cells #[.int .i64 x0, .int .i64 x1, .string x2] 25)).drew.cell? ⟨g, 3, none⟩ = some v := (show (w6.alloc (.cells #[.int .i64 x0, .int .i64 x1, .string x2] 25)).cell? _ = _ from cell_below bl cg)
            have nqg : q ≠ g := by have := H6.out.lg; have := HQ3.out; omega
            have i0 : (w5.setCell ⟨g, 3, none⟩ v5).cell? ⟨q, 0, none⟩ = some (.int .i64 x0) := (World.cell?_setCell_far w5 ⟨g, 3, none⟩ ⟨q, 0, none⟩ v5 (fun e => nqg e.symm)).trans j0
            have i1 : (w5.setCell ⟨g, 3, none⟩ v5).cell? ⟨q, 1, none⟩ = some (.int .i64 x1) := (World.cell?_setCell_far w5 ⟨g, 3, none⟩ ⟨q, 1, none⟩ v5 (fun e => nqg e.symm)).trans j1
            have i2 : (w5.setCell ⟨g, 3, none⟩ v5).cell? ⟨q, 2, none⟩ = some (.string x2) := (World.cell?_setCell_far w5 ⟨g, 3, none⟩ ⟨q, 2, none⟩ v5 (fun e => nqg e.symm)).trans j2
            obtain ⟨av, cv, hav, -⟩ := slice_form H6.out.row
            obtain ⟨av5, cv5, hav5, -⟩ := slice_form hr5
            have HAV := Hid.mk hav
            have HAV5 := Hid.mk hav5
            obtain ⟨na, hna⟩ : ∃ na, na = acc.length := ⟨_, rfl⟩
            obtain ⟨nb, hnb⟩ : ∃ nb, nb = (acc ++ [(⟨x0, x1, x2⟩ : Ht)]).length := ⟨_, rfl⟩
            rw [← hna] at hav
            rw [← hnb] at hav5
            rw [hav] at cg cgA cg5 hap
            rw [hav5] at hap i0 i1 i2 H5
            clear hna hnb hav hav5 hr5 st5 loc5 bl
            refine wp_region_held_drew (S := fun w' => w'.cell? ⟨q, 0, none⟩ = some (.int .i64 x0) ∧ w'.cell? ⟨q, 1, none⟩ = some (.int .i64 x1) ∧ w'.cell? ⟨q, 2, none⟩ = some (.string x2)) (by kernel_rfl) ?_ (fun hHeld => ?_)
            · exact ⟨m0, m1, m2⟩
            refine wpAnyH_take (i := 0) (oi := { dst := some 37, op := Op.move (Operand.tmp 1), type := 119, pos := "reader.go:100", after := #[], guard := none }) (v := ?vz0) rfl (by kernel_rfl) (by kernel_rfl) (by kernel_rfl) (fun _ _ _ h => h) (Or.inl ⟨by rfl, ?hz0⟩) (by assumption) ?rz0
            case hz0 => (intro w0 hSw; (try dsimp only at hSw); go_simp; try (with_reducible rfl))
            simp only [Act.put, List.setIfInBounds_toArray, List.set_cons_zero, List.set_cons_succ]
            refine wpAnyH_take (i := 1) (oi := { dst := some 38, op := Op.move (Operand.tmp 1), type := 119, pos := "reader.go:100", after := #[], guard := none }) (v := ?vz1) rfl (by kernel_rfl) (by kernel_rfl) (by kernel_rfl) (fun _ _ _ h => h) (Or.inl ⟨by rfl, ?hz1⟩) (by assumption) ?rz1
            case hz1 => (intro w0 hSw; (try dsimp only at hSw); go_simp; try (with_reducible rfl))
            simp only [Act.put, List.setIfInBounds_toArray, List.set_cons_zero, List.set_cons_succ]
            refine wpAnyH_take (i := 2) (oi := { dst := some 39, op := Op.nilCheck (Operand.tmp 38), type := 0, pos := "reader.go:100", after := #[{ on := 1, ground := Ground.data }], guard := none }) (v := ?vz2) rfl (by kernel_rfl) (by kernel_rfl) (by kernel_rfl) (fun _ _ _ h => h) (Or.inl ⟨by rfl, ?hz2⟩) (by assumption) ?rz2
            case hz2 => (intro w0 hSw; (try dsimp only at hSw); go_simp; try (with_reducible rfl))
            simp only [Act.put, List.setIfInBounds_toArray, List.set_cons_zero, List.set_cons_succ]
            refine wpAnyH_take (i := 4) (oi := { dst := some 41, op := Op.load 25 (Operand.tmp 6), type := 25, pos := "reader.go:100", after := #[], guard := none }) (v := ?vz4) rfl (by kernel_rfl) (by kernel_rfl) (by kernel_rfl) (fun _ _ _ h => h) (Or.inl ⟨by rfl, ?hz4⟩) (by assumption) ?rz4
            case hz4 => (intro w0 hSw; (try dsimp only at hSw); go_simp; try (with_reducible rfl))
            simp only [Act.put, List.setIfInBounds_toArray, List.set_cons_zero, List.set_cons_succ]
            refine wpAnyH_ready (rs := [3, 5]) (by kernel_rfl) (by simp) ?_
            refine AllReadyH.cons rfl (fun K hK => ?_) (AllReadyH.cons rfl (fun K hK => ?_) AllReadyH.nil)
            · go_simp
              go_wp2_with (fail)
              refine hK.out _ _ ?_ (fun hHeld => ?_)
              · exact ⟨m0, m1, m2⟩
              clear hK K
              refine wpAnyH_ready (rs := [5]) (by kernel_rfl) (by simp) ?_
              refine AllReadyH.cons rfl (fun K hK => ?_) AllReadyH.nil
              go_simp
              go_wp2_with (fail)
              refine hK.out _ _ ?_ (fun hHeld => ?_)
              · exact ⟨n0, n1, n2⟩
              clear hK K
              refine wpAnyH_ready (rs := [6]) (by kernel_rfl) (by simp) ?_
              refine AllReadyH.cons rfl (fun K hK => ?_) AllReadyH.nil
              rw [if_pos (by rfl)]
              refine oper_append_eq _ _ _ _ rfl _ _ _ _ rfl rfl hap ?_
              go_simp
              refine hK.out _ _ ?_ (fun hHeld => ?_)
              · exact ⟨j0, j1, j2⟩
              clear hK K
              refine wpAnyH_take (i := 7) (oi := { dst := some 44, op := Op.nilCheck (Operand.tmp 37), type := 0, pos := "reader.go:100", after := #[{ on := 0, ground := Ground.data }, { on := 0, ground := Ground.phase }, { on := 1, ground := Ground.phase }, { on := 2, ground := Ground.phase }, { on := 3, ground := Ground.phase }, { on := 4, ground := Ground.phase }, { on := 5, ground := Ground.phase }, { on := 6, ground := Ground.phase }], guard := none }) (v := ?vzza7) rfl (by kernel_rfl) (by kernel_rfl) (by kernel_rfl) (fun _ _ _ h => h) (Or.inl ⟨by rfl, ?hzza7⟩) (by assumption) ?rzza7
              case hzza7 => (intro w0 hSw; (try dsimp only at hSw); go_simp; try (with_reducible rfl))
              simp only [Act.put, List.setIfInBounds_toArray, List.set_cons_zero, List.set_cons_succ]
              refine wpAnyH_ready (rs := [8]) (by kernel_rfl) (by simp) ?_
              refine AllReadyH.cons rfl (fun K hK => ?_) AllReadyH.nil
              go_simp
              go_wp2_with (fail)
              refine hK.out _ _ ?_ (fun hHeld => ?_)
              · exact ⟨i0, i1, i2⟩
              clear hK K
              refine wpAnyH_done (by kernel_rfl) ?_ _
              have hwi := wi.out
              go_wp2
              clear hwi; exact ⟨⟨i + 1, _, _, _, rfl, by omega, Hid.mk ⟨H5.out, by simp [HI.out.2.1], HN1.out.symm⟩⟩, by simp only [intOf]; omega⟩
            · go_simp
              go_wp2_with (fail)
              refine hK.out _ _ ?_ (fun hHeld => ?_)
              · exact ⟨n0, n1, n2⟩
              clear hK K
              refine wpAnyH_ready (rs := [3]) (by kernel_rfl) (by simp) ?_
              refine AllReadyH.cons rfl (fun K hK => ?_) AllReadyH.nil
              go_simp
              go_wp2_with (fail)
              refine hK.out _ _ ?_ (fun hHeld => ?_)
              · exact ⟨n0, n1, n2⟩
              clear hK K
              refine wpAnyH_ready (rs := [6]) (by kernel_rfl) (by simp) ?_
              refine AllReadyH.cons rfl (fun K hK => ?_) AllReadyH.nil
              rw [if_pos (by rfl)]
              refine oper_append_eq _ _ _ _ rfl _ _ _ _ rfl rfl hap ?_
              go_simp
              refine hK.out _ _ ?_ (fun hHeld => ?_)
              · exact ⟨j0, j1, j2⟩
              clear hK K
              refine wpAnyH_take (i := 7) (oi := { dst := some 44, op := Op.nilCheck (Operand.tmp 37), type := 0, pos := "reader.go:100", after := #[{ on := 0, ground := Ground.data }, { on := 0, ground := Ground.phase }, { on := 1, ground := Ground.phase }, { on := 2, ground := Ground.phase }, { on := 3, ground := Ground.phase }, { on := 4, ground := Ground.phase }, { on := 5, ground := Ground.phase }, { on := 6, ground := Ground.phase }], guard := none }) (v := ?vzzb7) rfl (by kernel_rfl) (by kernel_rfl) (by kernel_rfl) (fun _ _ _ h => h) (Or.inl ⟨by rfl, ?hzzb7⟩) (by assumption) ?rzzb7
              case hzzb7 => (intro w0 hSw; (try dsimp only at hSw); go_simp; try (with_reducible rfl))
              simp only [Act.put, List.setIfInBounds_toArray, List.set_cons_zero, List.set_cons_succ]
              refine wpAnyH_ready (rs := [8]) (by kernel_rfl) (by simp) ?_
              refine AllReadyH.cons rfl (fun K hK => ?_) AllReadyH.nil
              go_simp
              go_wp2_with (fail)
              refine hK.out _ _ ?_ (fun hHeld => ?_)
              · exact ⟨i0, i1, i2⟩
              clear hK K
              refine wpAnyH_done (by kernel_rfl) ?_ _
              have hwi := wi.out
              go_wp2
              clear hwi; exact ⟨⟨i + 1, _, _, _, rfl, by omega, Hid.mk ⟨H5.out, by simp [HI.out.2.1], HN1.out.symm⟩⟩, by simp only [intOf]; omega⟩
          | false =>
            have HN2 : Hid (S = (acc, (p2, 50))) := by have := HST3.out; rw [if_neg (by simp)] at this; exact this
            clear HST3 HV
            go_wp2_with (go_at_call 47; refine (refuse_any b (p2, 0) 50 _ r H6.out.rd).mono ?_; rintro e w8 ⟨rfl, r8, s8⟩; have H8 := Hid.mk (And.intro r8 s8); clear r8 s8)
            first | go_end0 | refine bodyPost_ret (results_none rfl _ _ _) rfl ?_
            rw [HN2.out]
            have nrg : g ≠ r := HC.ne H6.out.rep H6.out.rd (by decide)
            refine ⟨rfl, v, H8.out.1, H6.out.rep.stay H8.out.2 nrg, H6.out.row.stay H8.out.2 (fun k hk e => ?_), H6.out.own, H6.out.old.trans (H8.out.2.mono (fun k _ hk => .inl hk)), H6.out.le⟩
            have := H6.out.own k hk; have := H6.out.lr; omega

      · have HS2 := Hid.mk (show S = (acc, (p2, e2)) from by have := HST.out; rw [if_pos he2] at this; exact this)
        clear HST
        go_wp2_with (go_at_call 65; refine HRD.out.1.mono ?_; rintro e w3 ⟨rfl, r3, g3, t3⟩; have h3 := HRD.out.2.2.read r3 t3 (Nat.le_trans HI.out.1.old.size (Nat.le_refl _)) (fun e => by omega) HQ.out HRD.out.2.1; have z2 : w3.cell? ⟨r, 2, none⟩ = some (.int .i64 e2) := HC.cell r3 rfl; have lq3 := HC.lt g3; have H3 := Hid.mk (And.intro h3 g3); clear h3 r3 g3 t3)
        first | go_end0 | refine bodyPost_ret (results_none rfl _ _ _) rfl ?_
        rw [HS2.out]
        exact ⟨rfl, v, H3.out.1.rd, H3.out.1.rep, H3.out.1.row, H3.out.1.own, H3.out.1.old, H3.out.1.le⟩
    · have hlt' : ¬ (i : Int) < (n : Int) := by omega
      have HD : Hid (S = (acc, si)) := by
        have := HI.out.2.2
        rw [show n - i = 0 by omega] at this
        exact this.symm
      clear hlt hin
      go_wp2
      first | go_end0 | refine bodyPost_ret (results_none rfl _ _ _) rfl ?_
      rw [HD.out]
      exact ⟨rfl, v, HI.out.1.rd, HI.out.1.rep, HI.out.1.row, HI.out.1.own, HI.out.1.old, HI.out.1.le⟩
end Go.Proofs.Ytjdknijjkjmafaa
