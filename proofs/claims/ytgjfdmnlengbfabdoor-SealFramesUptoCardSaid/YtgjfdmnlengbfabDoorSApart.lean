/-
  DERIVED. Lists of the call's own, apart from one another.
-/
import Derived.Test.YtgjfdmnlengbfabDoorSTm
import Derived.Maps.AppendAt
namespace Go.Proofs.YtgjfdmnlengbfabDoor
open Go.RowKit Go.Proofs.SealMath
/-- append onto a slice of the call's own: where it lies, and that what it lay in is kept. -/
theorem run_append_keep {P : Program} (w : World) (base : Nat) (t ty e : TypeId) (i : TypeInfo) (z : Value) (size bytes : Nat) (ht : P.underlying t = some (.slice e)) (hi : P.info? e = some i) (hz : i.zero = some z)
    (hsize : i.size = size) (hby : i.bytes = bytes) (hzs : z.cells.size = size) (hsz : 0 < size)
    (v : Value) (n : Nat) (xs : List Value) (hown : w.ownsRow base e size v n xs)
    (a : Addr) (m c : Nat) (news : List Value) (hl : news.length = m * size) (hnews : ∀ j u, news[j]? = some u → w.cell? (a.add j) = some u) (h1 : ∀ u ∈ news, u.oneCell' = true)
    (h63 : n + m ≤ maxLen) (hbytes : (n + m) * bytes ≤ 140737488355328) (hbase : base ≤ w.heap.size) :
    ∃ v' w', (Builtin.append_ #[t, t] ty #[v, .slice (some a) m c]).run P w = .ok v' w' ∧ w'.ownsRow base e size v' (n + m) (xs ++ news) ∧ w.grownBy w' v.ownBlock ∧
      (v'.ownBlock = v.ownBlock ∨ (v'.ownBlock = some w.heap.size ∧ ∀ k, k < w.heap.size → w'.heap[k]? = w.heap[k]?)) := by
  obtain ⟨v', w', hr, h2, h3, h4, h5⟩ := run_append_own_at (P := P) w base t ty e i z size bytes ht hi hz hsize hby hzs hsz v n xs hown a m c news hl hnews h1 h63 hbytes hbase
  refine ⟨v', w', hr, h2, h3, ?_⟩
  rcases h5 with h5 | h5
  · exact .inl h5
  · subst hsize
    subst hby
    have hown' := hown
    rcases hown.2 with ⟨rfl, rfl⟩ | ⟨g, cap, cur, rfl, hbg, hg, hnc, hcm, hcs, htake⟩
    · exact .inr ⟨h5, fun k hk => h3.block k hk (by simp [Value.ownBlock])⟩
    · by_cases hroom : n + m ≤ cap
      · have hfit : n * i.size + news.length ≤ cur.size := by rw [hl, hcs, ← Nat.add_mul]; exact Nat.mul_le_mul_right _ hroom
        have hr2 := run_append_room (P := P) w t ty e i ht hi g n cap cur hg a m c news hl hnews h1 hroom hfit
        rw [hr2] at hr
        cases hr
        exact .inl rfl
      · have holds : ∀ j u, xs[j]? = some u → w.cell? ((⟨g, 0, none⟩ : Addr).add j) = some u := hown'.cells (g := g) rfl
        have hr2 := run_append_grow (P := P) w t ty e i z ht hi hz ⟨g, 0, none⟩ n cap xs hown'.1 holds a m c news hl hnews (by omega) (by simp only [maxLen] at h63; omega) (growslice_fits (by omega) hbytes)
        rw [hr2] at hr
        cases hr
        exact .inr ⟨h5, fun k hk => heap_alloc_old w.drew _ hk⟩
theorem wpList_append_keep {P : Program} {w : World} {ops : Array Oper} {rest : List Oper} {o : Oper} {a : Act} {Q : Exit → Act → World → Prop} (hgd : o.guard = none) (s x : Operand) (t : TypeId)
    (ho : o.op = .call { callee := .builtin .append, args := #[s, x], argTypes := #[t, t] })
    (base : Nat) (e : TypeId) (i : TypeInfo) (z : Value) (size bytes : Nat) (ht : P.underlying t = some (.slice e)) (hi : P.info? e = some i) (hz : i.zero = some z)
    (hsize : i.size = size) (hby : i.bytes = bytes) (hzs : z.cells.size = size) (hsz : 0 < size)
    (v : Value) (n : Nat) (xs : List Value) (hs : a.eval s = v) (hown : w.ownsRow base e size v n xs)
    (ad : Addr) (m c : Nat) (news : List Value) (hx : a.eval x = .slice (some ad) m c) (hl : news.length = m * size) (hnews : ∀ j u, news[j]? = some u → w.cell? (ad.add j) = some u) (h1 : ∀ u ∈ news, u.oneCell' = true)
    (h63 : n + m ≤ maxLen) (hbytes : (n + m) * bytes ≤ 140737488355328) (hbase : base ≤ w.heap.size)
    (h : ∀ v' w', w'.ownsRow base e size v' (n + m) (xs ++ news) → w.grownBy w' v.ownBlock → (v'.ownBlock = v.ownBlock ∨ (v'.ownBlock = some w.heap.size ∧ ∀ k, k < w.heap.size → w'.heap[k]? = w.heap[k]?)) → wpList P ops Q rest (a.put o.dst v') w') :
    wpList P ops Q (o :: rest) a w := by
  refine wpList_plain hgd fun K hK => ?_
  obtain ⟨v', w', hr, h2, h3, h4⟩ := run_append_keep (P := P) w base t o.type e i z size bytes ht hi hz hsize hby hzs hsz v n xs hown ad m c news hl hnews h1 h63 hbytes hbase
  unfold Oper.wp execOp
  simp only [ho, resolve, invoke, builtin, Sem.run_bind, Sem.run_pure, Result.andThen_ok, List.map_toArray, List.map_cons, List.map_nil, hs, hx, hr]
  exact hK _ _ (h v' w' h2 h3 h4)
/-- So many frames with this mark alone. -/
def mk1 (x : Int) : List Value := [.int .i64 x, .string ⟨#[]⟩, .int .i64 0]
def mkC (x : Int) : Nat → List Value
  | 0 => []
  | n + 1 => mkC x n ++ mk1 x
theorem mkC_len (x : Int) : ∀ n, (mkC x n).length = 3 * n
  | 0 => rfl
  | n + 1 => by rw [mkC, List.length_append, mkC_len x n]; simp [mk1]; omega
theorem mkC_at (x : Int) : ∀ (n k : Nat), k < n → (mkC x n)[k * 3]? = some (.int .i64 x)
  | n + 1, k, h => by
    rw [mkC]
    by_cases hk : k < n
    · rw [List.getElem?_append_left (by rw [mkC_len]; omega)]; exact mkC_at x n k hk
    · have : k = n := by omega
      subst this
      rw [List.getElem?_append_right (by rw [mkC_len]; omega), mkC_len, show k * 3 - 3 * k = 0 by omega]; rfl
theorem set_three (x : Int) (k : Nat) (ys : List Value) (h : 3 * k + 3 ≤ ys.length) :
    (((mkC x k ++ ys.drop (3 * k)).set (k * 3) (.int .i64 x)).set (k * 3 + 1) (.string ⟨#[]⟩)).set (k * 3 + 2) (.int .i64 0) = mkC x (k + 1) ++ ys.drop (3 * (k + 1)) := by
  have hl := mkC_len x k
  have e : ∃ a b c, ys.drop (3 * k) = a :: b :: c :: ys.drop (3 * (k + 1)) := by
    have h0 : 3 * k < ys.length := by omega
    have h1 : 3 * k + 1 < ys.length := by omega
    have h2 : 3 * k + 2 < ys.length := by omega
    refine ⟨ys[3 * k], ys[3 * k + 1], ys[3 * k + 2], ?_⟩
    rw [List.drop_eq_getElem_cons h0, List.drop_eq_getElem_cons h1, List.drop_eq_getElem_cons h2, show 3 * (k + 1) = 3 * k + 2 + 1 by omega]
  obtain ⟨a, b, c, e⟩ := e
  rw [e, List.set_append_right _ _ (by omega), List.set_append_right _ _ (by omega), List.set_append_right _ _ (by omega), hl, show k * 3 - 3 * k = 0 by omega, show k * 3 + 1 - 3 * k = 1 by omega, show k * 3 + 2 - 3 * k = 2 by omega, mkC]
  simp [mk1]
theorem own_ne {W : World} {base n n' c size g : Nat} {e : TypeId} {A : Option Addr} {xs : List Value} (h : W.ownsRow base e size (.slice A n c) n' xs) (hne : A ≠ some ⟨g, 0, none⟩) : (Value.slice A n c).ownBlock = none ∨ (Value.slice A n c).ownBlock ≠ some g := by
  rcases h.2 with ⟨h0, _⟩ | ⟨g', cap, cur, h0, _⟩
  · simp at h0; obtain ⟨rfl, _⟩ := h0; exact .inl rfl
  · simp at h0; obtain ⟨rfl, _⟩ := h0
    right
    intro he
    simp [Value.ownBlock] at he
    subst he
    exact hne rfl
def upd {α : Type} (f : Nat → α) (i : Nat) (x : α) : Nat → α := fun j => if j = i then x else f j
theorem upd_same {α : Type} (f : Nat → α) (i : Nat) (x : α) : upd f i x i = x := if_pos rfl
theorem upd_other {α : Type} (f : Nat → α) (i j : Nat) (x : α) (h : j ≠ i) : upd f i x j = f j := if_neg h
/-- Rows of the call's own, no two in one block. -/
structure Fam (W : World) (base M : Nat) (T : Nat → TypeId) (S : Nat → Nat) (V : Nat → Value) (N : Nat → Nat) (Z : Nat → List Value) : Prop where
  own : ∀ j, j < M → W.ownsRow base (T j) (S j) (V j) (N j) (Z j)
  apart : ∀ i j, i < M → j < M → i ≠ j → ∀ g, (V i).ownBlock = some g → (V j).ownBlock ≠ some g
theorem Fam.alloc {W : World} {base M : Nat} {T : Nat → TypeId} {S : Nat → Nat} {V : Nat → Value} {N : Nat → Nat} {Z : Nat → List Value} (h : Fam W base M T S V N Z) (o : Obj) : Fam (W.alloc o) base M T S V N Z :=
  ⟨fun j hj => (h.own j hj).alloc o, h.apart⟩
theorem Fam.grow {W W' : World} {base M : Nat} {T : Nat → TypeId} {S : Nat → Nat} {V : Nat → Value} {N : Nat → Nat} {Z : Nat → List Value} (h : Fam W base M T S V N Z) {i : Nat} (hi : i < M) {v' : Value} {n' : Nat} {z' : List Value}
    (ho : W'.ownsRow base (T i) (S i) v' n' z') (hg : W.grownBy W' (V i).ownBlock) (hl : v'.ownBlock = (V i).ownBlock ∨ v'.ownBlock = some W.heap.size) : Fam W' base M T S (upd V i v') (upd N i n') (upd Z i z') := by
  refine ⟨fun j hj => ?_, fun a b ha hb hab g hga => ?_⟩
  · by_cases e : j = i
    · subst e; rw [upd_same, upd_same, upd_same]; exact ho
    · rw [upd_other _ _ _ _ e, upd_other _ _ _ _ e, upd_other _ _ _ _ e]
      refine (h.own j hj).kept hg ?_
      cases hv : (V j).ownBlock with
      | none => exact .inl rfl
      | some q => exact .inr fun he => h.apart j i hj hi e q hv he.symm
  · by_cases ea : a = i
    · subst ea
      rw [upd_same] at hga
      rw [upd_other _ _ _ _ (Ne.symm hab)]
      rcases hl with hl | hl
      · exact h.apart a b ha hb hab g (hl ▸ hga)
      · intro hb2
        have := ((h.own b hb).lt g hb2).2
        rw [hl] at hga; cases hga; omega
    · rw [upd_other _ _ _ _ ea] at hga
      by_cases eb : b = i
      · subst eb
        rw [upd_same]
        rcases hl with hl | hl
        · rw [hl]; exact h.apart a b ha hb hab g hga
        · rw [hl]; intro he
          have := ((h.own a ha).lt g hga).2
          cases he; omega
      · rw [upd_other _ _ _ _ eb]; exact h.apart a b ha hb hab g hga
/-- What the first views still read. -/
def Old (W : World) (m : Nat) (A : Nat → Option Addr) (ns : Nat → Nat) : Prop := ∀ j, j < m → ∀ k, k < ns j → ∃ g, A j = some ⟨g, 0, none⟩ ∧ W.cell? ⟨g, k * 3, none⟩ = some (.int .i64 (-1 - j))
/-- Where the rows lie. -/
def Loc (H m : Nat) (A : Nat → Option Addr) (V : Nat → Value) : Prop := (∀ j, j < m → ∀ g, (V j).ownBlock = some g → A j = some ⟨g, 0, none⟩ ∨ H ≤ g) ∧ ∀ g, (V m).ownBlock = some g → H ≤ g
theorem Loc.grow {H m : Nat} {A : Nat → Option Addr} {V : Nat → Value} (h : Loc H m A V) {i : Nat} (hi : i ≤ m) {v' : Value} {q : Nat} (hq : H ≤ q) (hl : v'.ownBlock = (V i).ownBlock ∨ v'.ownBlock = some q) : Loc H m A (upd V i v') := by
  refine ⟨fun j hj g hg => ?_, fun g hg => ?_⟩
  · by_cases e : j = i
    · subst e
      rw [upd_same] at hg
      rcases hl with hl | hl
      · exact h.1 j hj g (hl ▸ hg)
      · rw [hl] at hg; cases hg; exact .inr hq
    · rw [upd_other _ _ _ _ e] at hg; exact h.1 j hj g hg
  · by_cases e : m = i
    · subst e
      rw [upd_same] at hg
      rcases hl with hl | hl
      · exact h.2 g (hl ▸ hg)
      · rw [hl] at hg; cases hg; exact hq
    · rw [upd_other _ _ _ _ e] at hg; exact h.2 g hg
theorem Old.grow {W W' : World} {H m : Nat} {A : Nat → Option Addr} {ns : Nat → Nat} {V : Nat → Value} (h : Old W m A ns) (hA : ∀ j g, j < m → A j = some ⟨g, 0, none⟩ → g < H) (hH : H ≤ W.heap.size)
    (hap : ∀ i j, i < m → j < m → i ≠ j → ∀ g, A i = some ⟨g, 0, none⟩ → A j ≠ some ⟨g, 0, none⟩) (hL : Loc H m A V) {i : Nat} (hi : i ≤ m) {v' : Value} (hg : W.grownBy W' (V i).ownBlock)
    (hk : v'.ownBlock = (V i).ownBlock ∨ ∀ k, k < W.heap.size → W'.heap[k]? = W.heap[k]?) (hin : i < m → ∀ g, v'.ownBlock = some g → ∀ k, k < ns i → W'.cell? ⟨g, k * 3, none⟩ = some (.int .i64 (-1 - i))) : Old W' m A ns := by
  intro j hj k hkn
  obtain ⟨g, hAj, hc⟩ := h j hj k hkn
  refine ⟨g, hAj, ?_⟩
  have hgH := hA j g hj hAj
  by_cases hrow : (V i).ownBlock = some g
  · have him : i < m := by
      rcases Nat.lt_or_eq_of_le hi with hl | rfl
      · exact hl
      · have := hL.2 g hrow; omega
    have hij : i = j := by
      rcases hL.1 i him g hrow with h1 | h1
      · by_cases e : i = j
        · exact e
        · exact absurd hAj (hap i j him hj e g h1)
      · omega
    subst hij
    rcases hk with hk | hk
    · exact hin him g (hk.trans hrow) k hkn
    · rw [World.cell?_of_block (hk g (by omega))]; exact hc
  · rw [World.cell?_of_block (hg.block g (by omega) (fun e => hrow e.symm))]; exact hc
/-- The lists that were handed out, in a row of their own. -/
structure Lst (W : World) (base G m : Nat) (A : Nat → Option Addr) (ns C : Nat → Nat) : Prop where
  at_ : ∀ i, i < m → W.cell? ⟨G, i, none⟩ = some (.slice (A i) (ns i) (C i))
  apart : ∀ i j, i < m → j < m → i ≠ j → ∀ g, A i = some ⟨g, 0, none⟩ → A j ≠ some ⟨g, 0, none⟩
  free : ∀ i, i < m → A i ≠ some ⟨G, 0, none⟩
theorem Tryd.info22 : (Tryd.prog.info? 22).map (fun i => (i.zero, i.size, i.bytes)) = some (some (.slice none 0 0), 1, 24) := by kernel_rfl
def tyF (m j : Nat) : TypeId := if j = m then 22 else 28
def szF (m j : Nat) : Nat := if j = m then 1 else 3
/-- How far the growing is: the i-th list by t. -/
structure Ph (w W : World) (H base G m : Nat) (A : Nat → Option Addr) (ns C : Nat → Nat) (V : Nat → Value) (N : Nat → Nat) (Z : Nat → List Value) (i t : Nat) : Prop where
  fam : Fam W base (m + 1) (tyF m) (szF m) V N Z
  old : Old W m A ns
  loc : Loc H m A V
  gc : ∀ j, j < m → W.cell? ⟨G, j, none⟩ = some (.slice (A j) (ns j) (C j))
  size : H ≤ W.heap.size
  done : ∀ j, j < i → N j = ns j + 64 ∧ Z j = mkC (-1 - j) (ns j) ++ mkC (-101 - j) 64
  rest : ∀ j, i < j → j < m → V j = .slice (A j) (ns j) (C j) ∧ N j = ns j ∧ Z j = mkC (-1 - j) (ns j)
  cur : i < m → N i = ns i + t ∧ Z i = mkC (-1 - i) (ns i) ++ mkC (-101 - i) t
  cur0 : i < m → t = 0 → V i = .slice (A i) (ns i) (C i)
  more : N m = i ∧ Z m = (List.range i).map V
  below : Below base w W
theorem mkC_snoc (x : Int) (n : Nat) : mkC x (n + 1) = mkC x n ++ mk1 x := rfl
theorem cell_new3' (w : World) (x : Int) : ∀ j u, (mk1 x)[j]? = some u → (w.alloc (.cells #[.int .i64 x, .string ⟨#[]⟩, .int .i64 0] 28)).cell? ((⟨w.heap.size, 0, none⟩ : Addr).add j) = some u := cell_new3 w _ _ _ _
/-- One more frame onto the i-th list. -/
theorem Ph.next {w W W' : World} {H base G m : Nat} {A : Nat → Option Addr} {ns C : Nat → Nat} {V : Nat → Value} {N : Nat → Nat} {Z : Nat → List Value} {i t : Nat} (h : Ph w W H base G m A ns C V N Z i t) (hi : i < m) (hA : ∀ j g, j < m → A j = some ⟨g, 0, none⟩ → g < H) (hG : G < H) (hGf : ∀ j, j < m → A j ≠ some ⟨G, 0, none⟩) (hb : base ≤ W.heap.size)
    (hap : ∀ i j, i < m → j < m → i ≠ j → ∀ g, A i = some ⟨g, 0, none⟩ → A j ≠ some ⟨g, 0, none⟩) {o : Obj} {v' : Value} (ho : W'.ownsRow base 28 3 v' (N i + 1) (Z i ++ mk1 (-101 - i))) (hg : (W.alloc o).grownBy W' (V i).ownBlock)
    (hk : v'.ownBlock = (V i).ownBlock ∨ (v'.ownBlock = some (W.alloc o).heap.size ∧ ∀ k, k < (W.alloc o).heap.size → W'.heap[k]? = (W.alloc o).heap[k]?)) :
    Ph w W' H base G m A ns C (upd V i v') (upd N i (N i + 1)) (upd Z i (Z i ++ mk1 (-101 - i))) i (t + 1) := by
  have hne : ∀ j, i ≠ j → (j ≠ i) := fun j h => Ne.symm h
  have hmi : m ≠ i := by omega
  have hsz : W.heap.size ≤ (W.alloc o).heap.size := by simp
  have eT : tyF m i = 28 := if_neg (by omega)
  have eS : szF m i = 3 := if_neg (by omega)
  obtain ⟨c1, c2⟩ := h.cur hi
  have hl : v'.ownBlock = (V i).ownBlock ∨ v'.ownBlock = some (W.alloc o).heap.size := hk.imp id And.left
  have hk2 : v'.ownBlock = (V i).ownBlock ∨ ∀ k, k < (W.alloc o).heap.size → W'.heap[k]? = (W.alloc o).heap[k]? := hk.imp id And.right
  have hO : Old (W.alloc o) m A ns := fun j hj k hkn => by
    obtain ⟨g, h1, h2⟩ := h.old j hj k hkn
    exact ⟨g, h1, (World.cell?_alloc_lt _ _ _ (World.block_lt_of_cell? W _ h2)).trans h2⟩
  refine ⟨(h.fam.alloc o).grow (by omega) (by rw [eT, eS]; exact ho) hg hl, ?_, h.loc.grow (by omega) (Nat.le_trans h.size hsz) hl, fun j hj => ?_, Nat.le_trans h.size (Nat.le_trans hsz hg.size), fun j hj => ?_, fun j h1 h2 => ?_, fun _ => ?_, fun _ h0 => by omega, ?_, ?_⟩
  · refine hO.grow hA (Nat.le_trans h.size hsz) hap h.loc (by omega) hg hk2 fun _ g hv k hkn => ?_
    have hc := ho.cells hv (k * 3) (.int .i64 (-1 - i)) (by rw [c2, List.append_assoc, List.getElem?_append_left (by rw [mkC_len]; omega)]; exact mkC_at _ _ _ hkn)
    have ea : (⟨g, 0, none⟩ : Addr).add (k * 3) = ⟨g, k * 3, none⟩ := by unfold Addr.add; split <;> simp_all
    rw [ea] at hc; exact hc
  · have hGb : some G ≠ (V i).ownBlock := fun e => by
      rcases h.loc.1 i hi G e.symm with h1 | h1
      · exact hGf i hi h1
      · omega
    have h0 := h.gc j hj
    have hlt := World.block_lt_of_cell? W _ h0
    rw [World.cell?_of_block (hg.block G (Nat.lt_of_lt_of_le hlt hsz) hGb), World.cell?_alloc_lt _ _ _ hlt]; exact h0
  · rw [upd_other _ _ _ _ (by omega), upd_other _ _ _ _ (by omega)]; exact h.done j hj
  · rw [upd_other _ _ _ _ (by omega), upd_other _ _ _ _ (by omega), upd_other _ _ _ _ (by omega)]; exact h.rest j h1 h2
  · rw [upd_same, upd_same, c1, c2, mkC_snoc, List.append_assoc]; exact ⟨by omega, rfl⟩
  · rw [upd_other _ _ _ _ hmi, upd_other _ _ _ _ hmi]
    refine ⟨h.more.1, h.more.2.trans (List.map_congr_left fun j hj => ?_)⟩
    rw [upd_other _ _ _ _ (by have := List.mem_range.1 hj; omega)]
  · exact (h.below.alloc hb o).grown hg (Nat.le_trans hb hsz) (fun k hkk => ((h.fam.own i (by omega)).lt k hkk).1)
/-- The list that was grown is laid beside the others. -/
theorem Ph.push {w W W' : World} {H base G m : Nat} {A : Nat → Option Addr} {ns C : Nat → Nat} {V : Nat → Value} {N : Nat → Nat} {Z : Nat → List Value} {i : Nat} (h : Ph w W H base G m A ns C V N Z i 64) (hi : i < m) (hA : ∀ j g, j < m → A j = some ⟨g, 0, none⟩ → g < H) (hG : G < H) (hb : base ≤ W.heap.size)
    (hap : ∀ i j, i < m → j < m → i ≠ j → ∀ g, A i = some ⟨g, 0, none⟩ → A j ≠ some ⟨g, 0, none⟩) {o : Obj} {v' : Value} (ho : W'.ownsRow base 22 1 v' (i + 1) (Z m ++ [V i])) (hg : (W.alloc o).grownBy W' (V m).ownBlock)
    (hk : v'.ownBlock = (V m).ownBlock ∨ (v'.ownBlock = some (W.alloc o).heap.size ∧ ∀ k, k < (W.alloc o).heap.size → W'.heap[k]? = (W.alloc o).heap[k]?)) :
    Ph w W' H base G m A ns C (upd V m v') (upd N m (i + 1)) (upd Z m (Z m ++ [V i])) (i + 1) 0 := by
  have hsz : W.heap.size ≤ (W.alloc o).heap.size := by simp
  have eT : tyF m m = 22 := if_pos rfl
  have eS : szF m m = 1 := if_pos rfl
  obtain ⟨c1, c2⟩ := h.cur hi
  have hl : v'.ownBlock = (V m).ownBlock ∨ v'.ownBlock = some (W.alloc o).heap.size := hk.imp id And.left
  have hk2 : v'.ownBlock = (V m).ownBlock ∨ ∀ k, k < (W.alloc o).heap.size → W'.heap[k]? = (W.alloc o).heap[k]? := hk.imp id And.right
  have hO : Old (W.alloc o) m A ns := fun j hj k hkn => by
    obtain ⟨g, h1, h2⟩ := h.old j hj k hkn
    exact ⟨g, h1, (World.cell?_alloc_lt _ _ _ (World.block_lt_of_cell? W _ h2)).trans h2⟩
  refine ⟨(h.fam.alloc o).grow (by omega) (by rw [eT, eS]; exact ho) hg hl, ?_, h.loc.grow (Nat.le_refl _) (Nat.le_trans h.size hsz) hl, fun j hj => ?_, Nat.le_trans h.size (Nat.le_trans hsz hg.size), fun j hj => ?_, fun j h1 h2 => ?_, fun h1 => ?_, fun h1 _ => ?_, ?_, ?_⟩
  · exact hO.grow hA (Nat.le_trans h.size hsz) hap h.loc (Nat.le_refl _) hg hk2 fun hmm => by omega
  · have hGb : some G ≠ (V m).ownBlock := fun e => by have := h.loc.2 G e.symm; omega
    have h0 := h.gc j hj
    have hlt := World.block_lt_of_cell? W _ h0
    rw [World.cell?_of_block (hg.block G (Nat.lt_of_lt_of_le hlt hsz) hGb), World.cell?_alloc_lt _ _ _ hlt]; exact h0
  · rw [upd_other _ _ _ _ (by omega), upd_other _ _ _ _ (by omega)]
    by_cases e : j = i
    · subst e; exact ⟨c1, c2⟩
    · exact h.done j (by omega)
  · rw [upd_other _ _ _ _ (by omega), upd_other _ _ _ _ (by omega), upd_other _ _ _ _ (by omega)]; exact h.rest j (by omega) h2
  · rw [upd_other _ _ _ _ (by omega), upd_other _ _ _ _ (by omega)]
    obtain ⟨_, r2, r3⟩ := h.rest (i + 1) (by omega) h1
    exact ⟨r2, by rw [r3]; simp [mkC]⟩
  · rw [upd_other _ _ _ _ (by omega)]; exact (h.rest (i + 1) (by omega) h1).1
  · rw [upd_same, upd_same]
    refine ⟨rfl, ?_⟩
    rw [List.range_succ, List.map_append, h.more.2]
    have e1 : (List.range i).map (upd V m v') = (List.range i).map V := List.map_congr_left fun j hj => upd_other _ _ _ _ (by have := List.mem_range.1 hj; omega)
    rw [e1, List.map_cons, List.map_nil, upd_other _ _ _ _ (by omega)]
  · exact (h.below.alloc hb o).grown hg (Nat.le_trans hb hsz) (fun k hkk => ((h.fam.own m (by omega)).lt k hkk).1)
/-- A row of the call's own, by its form. -/
theorem own_form {W : World} {base n size : Nat} {e : TypeId} {v : Value} {xs : List Value} (h : W.ownsRow base e size v n xs) : ∃ D E, v = .slice D n E ∧ (0 < n → ∃ g, D = some ⟨g, 0, none⟩ ∧ ∀ j, j < n * size → W.cell? ⟨g, j, none⟩ = xs[j]?) := by
  rcases h.2 with ⟨rfl, h0⟩ | ⟨g, cap, cur, rfl, _⟩
  · exact ⟨none, 0, by rw [h0], fun hp => by omega⟩
  · exact ⟨some ⟨g, 0, none⟩, cap, rfl, fun _ => ⟨g, rfl, fun j hj => h.cellAt j hj⟩⟩
set_option maxRecDepth 100000 in
set_option maxHeartbeats 8000000 in
theorem apart_any (G m cp base : Nat) (A : Nat → Option Addr) (ns C : Nat → Nat) (X : Nat → List Value) (w : World) (hL : Lst w base G m A ns C) (hm : m ≤ 100) (hbase : base ≤ w.heap.size) (hGw : G < w.heap.size)
    (hX : ∀ i, i < m → w.ownsRow base 28 3 (.slice (A i) (ns i) (C i)) (ns i) (X i)) (hn : ∀ i, i < m → (ns i + 64) * 32 ≤ 140737488355328) :
    Calls Tryd.prog 15 #[.slice (some ⟨G, 0, none⟩) m cp] w fun e w' => e = .returned (.bool true) ∧ Below base w w' := by
  go_enter Tryd.func15, Tryd.ntmps15
  go_wp2
  go_loopw [3] (fun u wr => ∃ i : Nat, u = .int .i64 i ∧ i ≤ m ∧ (∀ j, j < m → wr.cell? ⟨G, j, none⟩ = some (.slice (A j) (ns j) (C j))) ∧ (∀ j, j < m → wr.ownsRow base 28 3 (.slice (A j) (ns j) (C j)) (ns j) (if j < i then mkC (-1 - j) (ns j) else X j)) ∧ Below base w wr) (fun u _ => m - (intOf u).toNat)
  case atStart => exact ⟨0, rfl, Nat.zero_le _, hL.at_, fun j hj => by rw [if_neg (by omega)]; exact hX j hj, Below.refl _ _⟩
  case round =>
    obtain ⟨i, rfl, hi, hc, ho, hb⟩ := hrel
    by_cases hlt : i < m
    · have hci := hc i hlt
      go_wp2
      go_loopw [4] (fun u ws => ∃ k : Nat, u = .int .i64 k ∧ k ≤ ns i ∧ (∀ j, j < m → ws.cell? ⟨G, j, none⟩ = some (.slice (A j) (ns j) (C j))) ∧ (∀ j, j < m → ws.ownsRow base 28 3 (.slice (A j) (ns j) (C j)) (ns j) (if j < i then mkC (-1 - j) (ns j) else if j = i then mkC (-1 - i) k ++ (X i).drop (3 * k) else X j)) ∧ Below base w ws) (fun u _ => ns i - (intOf u).toNat)
      case atStart =>
        refine ⟨0, rfl, Nat.zero_le _, hc, fun j hj => ?_, hb⟩
        have := ho j hj
        by_cases h1 : j < i
        · rw [if_pos h1] at this ⊢; exact this
        · rw [if_neg h1] at this ⊢
          by_cases h2 : j = i
          · rw [if_pos h2]; subst h2; exact this
          · rw [if_neg h2]; exact this
      case round =>
        obtain ⟨k, rfl, hk, hc2, ho2, hb2⟩ := hrel
        have hci2 := hc2 i hlt
        by_cases hkl : k < ns i
        · have hown := ho2 i hlt
          rw [if_neg (by omega), if_pos rfl] at hown
          obtain ⟨g, hg, hgb⟩ : ∃ g, A i = some ⟨g, 0, none⟩ ∧ base ≤ g := by
            rcases hown.2 with ⟨h0, h1⟩ | ⟨g, cap, cur, h0, hbg, _⟩
            · omega
            · simp at h0; exact ⟨g, h0.1, hbg⟩
          rw [hg] at hci2 hown
          have hln := hown.1
          have st1 := hown.stored (k * 3) (.int .i64 (-1 - (i : Int)))
          have st2 := st1.1.stored (k * 3 + 1) (.string ⟨#[]⟩)
          have st3 := st2.1.stored (k * 3 + 2) (.int .i64 0)
          have hXl : (X i).length = ns i * 3 := (hX i hlt).1
          have hni := hn i hlt
          rw [set_three (-1 - (i : Int)) k (X i) (by omega)] at st3
          have some_of : ∀ (l : List Value) (z : Nat), z < l.length → ∃ c, l[z]? = some c := fun l z hz => ⟨l[z], List.getElem?_eq_getElem hz⟩
          obtain ⟨c0, q0⟩ := some_of (mkC (-1 - (i : Int)) k ++ (X i).drop (3 * k)) (k * 3) (by omega)
          obtain ⟨c1, q1⟩ := some_of ((mkC (-1 - (i : Int)) k ++ (X i).drop (3 * k)).set (k * 3) (.int .i64 (-1 - (i : Int)))) (k * 3 + 1) (by rw [List.length_set]; omega)
          obtain ⟨c2, q2⟩ := some_of (((mkC (-1 - (i : Int)) k ++ (X i).drop (3 * k)).set (k * 3) (.int .i64 (-1 - (i : Int)))).set (k * 3 + 1) (.string ⟨#[]⟩)) (k * 3 + 2) (by rw [List.length_set, List.length_set]; omega)
          have hq0 := (hown.cellAt (k * 3) (by omega)).trans q0
          have hq1 := (st1.1.cellAt (k * 3 + 1) (by omega)).trans q1
          have hq2 := (st2.1.cellAt (k * 3 + 2) (by omega)).trans q2
          have hz0 := hown.frozenAt (k * 3)
          have hz1 := st1.1.frozenAt (k * 3 + 1)
          have hz2 := st2.1.frozenAt (k * 3 + 2)
          have HST : Hid (((wr.setCell ⟨g, k * 3, none⟩ (.int .i64 (-1 - (i : Int)))).setCell ⟨g, k * 3 + 1, none⟩ (.string ⟨#[]⟩)).setCell ⟨g, k * 3 + 2, none⟩ (.int .i64 0) |>.ownsRow base 28 3 (.slice (some ⟨g, 0, none⟩) (ns i) (C i)) (ns i) (mkC (-1 - (i : Int)) (k + 1) ++ (X i).drop (3 * (k + 1)))) := st3.1
          have HG1 := st1.2
          have HG2 := st2.2
          have HG3 := st3.2
          have HGs : Hid (wr.grownBy _ _ ∧ World.grownBy _ _ _ ∧ World.grownBy _ _ _) := ⟨HG1, HG2, HG3⟩
          clear HG1 HG2 HG3 st1 st2 st3 hown q0 q1 q2 some_of hln
          have HO2 : Hid (∀ j, j < m → wr.ownsRow base 28 3 (.slice (A j) (ns j) (C j)) (ns j) (if j < i then mkC (-1 - j) (ns j) else if j = i then mkC (-1 - i) k ++ (X i).drop (3 * k) else X j)) := ho2
          clear ho2
          go_wp2
          have hgG : g ≠ G := fun e => hL.free i hlt (by rw [hg, e])
          refine ⟨⟨k + 1, rfl, hkl, fun j hj => ?_, fun j hj => ?_, ((hb2.setCell (p := ⟨g, k * 3, none⟩) hgb _).setCell (p := ⟨g, k * 3 + 1, none⟩) hgb _).setCell (p := ⟨g, k * 3 + 2, none⟩) hgb _⟩, by simp only [intOf]; omega⟩
          · rw [World.cell?_setCell_other _ _ _ _ (fun he => hgG (by cases he; rfl)), World.cell?_setCell_other _ _ _ _ (fun he => hgG (by cases he; rfl)), World.cell?_setCell_other _ _ _ _ (fun he => hgG (by cases he; rfl))]
            exact hc2 j hj
          · by_cases hji : j = i
            · subst hji
              rw [if_neg (by omega), if_pos rfl, hg]; exact HST.out
            · have h0 := HO2.out j hj
              rw [if_neg hji] at h0 ⊢
              have hne := hL.apart i j hlt hj (Ne.symm hji) g hg
              have h1 := h0.kept HGs.out.1 (own_ne h0 hne)
              have h2 := h1.kept HGs.out.2.1 (own_ne h1 hne)
              exact h2.kept HGs.out.2.2 (own_ne h2 hne)
        · have e : k = ns i := by omega
          subst e
          go_wp2
          refine ⟨⟨i + 1, rfl, hlt, hc2, fun j hj => ?_, hb2⟩, by simp only [intOf]; omega⟩
          have h0 := ho2 j hj
          by_cases h1 : j < i
          · rw [if_pos h1] at h0; rw [if_pos (by omega)]; exact h0
          · rw [if_neg h1] at h0
            by_cases h2 : j = i
            · subst h2
              have hXl : (X j).length = ns j * 3 := (hX j hj).1
              rw [if_pos rfl, List.drop_of_length_le (by omega), List.append_nil] at h0
              rw [if_pos (by omega)]; exact h0
            · rw [if_neg h2] at h0; rw [if_neg (by omega)]; exact h0
    · have e : m = i := by omega
      subst e
      have ho1 : ∀ j, j < m → wr.ownsRow base 28 3 (.slice (A j) (ns j) (C j)) (ns j) (mkC (-1 - j) (ns j)) := fun j hj => by have := ho j hj; rw [if_pos hj] at this; exact this
      have hA : ∀ j g, j < m → A j = some ⟨g, 0, none⟩ → g < wr.heap.size := fun j g hj hg => ((ho1 j hj).lt g (by rw [hg]; rfl)).2
      have hGr : G < wr.heap.size := Nat.lt_of_lt_of_le hGw hb.size
      have hbr : base ≤ wr.heap.size := Nat.le_trans hbase hb.size
      have hPh : Ph w wr wr.heap.size base G m A ns C (fun j => if j = m then .slice none 0 0 else .slice (A j) (ns j) (C j)) (fun j => if j = m then 0 else ns j) (fun j => if j = m then [] else mkC (-1 - j) (ns j)) 0 0 := by
        refine ⟨⟨fun j hj => ?_, fun a b ha hb hab g h1 => ?_⟩, fun j hj k hk => ?_, ⟨fun j hj g hg => ?_, fun g hg => ?_⟩, hc, Nat.le_refl _, fun j hj => by omega, fun j _ h2 => ?_, fun h0 => ?_, fun h0 _ => by rw [if_neg (by omega)], ⟨by rw [if_pos rfl], by rw [if_pos rfl]; rfl⟩, hb⟩
        · unfold tyF szF
          by_cases e : j = m
          · rw [if_pos e, if_pos e, if_pos e, if_pos e, if_pos e]; exact World.ownsRow_nil _ _ _ _
          · rw [if_neg e, if_neg e, if_neg e, if_neg e, if_neg e]; exact ho1 j (by omega)
        · by_cases ea : a = m
          · rw [if_pos ea] at h1; simp [Value.ownBlock] at h1
          · rw [if_neg ea] at h1
            by_cases eb : b = m
            · rw [if_pos eb]; simp [Value.ownBlock]
            · rw [if_neg eb]
              rcases own_ne (ho1 b (by omega)) (g := g) (hL.apart a b (by omega) (by omega) hab g (by
                rcases (ho1 a (by omega)).2 with ⟨h0, _⟩ | ⟨g', cap', cur, h0, _⟩
                · rw [h0] at h1; simp [Value.ownBlock] at h1
                · simp at h0; rw [h0.1] at h1 ⊢; simp [Value.ownBlock] at h1; rw [h1])) with h2 | h2
              · rw [h2]; simp
              · exact h2
        · have ho := ho1 j hj
          rcases ho.2 with ⟨h0, h1⟩ | ⟨g, cap', cur, h0, _⟩
          · omega
          · simp at h0
            rw [h0.1] at ho
            exact ⟨g, h0.1, (ho.cellAt (k * 3) (by omega)).trans (mkC_at _ _ _ hk)⟩
        · dsimp only at hg
          rw [if_neg (by omega)] at hg
          rcases (ho1 j hj).2 with ⟨h0, _⟩ | ⟨g', cap', cur, h0, _⟩
          · rw [h0] at hg; simp [Value.ownBlock] at hg
          · simp at h0; rw [h0.1] at hg ⊢; simp [Value.ownBlock] at hg; rw [hg]; exact .inl rfl
        · dsimp only at hg
          rw [if_pos rfl] at hg; simp [Value.ownBlock] at hg
        · rw [if_neg (by omega), if_neg (by omega), if_neg (by omega)]; exact ⟨rfl, rfl, rfl⟩
        · rw [if_neg (by omega), if_neg (by omega)]; exact ⟨rfl, by simp [mkC]⟩
      have HP : Hid (Ph w wr wr.heap.size base G m A ns C (fun j => if j = m then .slice none 0 0 else .slice (A j) (ns j) (C j)) (fun j => if j = m then 0 else ns j) (fun j => if j = m then [] else mkC (-1 - j) (ns j)) 0 0) := hPh
      obtain ⟨i0, hi0, hz0, hz1, hz2⟩ := info_parts Tryd.info28
      obtain ⟨i1, hi1, hy0, hy1, hy2⟩ := info_parts Tryd.info22
      clear hb hc ho ho1 hPh
      obtain ⟨H, hH⟩ : ∃ H, H = wr.heap.size := ⟨_, rfl⟩
      rw [← hH] at hA hGr HP hbr
      clear hH
      go_wp2
      go_loopw [5, 6] (fun x u ws => ∃ (i : Nat) (V : Nat → Value) (N : Nat → Nat) (Z : Nat → List Value), u = .int .i64 i ∧ i ≤ m ∧ x = V m ∧ Ph w ws H base G m A ns C V N Z i 0) (fun _ u _ => m - (intOf u).toNat)
      case atStart => exact ⟨0, _, _, _, rfl, Nat.zero_le _, (if_pos rfl).symm, HP.out⟩
      case round =>
        obtain ⟨i, V, N, Z, rfl, hi, rfl, hP⟩ := hrel
        clear HP
        by_cases hil : i < m
        · have hci := hP.gc i hil
          have hVi := hP.cur0 hil rfl
          have HV : Hid (V i = .slice (A i) (ns i) (C i)) := hVi
          have HPi : Hid (Ph w wr H base G m A ns C V N Z i 0) := hP
          obtain ⟨mv, hmv⟩ : ∃ mv, mv = V m := ⟨_, rfl⟩
          rw [← hmv]
          clear hVi hP
          go_wp2
          go_loopw [7, 8] (fun x u wt => ∃ (t : Nat) (V : Nat → Value) (N : Nat → Nat) (Z : Nat → List Value), u = .int .i64 t ∧ t ≤ 64 ∧ x = V i ∧ mv = V m ∧ Ph w wt H base G m A ns C V N Z i t) (fun _ u _ => 64 - (intOf u).toNat)
          case atStart => exact ⟨0, V, N, Z, rfl, Nat.zero_le _, HV.out.symm, hmv, HPi.out⟩
          case round =>
            obtain ⟨t, V, N, Z, rfl, htl, rfl, hmv2, hP⟩ := hrel
            have HMV : Hid (mv = V m) := hmv2
            clear hmv HV HPi hmv2
            have HPi : Hid (Ph w wr H base G m A ns C V N Z i t) := hP
            by_cases ht : t < 64
            · have hnb := hn i hil
              have hbW : base ≤ wr.heap.size := Nat.le_trans hbr hP.size
              have hNi := (hP.cur hil).1
              have hown : wr.ownsRow base 28 3 (V i) (N i) (Z i) := by
                have := hP.fam.own i (by omega)
                rwa [show tyF m i = 28 from if_neg (by omega), show szF m i = 3 from if_neg (by omega)] at this
              have hNb : (N i + 1) * 32 ≤ 140737488355328 := by omega
              clear hP hNi
              go_wp2_with (at_builtin; refine wpList_append_keep rfl _ _ 22 rfl base 28 i0 (.agg #[.int .i64 0, .string ⟨#[]⟩, .int .i64 0]) 3 32 Tryd.underlying22 hi0 hz0 hz1 hz2 rfl (by decide) _ _ _ rfl (hown.alloc _) ⟨wr.heap.size, 0, none⟩ 1 1 (mk1 (-101 - (i : Int))) ?_ rfl (cell_new3' _ _) (fun x hx => by simp [mk1] at hx; rcases hx with rfl | rfl | rfl <;> rfl) (by unfold maxLen; omega) (by omega) (by simp; omega) ?_; go_simp; intro v' w3 hown' hgrow3 hkp)
              have hgr : (wr.alloc (Obj.cells #[Value.int IntKind.i64 (-101 - (i : Int)), Value.string ⟨#[]⟩, Value.int IntKind.i64 0] 28)).grownBy w3 (V i).ownBlock := hgrow3
              have hkp' : v'.ownBlock = (V i).ownBlock ∨ (v'.ownBlock = some (wr.alloc (Obj.cells #[Value.int IntKind.i64 (-101 - (i : Int)), Value.string ⟨#[]⟩, Value.int IntKind.i64 0] 28)).heap.size ∧ ∀ k, k < (wr.alloc (Obj.cells #[Value.int IntKind.i64 (-101 - (i : Int)), Value.string ⟨#[]⟩, Value.int IntKind.i64 0] 28)).heap.size → w3.heap[k]? = (wr.alloc (Obj.cells #[Value.int IntKind.i64 (-101 - (i : Int)), Value.string ⟨#[]⟩, Value.int IntKind.i64 0] 28)).heap[k]?) := hkp
              have hP' := HPi.out.next hil hA hGr hL.free hbW hL.apart hown' hgr hkp'
              refine ⟨⟨t + 1, _, _, _, rfl, ht, (upd_same _ _ _).symm, ?_, hP'⟩, by simp only [intOf]; omega⟩
              rw [upd_other _ _ _ _ (by omega)]; exact HMV.out
            · have e : t = 64 := by omega
              subst e
              have hmv3 := HMV.out
              subst hmv3
              have hbW : base ≤ wr.heap.size := Nat.le_trans hbr hP.size
              have hownm : wr.ownsRow base 22 1 (V m) i (Z m) := by
                have := hP.fam.own m (by omega)
                rwa [show tyF m m = 22 from if_pos rfl, show szF m m = 1 from if_pos rfl, hP.more.1] at this
              have hf : ∃ D E, V i = .slice D (ns i + 64) E := by
                obtain ⟨D, E, hDE, _⟩ := own_form (hP.fam.own i (by omega))
                rw [(hP.cur hil).1] at hDE
                exact ⟨D, E, hDE⟩
              obtain ⟨D, E, hDE⟩ := hf
              have HDE : Hid (V i = .slice D (ns i + 64) E) := hDE
              rw [hDE]
              clear hP hDE
              go_wp2_with (at_builtin; refine wpList_append_keep rfl _ _ 43 rfl base 22 i1 (.slice none 0 0) 1 24 Tryd.underlying43 hi1 hy0 hy1 hy2 rfl (by decide) _ _ _ rfl (hownm.alloc _) ⟨wr.heap.size, 0, none⟩ 1 1 [.slice D (ns i + 64) E] ?_ rfl (cell_one_new _ _ _) (fun x hx => by simp at hx; subst hx; rfl) (by unfold maxLen; omega) (by omega) (by simp; omega) ?_; go_simp; intro v' w3 hown' hgrow3 hkp)
              have hgr : (wr.alloc (Obj.cells #[Value.slice D (ns i + 64) E] 22)).grownBy w3 (V m).ownBlock := hgrow3
              have hkp' : v'.ownBlock = (V m).ownBlock ∨ (v'.ownBlock = some (wr.alloc (Obj.cells #[Value.slice D (ns i + 64) E] 22)).heap.size ∧ ∀ k, k < (wr.alloc (Obj.cells #[Value.slice D (ns i + 64) E] 22)).heap.size → w3.heap[k]? = (wr.alloc (Obj.cells #[Value.slice D (ns i + 64) E] 22)).heap[k]?) := hkp
              have hP' := HPi.out.push hil hA hGr hbW hL.apart (by rw [HDE.out]; exact hown') hgr hkp'
              refine ⟨⟨i + 1, _, _, _, rfl, hil, (upd_same _ _ _).symm, hP'⟩, by simp only [intOf]; omega⟩
        · have e : m = i := by omega
          subst e
          have hownm : wr.ownsRow base 22 1 (V m) m (Z m) := by
            have := hP.fam.own m (by omega)
            rwa [show tyF m m = 22 from if_pos rfl, show szF m m = 1 from if_pos rfl, hP.more.1] at this
          obtain ⟨M0, E0, hM0, hMc⟩ := own_form hownm
          have HP : Hid (Ph w wr H base G m A ns C V N Z m 0) := hP
          have HM : Hid (0 < m → ∃ g, M0 = some ⟨g, 0, none⟩ ∧ ∀ j, j < m * 1 → wr.cell? ⟨g, j, none⟩ = (Z m)[j]?) := hMc
          rw [hM0]
          clear hP hM0 hMc hownm
          have hNB : ∀ j, j < m → ns j < 4611686018427387904 := fun j hj => by have := hn j hj; omega
          clear hi hil hX hn hA hbr hGr
          have HB : Hid (Below base w wr) := HP.out.below
          obtain ⟨w9, hw9⟩ : ∃ w9, w9 = wr := ⟨_, rfl⟩
          rw [← hw9] at HP HM HB ⊢
          clear hw9
          go_wp2
          go_loopw [9] (fun u wt => ∃ i : Nat, u = .int .i64 i ∧ i ≤ m ∧ wt = w9) (fun u _ => m - (intOf u).toNat)
          case atStart => exact ⟨0, rfl, Nat.zero_le _, rfl⟩
          case round =>
            obtain ⟨i, rfl, hi, rfl⟩ := hrel
            by_cases hil : i < m
            · have hci := HP.out.gc i hil
              obtain ⟨e0, rfl, hMc⟩ := HM.out (by omega)
              obtain ⟨hNi, hZi⟩ := HP.out.done i hil
              have hmi := hMc i (by omega)
              rw [HP.out.more.2, List.getElem?_map, List.getElem?_range hil] at hmi
              obtain ⟨D, E, hDE, hDc⟩ := own_form (HP.out.fam.own i (by omega))
              rw [hNi] at hDE hDc
              obtain ⟨d, rfl, hdc⟩ := hDc (by omega)
              rw [show szF m i = 3 from if_neg (by omega), hZi] at hdc
              have hmi2 : wr.cell? ⟨e0, i, none⟩ = some (.slice (some ⟨d, 0, none⟩) (ns i + 64) E) := by rw [hmi, ← hDE]; rfl
              have HOld : Hid (∀ k, k < ns i → ∃ g, A i = some ⟨g, 0, none⟩ ∧ wr.cell? ⟨g, k * 3, none⟩ = some (.int .i64 (-1 - i))) := HP.out.old i hil
              have HNew : Hid (∀ k, k < ns i → wr.cell? ⟨d, k * 3, none⟩ = some (.int .i64 (-1 - i))) := fun k hk => by
                rw [hdc (k * 3) (by omega), List.getElem?_append_left (by rw [mkC_len]; omega)]; exact mkC_at _ _ _ hk
              have HNew2 : Hid (∀ k, ns i ≤ k → k < ns i + 64 → wr.cell? ⟨d, k * 3, none⟩ = some (.int .i64 (-101 - i))) := fun k h1 h2 => by
                rw [hdc (k * 3) (by omega), List.getElem?_append_right (by rw [mkC_len]; omega), mkC_len, show k * 3 - 3 * ns i = (k - ns i) * 3 by omega]; exact mkC_at _ _ _ (by omega)
              have hnsb := hNB i hil
              clear hmi hDE hdc hDc hNi hZi hMc
              by_cases hpos : 0 < ns i
              · obtain ⟨g, hAi, _⟩ := HOld.out 0 hpos
                have HOld2 : Hid (∀ k, k < ns i → wr.cell? ⟨g, k * 3, none⟩ = some (.int .i64 (-1 - i))) := fun k hk => by
                  obtain ⟨g', h1, h2⟩ := HOld.out k hk
                  rw [hAi] at h1; cases h1; exact h2
                rw [hAi] at hci
                clear hAi
                go_wp2
                go_loopw [11] (fun u wt => ∃ k : Nat, u = .int .i64 k ∧ k ≤ ns i + 64 ∧ wt = wr) (fun u _ => ns i + 64 - (intOf u).toNat)
                case atStart => exact ⟨0, rfl, Nat.zero_le _, rfl⟩
                case round =>
                  obtain ⟨k, rfl, hk, rfl⟩ := hrel
                  by_cases hkl : k < ns i + 64
                  · by_cases hkn : k < ns i
                    · have hg := HOld2.out k hkn
                      have hd := HNew.out k hkn
                      go_wp2
                      refine ⟨⟨k + 1, rfl, hkl, trivial⟩, by simp only [intOf]; omega⟩
                    · have hd := HNew2.out k (by omega) hkl
                      go_wp2
                      refine ⟨⟨k + 1, rfl, hkl, trivial⟩, by simp only [intOf]; omega⟩
                  · go_wp2
                    refine ⟨⟨i + 1, rfl, hil, trivial⟩, by simp only [intOf]; omega⟩
              · have hz : ¬ 0 < ns i := hpos
                go_wp2
                go_loopw [11] (fun u wt => ∃ k : Nat, u = .int .i64 k ∧ k ≤ ns i + 64 ∧ wt = wr) (fun u _ => ns i + 64 - (intOf u).toNat)
                case atStart => exact ⟨0, rfl, Nat.zero_le _, rfl⟩
                case round =>
                  obtain ⟨k, rfl, hk, rfl⟩ := hrel
                  by_cases hkl : k < ns i + 64
                  · by_cases hkn : k < ns i
                    · exact absurd hkn (by omega)
                    · have hd := HNew2.out k (by omega) hkl
                      go_wp2
                      refine ⟨⟨k + 1, rfl, hkl, trivial⟩, by simp only [intOf]; omega⟩
                  · go_wp2
                    refine ⟨⟨i + 1, rfl, hil, trivial⟩, by simp only [intOf]; omega⟩
            · go_wp2
              go_ret
              exact ⟨rfl, HB.out⟩
end Go.Proofs.YtgjfdmnlengbfabDoor
