/-
  DERIVED. SBase, SMath, SOn, STable, SBA, SFix, SFixB, as one text.
-/
import Derived.Test.YtjdpolhjbkpnlaaGreatDoorRows
import Derived.WalkKit
import Derived.WalkSpells
import Derived.WalkLawsBesides
import Derived.Deep.QuietTactic
import Derived.BigQuiet
import Derived.Laws.BitsAllLaws
import Derived.Laws.IdiomStrings
import Derived.Lib.ConvBytes
import Derived.Deep.RegionLaw
import Derived.Test.YtjdpolhjbkpnlaaGreatDoorCards
import Derived.Test.YtjdpolhjbkpnlaaGreatDoorTie
import Derived.ProofKit
import Derived.LaidMore
import Derived.SizedLaws
import Derived.OpenShut
import Derived.Lib.LaidTab
import Derived.Stop.Joined
import Derived.SevenTiedAt
import Derived.Deep.MidRow
import Derived.Deep.WholeRow
namespace Go.Proofs.YtjdpolhjbkpnlaaGreatDoor
open Go.RowKit
theorem ret2 {a b c d : Value} (h : a = c) (k : b = d) : Ending.returned (.tuple #[a, b]) = .returned (.tuple #[c, d]) := by rw [h, k]
theorem ival {k : IntKind} {a b : Int} (h : a = b) : Value.int k a = .int k b := by rw [h]
/-- The world, some draws later. -/
def Drew (w w' : World) : Prop := ∃ n, w' = w.drewN n
theorem Drew.refl (w : World) : Drew w w := ⟨0, rfl⟩
theorem Drew.trans {a b c : World} (h : Drew a b) (k : Drew b c) : Drew a c := by
  obtain ⟨n, rfl⟩ := h; obtain ⟨m, rfl⟩ := k; exact ⟨n + m, by rw [World.drewN_drewN]⟩
theorem Drew.more {a b : World} (h : Drew a b) (n : Nat) : Drew a (b.drewN n) := h.trans ⟨n, rfl⟩
theorem Drew.drew {a b : World} (h : Drew a b) : Drew a b.drew := h.trans ⟨1, rfl⟩
theorem Drew.below {a b : World} (h : Drew a b) (B : Nat) : Below B a b := by
  obtain ⟨n, rfl⟩ := h
  induction n with
  | zero => exact Below.refl _ _
  | succ n ih => exact ih.trans ⟨rfl, rfl, rfl, Nat.le_refl _, fun _ _ => rfl⟩
theorem ret_int {k : IntKind} {a b : Int} (h : a = b) : Ending.returned (.int k a) = .returned (.int k b) := by rw [h]
theorem ret_bool {a b : Bool} (h : a = b) : Ending.returned (.bool a) = .returned (.bool b) := by rw [h]
theorem chain {B : Nat} {a b c : World} (h : Below B a b) (k : Below b.heap.size b c) (hB : B ≤ a.heap.size) : Below B a c := h.trans (k.mono (Nat.le_trans hB h.size))
theorem i64_in (n : Int) (h0 : 0 ≤ n) (h1 : n < 2 ^ 63) : IntKind.i64.wrap n = n := by rw [IntKind.wrap_i64]; omega
theorem i64_and1 (x : Int) (h0 : 0 ≤ x) (h1 : x < 2 ^ 63) : bits .and .i64 x 1 = x % 2 := by
  have := bits_mask .i64 63 (by decide) i64_in 1 (by decide) x h0 h1
  simpa using this
theorem div_pow_le (a k : Nat) : (0 : Int) ≤ (a : Int) / 2 ^ k ∧ (a : Int) / 2 ^ k ≤ (a : Int) := by
  have e : ((a : Int) / 2 ^ k) = ((a / 2 ^ k : Nat) : Int) := by simp
  rw [e]; exact ⟨Int.natCast_nonneg _, Int.ofNat_le.2 (Nat.div_le_self a (2 ^ k))⟩
theorem Tryz.info5 : (Tryz.prog.info? 5).map (fun i => (i.zero, i.size, i.bytes)) = some (some (.int .u8 0), 1, 1) := by kernel_rfl
/-- A byte as a cell. -/
def BV (c : UInt8) : Value := .int .u8 c.toNat
theorem set_take (l : List UInt8) (k : Nat) (x : UInt8) (h : k < l.length) : (l.set k x).take (k + 1) = l.take k ++ [x] := by
  rw [List.take_succ_eq_append_getElem (by simpa using h), List.take_set_of_le (Nat.le_refl k)]; simp
theorem made_bytes (n : Nat) : (madeCells (Value.int .u8 0).cells (n * 1)).toList = (List.replicate n (0 : UInt8)).map BV := by
  rw [Nat.mul_one]; show (madeCells #[Value.int .u8 0] n).toList = _; rw [toList_madeCells_one, List.map_replicate]; rfl
theorem conv_row {w : World} {B g : Nat} {cap : Nat} (l : List UInt8) (h : w.ownsRow B 5 1 (.slice (some ⟨g, 0, none⟩) l.length cap) l.length (l.map BV)) :
    (convert 98 9 (.slice (some ⟨g, 0, none⟩) l.length cap)).run Tryz.prog w = .ok (.string ⟨l.toArray⟩) w :=
  run_convert_bytes_back w 98 9 5 ⟨g, 0, none⟩ cap l Tryz.underlying98 Tryz.underlying5 Tryz.underlying9 (fun j hj => by
    have := h.cellAt j (by omega)
    have e : (⟨g, 0, none⟩ : Addr).add j = ⟨g, j, none⟩ := by unfold Addr.add; split <;> simp_all
    rw [e, this, List.getElem?_map, List.getElem?_eq_getElem hj]; rfl)
/-- append to a row of the call's own, as one step of a region that draws. -/
theorem step_append_own {P : Program} {ops : Array Oper} {o : Oper} {a : Act} {w : World} {K : Act → World → Prop} {Q : Exit → Act → World → Prop} {E : Prop}
    (hg : o.guard = none) (s x : Operand) (t : TypeId) (hop : o.op = Op.call { callee := Callee.builtin Builtin.append, args := #[s, x], argTypes := #[t, t] })
    (base : Nat) (e : TypeId) (i : TypeInfo) (z : Value) (size bytes : Nat) (h1 : P.underlying t = some (.slice e)) (h2 : P.info? e = some i) (h3 : i.zero = some z) (h4 : i.size = size) (h5 : i.bytes = bytes) (h6 : z.cells.size = size) (h7 : 0 < size)
    (v : Value) (n : Nat) (xs : List Value) (hs : a.eval s = v) (hown : w.ownsRow base e size v n xs)
    (ad : Addr) (m c : Nat) (news : List Value) (hx : a.eval x = .slice (some ad) m c) (hn : news.length = m * size) (hc : ∀ j u, news[j]? = some u → w.cell? (ad.add j) = some u) (h1c : ∀ u ∈ news, u.oneCell' = true)
    (b1 : n + m ≤ maxLen) (b2 : (n + m) * bytes ≤ 140737488355328) (hbase : base ≤ w.heap.size)
    (hK : ∀ v' w', w'.ownsRow base e size v' (n + m) (xs ++ news) → w.grownBy w' v.ownBlock → K (a.put o.dst v') w') :
    if Region.wanted o (yielded ops a.tmps) = true then Oper.wp P o a w K Q else E := by
  have hw : Region.wanted o (yielded ops a.tmps) = true := by simp [Region.wanted, hg]
  rw [if_pos hw]
  obtain ⟨v', w', hrun, r1, r2, _⟩ := run_append_own (P := P) w base t o.type e i z size bytes h1 h2 h3 h4 h5 h6 h7 v n xs hown ad m c news hn hc h1c b1 b2 hbase
  unfold Oper.wp
  simp [execOp, hop, resolve, invoke, builtin, hs, hx, hrun, Result.andThen]
  exact hK v' w' r1 r2
theorem conv_own {w : World} {B : Nat} {v : Value} (l : List UInt8) (h : w.ownsRow B 5 1 v l.length (l.map BV)) :
    (convert 98 9 v).run Tryz.prog w = .ok (.string ⟨l.toArray⟩) w := by
  rcases h.2 with ⟨rfl, h0⟩ | ⟨g, cap, cur, rfl, _⟩
  · rw [run_convert_bytes_string w 98 9 5 none 0 0 Tryz.underlying98 Tryz.underlying5 Tryz.underlying9]
    rw [List.eq_nil_of_length_eq_zero h0]; rfl
  · exact conv_row l h
/-- What was there stays behind an append to a row of the call's own. -/
theorem own_grow {w wr w' : World} {e : TypeId} {size : Nat} {v : Value} {n : Nat} {xs : List Value} {o : Obj} (hown : wr.ownsRow w.heap.size e size v n xs) (hb : Below w.heap.size w wr) (hg : (wr.alloc o).drew.grownBy w' v.ownBlock) : Below w.heap.size w w' :=
  ((hb.alloc hb.size o).drew).grown hg (by have := hb.size; simp; omega) (fun k h => (hown.lt k h).1)
end Go.Proofs.YtjdpolhjbkpnlaaGreatDoor
namespace Go.Proofs.SealMath
/-- One shift of the register. -/
def st (r : Nat) : Nat := if r % 2 = 1 then (r / 2) ^^^ 2197175160 else r / 2
def stN : Nat → Nat → Nat
  | 0, r => r
  | k + 1, r => stN k (st r)
theorem stN_succ (k r : Nat) : stN (k + 1) r = st (stN k r) := by
  induction k generalizing r with
  | zero => rfl
  | succ k ih => show stN (k + 1) (st r) = _; rw [ih]; rfl
theorem stN_add (a b r : Nat) : stN (a + b) r = stN b (stN a r) := by
  induction a generalizing r with
  | zero => rw [Nat.zero_add]; rfl
  | succ a ih => rw [Nat.succ_add]; show stN (a + b) (st r) = _; rw [ih]; rfl
/-- A byte goes in. -/
def rb (r c : Nat) : Nat := stN 8 (r ^^^ c)
theorem rb_def (r c : Nat) : rb r c = stN 8 (r ^^^ c) := by unfold rb; rfl
def regs (r : Nat) (l : List UInt8) : Nat := l.foldl (fun r c => rb r c.toNat) r
theorem regs_append (r : Nat) (a b : List UInt8) : regs r (a ++ b) = regs (regs r a) b := by unfold regs; rw [List.foldl_append]
theorem regs_one (r : Nat) (c : UInt8) : regs r [c] = rb r c.toNat := by unfold regs; rw [List.foldl_cons, List.foldl_nil]
theorem regs_cons (r : Nat) (c : UInt8) (l : List UInt8) : regs r (c :: l) = regs (rb r c.toNat) l := by unfold regs; rw [List.foldl_cons]
/-- The sum of a text that goes on from s. -/
def crc (s : Nat) (l : List UInt8) : Nat := regs (s ^^^ 4294967295) l ^^^ 4294967295
theorem st_lt {r : Nat} (h : r < 4294967296) : st r < 4294967296 := by
  unfold st
  split
  · exact Nat.xor_lt_two_pow (n := 32) (by omega) (by omega)
  · omega
theorem stN_lt (k : Nat) : ∀ {r : Nat}, r < 4294967296 → stN k r < 4294967296 := by
  induction k with
  | zero => intro r h; exact h
  | succ k ih => intro r h; exact ih (st_lt h)
theorem rb_lt {r c : Nat} (h : r < 4294967296) (hc : c < 256) : rb r c < 4294967296 :=
  by rw [rb_def]; exact stN_lt 8 (Nat.xor_lt_two_pow (n := 32) h (by omega))
theorem regs_lt {r : Nat} (l : List UInt8) (h : r < 4294967296) : regs r l < 4294967296 := by
  induction l generalizing r with
  | nil => exact h
  | cons c l ih => rw [regs_cons]; exact ih (rb_lt h c.toNat_lt)
theorem flip_lt {r : Nat} (h : r < 4294967296) : r ^^^ 4294967295 < 4294967296 := Nat.xor_lt_two_pow (n := 32) h (by omega)
theorem crc_lt {s : Nat} (l : List UInt8) (h : s < 4294967296) : crc s l < 4294967296 := flip_lt (regs_lt l (flip_lt h))
theorem flip_flip (r : Nat) : r ^^^ 4294967295 ^^^ 4294967295 = r := by rw [Nat.xor_assoc, Nat.xor_self, Nat.xor_zero]
theorem flip_sub {r : Nat} (h : r < 4294967296) : r ^^^ 4294967295 = 4294967295 - r := by
  apply Nat.eq_of_testBit_eq
  intro i
  have e : (4294967295 : Nat) - r = 2 ^ 32 - (r + 1) := by omega
  rw [e, Nat.testBit_two_pow_sub_succ (by omega), Nat.testBit_xor, show (4294967295 : Nat) = 2 ^ 32 - 1 by rfl, Nat.testBit_two_pow_sub_one]
  by_cases hi : i < 32
  · simp [hi]
  · have : r.testBit i = false := Nat.testBit_lt_two_pow (Nat.lt_of_lt_of_le (show r < 2 ^ 32 from h) (Nat.pow_le_pow_right (by decide) (Nat.not_lt.1 hi)))
    simp [hi, this]
theorem crc_append (s : Nat) (a b : List UInt8) : crc s (a ++ b) = crc (crc s a) b := by
  unfold crc; rw [flip_flip, regs_append]
theorem st_xor (a b : Nat) : st (a ^^^ b) = st a ^^^ st b := by
  unfold st
  have h2 : (a ^^^ b) / 2 = a / 2 ^^^ b / 2 := Nat.xor_div_two
  have h1 : (a ^^^ b) % 2 = (a + b) % 2 := by
    have := @Nat.xor_mod_two_eq_one a b
    by_cases h : (a ^^^ b) % 2 = 1 <;> by_cases ha : a % 2 = 1 <;> by_cases hb : b % 2 = 1 <;> simp [h, ha, hb] at this <;> omega
  rw [h1, h2]
  rcases Nat.mod_two_eq_zero_or_one a with ha | ha <;> rcases Nat.mod_two_eq_zero_or_one b with hb | hb
  · rw [if_neg (by omega), if_neg (by omega), if_neg (by omega)]
  · rw [if_pos (by omega), if_neg (by omega), if_pos (by omega), Nat.xor_assoc]
  · rw [if_pos (by omega), if_pos (by omega), if_neg (by omega), Nat.xor_assoc, Nat.xor_comm (b / 2), ← Nat.xor_assoc]
  · rw [if_neg (by omega), if_pos (by omega), if_pos (by omega)]
    have e : a / 2 ^^^ 2197175160 ^^^ (b / 2 ^^^ 2197175160) = a / 2 ^^^ b / 2 ^^^ (2197175160 ^^^ 2197175160) := by
      rw [Nat.xor_assoc, Nat.xor_assoc, Nat.xor_comm (b / 2) 2197175160, ← Nat.xor_assoc 2197175160, Nat.xor_comm _ (b / 2)]
    rw [e, Nat.xor_self, Nat.xor_zero]
theorem stN_xor (k a b : Nat) : stN k (a ^^^ b) = stN k a ^^^ stN k b := by
  induction k generalizing a b with
  | zero => rfl
  | succ k ih => show stN k (st (a ^^^ b)) = _; rw [st_xor, ih]; rfl
theorem st_two (x : Nat) : st (2 * x) = x := by unfold st; rw [if_neg (by omega)]; omega
theorem stN_pow (k x : Nat) : stN k (2 ^ k * x) = x := by
  induction k with
  | zero => show 2 ^ 0 * x = x; rw [Nat.pow_zero, Nat.one_mul]
  | succ k ih => show stN k (st _) = x; rw [Nat.pow_succ, Nat.mul_comm (2 ^ k) 2, Nat.mul_assoc, st_two, ih]
theorem cut_xor (k r : Nat) : r = (2 ^ k * (r / 2 ^ k)) ^^^ (r % 2 ^ k) := by
  apply Nat.eq_of_testBit_eq
  intro i
  rw [Nat.testBit_xor, Nat.testBit_two_pow_mul, Nat.testBit_mod_two_pow]
  by_cases h : i < k
  · simp [h, Nat.not_le.2 h]
  · rw [Nat.testBit_div_two_pow]; simp [h, Nat.not_lt.1 h]
/-- Four shifts are one look at the table. -/
theorem stN4 (r : Nat) : stN 4 r = (r / 16) ^^^ stN 4 (r % 16) := by
  have h := cut_xor 4 r
  have h2 := stN_pow 4 (r / 2 ^ 4)
  have h3 := stN_xor 4 (2 ^ 4 * (r / 2 ^ 4)) (r % 2 ^ 4)
  rw [← h, h2] at h3
  exact h3
def tabN : List Nat := [0, 274646895, 549293790, 820201905, 1098587580, 1361435347, 1640403810, 1905808397, 2197175160, 2460548119, 2722870694, 2987750089, 3280807620, 3553878443, 3811616794, 4084100981]
theorem tabN_at : ∀ i, i < 16 → tabN.getD i 0 = stN 4 i := by decide +kernel
theorem rb_two (r c : Nat) : rb r c = stN 4 (stN 4 (r ^^^ c)) := by rw [rb_def]; exact stN_add 4 4 _
end Go.Proofs.SealMath
namespace Go.Proofs.YtjdpolhjbkpnlaaGreatDoor
open Go.RowKit Go.Proofs.SealMath
/-- The table lies there. -/
def Tab (w : World) : Prop := ∀ j, j < 16 → w.cell? ⟨0, j, none⟩ = some (.int .u32 (tabN.getD j 0 : Nat))
theorem Tab.below {w w' : World} {B : Nat} (h : Tab w) (hb : Below B w w') (hB : 0 < B) : Tab w' := fun i hi => (hb.cell (p := ⟨0, i, none⟩) hB).trans (h i hi)
theorem take_one (b : ByteArray) (i : Nat) (h : i < b.size) (r : Nat) : regs r (b.data.toList.take (i + 1)) = rb (regs r (b.data.toList.take i)) (b[i]).toNat := by
  rw [List.take_succ_eq_append_getElem (by simpa using h), regs_append, regs_one]; rfl
theorem not_nat (s : Nat) (hs : s < 4294967296) : bits .xor .u32 IntKind.u32.max (s : Int) = ((s ^^^ 4294967295 : Nat) : Int) := by
  have h := u32_xor_nat 4294967295 s (by omega) hs
  rw [Nat.xor_comm] at h
  exact h
theorem and15 (x : Nat) (hx : x < 4294967296) : bits .and .u32 (x : Int) 15 = ((x % 16 : Nat) : Int) := by
  have h := u32_and_nat x 15 hx (by omega)
  rw [show (15 : Nat) = 2 ^ 4 - 1 by rfl, Nat.and_two_pow_sub_one_eq_mod] at h
  exact h
theorem and1 (x : Nat) (hx : x < 4294967296) : bits .and .u32 (x : Int) 1 = ((x % 2 : Nat) : Int) := by
  have h := u32_and_nat x 1 hx (by omega)
  rw [show (1 : Nat) = 2 ^ 1 - 1 by rfl, Nat.and_two_pow_sub_one_eq_mod] at h
  exact h
set_option maxRecDepth 100000 in
set_option maxHeartbeats 4000000 in
theorem on_any (s : Nat) (b : ByteArray) (w : World) (ht : Tab w) (hs : s < 4294967296) (hb : b.size < 9223372036854775807) :
    Calls Tryz.prog 62 #[.int .u32 s, .string b] w fun e w' => e = .returned (.int .u32 (crc s b.data.toList)) ∧ w' = w := by
  have hf := flip_lt hs
  go_enter Tryz.func62, Tryz.ntmps62
  go_wp2_with (rw [not_nat s hs])
  go_loopw [5, 11] (fun u v wr => ∃ r i : Nat, u = .int .u32 r ∧ v = .int .i64 i ∧ i ≤ b.size ∧ r < 4294967296 ∧ r = regs (s ^^^ 4294967295) (b.data.toList.take i) ∧ wr = w) (fun _ v _ => b.size - (intOf v).toNat)
  case atStart => exact ⟨_, 0, rfl, rfl, Nat.zero_le _, hf, rfl, rfl⟩
  case round =>
    obtain ⟨r, i, rfl, rfl, hi, hr, hreg, rfl⟩ := hrel
    by_cases hlt : i < b.size
    · have hc := (b[i]).toNat_lt
      have h1 := u32_xor_nat r (b[i]).toNat hr (by omega)
      have hx : r ^^^ (b[i]).toNat < 4294967296 := Nat.xor_lt_two_pow (n := 32) hr (by omega)
      have HR : Hid (regs (s ^^^ 4294967295) (b.data.toList.take (i + 1)) = stN 4 (stN 4 (r ^^^ (b[i]).toNat))) := by
        show _ = _; rw [take_one b i hlt, ← hreg, rb_two]
      clear hreg
      generalize r ^^^ (b[i]).toNat = x at *
      have h2 := and15 x hx
      have c2 := ht (x % 16) (Nat.mod_lt _ (by omega))
      rw [tabN_at _ (Nat.mod_lt _ (by omega))] at c2
      have l2 := stN_lt 4 (r := x % 16) (by omega)
      have h3 := u32_xor_nat (x / 16) (stN 4 (x % 16)) (by omega) l2
      rw [← stN4, show ((x / 16 : Nat) : Int) = (x : Int) / 16 by omega] at h3
      have hy := stN_lt 4 hx
      generalize stN 4 x = y at *
      have h4 := and15 y hy
      have c4 := ht (y % 16) (Nat.mod_lt _ (by omega))
      rw [tabN_at _ (Nat.mod_lt _ (by omega))] at c4
      have l4 := stN_lt 4 (r := y % 16) (by omega)
      have h5 := u32_xor_nat (y / 16) (stN 4 (y % 16)) (by omega) l4
      rw [← stN4, show ((y / 16 : Nat) : Int) = (y : Int) / 16 by omega] at h5
      have hz := stN_lt 4 hy
      generalize stN 4 y = z at *
      go_wp2
      refine ⟨⟨z, i + 1, rfl, rfl, hlt, hz, HR.out.symm, trivial⟩, ?_⟩
      simp only [intOf]; omega
    · have e : i = b.size := by omega
      subst e
      rw [List.take_of_length_le (by simp)] at hreg
      have HG : Hid (r = regs (s ^^^ 4294967295) b.data.toList) := hreg
      clear hreg
      go_wp2
      go_ret
      exact ⟨ret_int (by rw [not_nat r hr, HG.out]; rfl), rfl⟩
set_option maxRecDepth 100000 in
set_option maxHeartbeats 4000000 in
theorem ron_any (s : Nat) (b : ByteArray) (w : World) (hs : s < 4294967296) (hb : b.size < 9223372036854775807) :
    Calls Tryz.prog 52 #[.int .u32 s, .string b] w fun e w' => e = .returned (.int .u32 (crc s b.data.toList)) ∧ w' = w := by
  have hf := flip_lt hs
  have hn := u32_xor_nat s 4294967295 hs (by omega)
  go_enter Tryz.func52, Tryz.ntmps52
  go_wp2
  go_loopw [5, 6] (fun u v wr => ∃ r i : Nat, u = .int .u32 r ∧ v = .int .i64 i ∧ i ≤ b.size ∧ r < 4294967296 ∧ r = regs (s ^^^ 4294967295) (b.data.toList.take i) ∧ wr = w) (fun _ v _ => b.size - (intOf v).toNat)
  case atStart => exact ⟨_, 0, ival hn, rfl, Nat.zero_le _, hf, rfl, rfl⟩
  case round =>
    obtain ⟨r, i, rfl, rfl, hi, hr, hreg, rfl⟩ := hrel
    by_cases hlt : i < b.size
    · have hc := (b[i]).toNat_lt
      have h1 := u32_xor_nat r (b[i]).toNat hr (by omega)
      have hx : r ^^^ (b[i]).toNat < 4294967296 := Nat.xor_lt_two_pow (n := 32) hr (by omega)
      have HR : Hid (regs (s ^^^ 4294967295) (b.data.toList.take (i + 1)) = stN 8 (r ^^^ (b[i]).toNat)) := by
        show _ = _; rw [take_one b i hlt, ← hreg, rb_def]
      clear hreg
      generalize r ^^^ (b[i]).toNat = x at *
      go_wp2
      go_loopw [5, 7] (fun u v ws => ∃ y k : Nat, u = .int .u32 y ∧ v = .int .i64 k ∧ k ≤ 8 ∧ y < 4294967296 ∧ y = stN k x ∧ ws = wr) (fun _ v _ => 8 - (intOf v).toNat)
      case atStart => exact ⟨x, 0, rfl, rfl, by omega, hx, rfl, rfl⟩
      case round =>
        obtain ⟨y, k, rfl, rfl, hk, hy, hst, rfl⟩ := hrel
        have HS : Hid (y = stN k x) := hst
        clear hst
        by_cases h8 : k < 8
        · have ha := and1 y hy
          by_cases h2 : y % 2 = 1
          · have hz := u32_xor_nat (y / 2) 2197175160 (by omega) (by omega)
            rw [show ((y / 2 : Nat) : Int) = (y : Int) / 2 by omega] at hz
            have HZ : Hid (y / 2 ^^^ 2197175160 = stN (k + 1) x) := by
              show _ = _; rw [stN_succ, ← HS.out]; unfold st; rw [if_pos h2]
            have hzl : y / 2 ^^^ 2197175160 < 4294967296 := Nat.xor_lt_two_pow (n := 32) (by omega) (by omega)
            generalize y / 2 ^^^ 2197175160 = z at *
            rw [h2] at ha
            go_wp2
            refine ⟨⟨z, k + 1, ival hz, rfl, h8, hzl, HZ.out, trivial⟩, ?_⟩
            simp only [intOf]; omega
          · have HZ : Hid (y / 2 = stN (k + 1) x) := by
              show _ = _; rw [stN_succ, ← HS.out]; unfold st; rw [if_neg h2]
            rw [show y % 2 = 0 by omega] at ha
            go_wp2
            refine ⟨⟨y / 2, k + 1, rfl, rfl, h8, by omega, HZ.out, trivial⟩, ?_⟩
            simp only [intOf]; omega
        · have e : k = 8 := by omega
          subst e
          go_wp2
          refine ⟨⟨y, i + 1, rfl, rfl, hlt, hy, ?_, trivial⟩, ?_⟩
          · rw [HS.out]; exact HR.out.symm
          · simp only [intOf]; omega
    · have e : i = b.size := by omega
      subst e
      rw [List.take_of_length_le (by simp)] at hreg
      have HG : Hid (r = regs (s ^^^ 4294967295) b.data.toList) := hreg
      clear hreg
      go_wp2
      go_ret
      have hn := u32_xor_nat r 4294967295 hr (by omega)
      exact ⟨ret_int (hn.trans (by rw [HG.out]; rfl)), rfl⟩
/-- The sum of a text. -/
def sumL (l : List UInt8) : Nat := crc 0 l
theorem sum_any (b : ByteArray) (w : World) (ht : Tab w) (hb : b.size < 9223372036854775807) :
    Calls Tryz.prog 69 #[.string b] w fun e w' => e = .returned (.int .u32 (crc 0 b.data.toList)) ∧ w' = w := by
  go_enter Tryz.func69, Tryz.ntmps69
  go_wp2_with fail
  refine (on_any 0 b _ ht (by omega) hb).mono ?_
  rintro e w1 ⟨rfl, rfl⟩
  go_wp2
  go_ret
  exact ⟨rfl, rfl⟩
theorem rsum_any (b : ByteArray) (w : World) (hb : b.size < 9223372036854775807) :
    Calls Tryz.prog 81 #[.string b] w fun e w' => e = .returned (.int .u32 (crc 0 b.data.toList)) ∧ w' = w := by
  go_enter Tryz.func81, Tryz.ntmps81
  go_wp2_with fail
  refine (ron_any 0 b _ (by omega) hb).mono ?_
  rintro e w1 ⟨rfl, rfl⟩
  go_wp2
  go_ret
  exact ⟨rfl, rfl⟩
end Go.Proofs.YtjdpolhjbkpnlaaGreatDoor
namespace Go.Proofs.YtjdpolhjbkpnlaaGreatDoor
open Go.ChangeShapes Go.WideShapes Go.ChangeAt Go.WideMaps Go.WideElems Go.RowKit Go.Proofs.SealMath
theorem own : ownKnob Tryz.prog.godebug = none := by kernel_rfl
theorem gTab : Tryz.prog.globalNamed "kindred/seal.table" = some 0 := by kernel_rfl
theorem tTab : (Tryz.prog.globals[0]?).map (·.type) = some 154 := by kernel_rfl
theorem c5 : Tryz.prog.cellsOf 102 = 1 := by kernel_rfl
theorem cTab : Tryz.prog.cellsOf 154 = 16 := by kernel_rfl
/-- What the rows list. -/
abbrev lst : List (String × DataW Unit) := [("kindred/seal.table", Rows.laid_kindred_seal_table)]
theorem door_met (os : Os) (args : Array Value) : laidMetH Tryz.prog lst ((World.doorLaid Tryz.prog 4000 os).forCall (fun _ _ => 0) ⟨#[], args, []⟩).memory :=
  laidMetH_of_parts3 (fuel := 8) (laidMet_of_run' 8 (by kernel_rfl) (by kernel_rfl)) (by kernel_rfl) (by kernel_rfl)
def tabZ : List Int := [0, 274646895, 549293790, 820201905, 1098587580, 1361435347, 1640403810, 1905808397, 2197175160, 2460548119, 2722870694, 2987750089, 3280807620, 3553878443, 3811616794, 4084100981]
theorem tabZ_at : ∀ i, i < 16 → tabZ.getD i 0 = ((tabN.getD i 0 : Nat) : Int) := by decide +kernel
/-- The table, out of the condition. -/
theorem tab_of {W : World} (h : laidMetH Tryz.prog lst W) : Tab W := by
  rw [MakeChecks.laidMetH_plain _ _ _ (by kernel_rfl)] at h
  have hT := Lib.tabIs_of_head (k := .u32) (zs := tabZ) (rest := []) gTab tTab Tryz.underlying154 Tryz.underlying102 c5 cTab h
  intro i hi
  rw [← tabZ_at i hi]
  exact hT.cell gTab i hi
theorem tab_pos {W : World} (h : Tab W) : 0 < W.heap.size := World.block_lt_of_cell? W ⟨0, 0, none⟩ (h 0 (by omega))
end Go.Proofs.YtjdpolhjbkpnlaaGreatDoor
namespace Go.Proofs.YtjdpolhjbkpnlaaGreatDoor
open Go.RowKit
/-- The first n cells of block g hold these bytes, and may be written. -/
def BA (W : World) (g n : Nat) (f : Nat → Nat) : Prop := ∀ k, k < n → W.cell? ⟨g, k, none⟩ = some (.int .u8 (f k)) ∧ W.frozen? ⟨g, k, none⟩ = false
theorem BA.ext {W : World} {g n : Nat} {f f' : Nat → Nat} (h : BA W g n f) (e : ∀ k, k < n → f k = f' k) : BA W g n f' := fun k hk => by rw [← e k hk]; exact h k hk
theorem BA.set {W : World} {g n : Nat} {f : Nat → Nat} (h : BA W g n f) (j : Nat) (x : Nat) : BA (W.setCell ⟨g, j, none⟩ (.int .u8 x)) g n (fun k => if k = j then x else f k) := fun k hk => by
  obtain ⟨h1, h2⟩ := h k hk
  refine ⟨?_, by rw [World.frozen?_setCell]; exact h2⟩
  by_cases e : k = j
  · subst e; rw [World.cell?_setCell_same _ _ _ h1]; simp
  · rw [World.cell?_setCell_other _ _ _ _ (fun he => e (by cases he; rfl)), h1]; simp [e]
theorem BA.new (W : World) (t : TypeId) (n : Nat) (l : List Value) (hl : l = List.replicate n (.int .u8 0)) : BA (W.alloc (.cells l.toArray t)) W.heap.size n (fun _ => 0) := fun k hk => by
  subst hl
  have hh := heap_alloc_last W (.cells (List.replicate n (Value.int .u8 0)).toArray t)
  refine ⟨?_, frozen_of_row _ _ _ _ _ hh⟩
  rw [cell_of_row _ _ k _ t (0, 0) hh]
  simp [hk]
/-- What the bytes are as a text. -/
theorem BA.conv {W : World} {g n : Nat} {f : Nat → Nat} (h : BA W g n f) (l : List UInt8) (cap : Nat) (hl : l.length ≤ n) (e : ∀ k (hk : k < l.length), (l[k]).toNat = f k) :
    (convert 98 9 (.slice (some ⟨g, 0, none⟩) l.length cap)).run Tryz.prog W = .ok (.string ⟨l.toArray⟩) W :=
  run_convert_bytes_back W 98 9 5 ⟨g, 0, none⟩ cap l Tryz.underlying98 Tryz.underlying5 Tryz.underlying9 (fun j hj => by
    have := (h j (by omega)).1
    have ea : (⟨g, 0, none⟩ : Addr).add j = ⟨g, j, none⟩ := by unfold Addr.add; split <;> simp_all
    rw [ea, this, ← e j hj])
end Go.Proofs.YtjdpolhjbkpnlaaGreatDoor
namespace Go.Proofs.YtjdpolhjbkpnlaaGreatDoor
open Go.RowKit Go.Proofs.SealMath
theorem isSize_any (n : Int) (w : World) :
    Calls Tryz.prog 78 #[.int .i64 n] w fun e w' => e = .returned (.bool (decide (1 ≤ n ∧ n ≤ 8))) ∧ w' = w := by
  by_cases h1 : 1 ≤ n
  · by_cases h2 : n ≤ 8
    · go_enter Tryz.func78, Tryz.ntmps78
      go_wp2
      go_ret
      exact ⟨ret_bool (by simp [h1, h2]), rfl⟩
    · go_enter Tryz.func78, Tryz.ntmps78
      go_wp2
      go_ret
      exact ⟨ret_bool (by simp [h2]), rfl⟩
  · go_enter Tryz.func78, Tryz.ntmps78
    go_wp2
    go_ret
    exact ⟨ret_bool (by rw [decide_eq_false (show ¬ 1 ≤ n by omega)]; rfl), rfl⟩
/-- The bytes of a number, the greatest first. -/
def fxB (v n k : Nat) : Nat := v / 256 ^ (n - 1 - k) % 256
def fixL (v n : Nat) : List UInt8 := (List.range n).map fun k => UInt8.ofNat (fxB v n k)
theorem fixL_len (v n : Nat) : (fixL v n).length = n := by simp [fixL]
theorem fixL_at (v n k : Nat) (h : k < n) : (fixL v n)[k]'(by rw [fixL_len]; exact h) = UInt8.ofNat (fxB v n k) := by simp [fixL]
theorem fixL_nat (v n k : Nat) (h : k < n) : ((fixL v n)[k]'(by rw [fixL_len]; exact h)).toNat = fxB v n k := by
  rw [fixL_at v n k h, UInt8.toNat_ofNat']; exact Nat.mod_mod _ _
theorem pow256 (k : Nat) : 256 ^ k = 2 ^ (8 * k) := by rw [Nat.pow_mul]
theorem arr8_slice (W : World) (g n : Nat) (hn : n ≤ 8) :
    (Instr.sliceAt 161 (.pointer (some ⟨g, 0, none⟩)) none (some (.int .i64 n)) none).run Tryz.prog W = .ok (.slice (some ⟨g, 0, none⟩) n 8) W := by
  have hal : Tryz.prog.arrayLen 161 = 8 := by simp [Program.arrayLen, Tryz.underlying161]
  rw [run_sliceAt_array_h W 161 ⟨g, 0, none⟩ (by simp [Program.arrayLen, Program.elem, Tryz.underlying161]) .i64 (n : Int) (by omega) (by rw [hal]; omega)]
  have he : Tryz.prog.elem 161 = 5 := by simp [Program.elem, Tryz.underlying161]
  have hs : (sizeOf 5).run Tryz.prog W = .ok 1 W := by kernel_rfl
  rw [he, hs, hal]
  have ea : (⟨g, 0, none⟩ : Addr).add 0 = ⟨g, 0, none⟩ := by unfold Addr.add; split <;> simp_all
  simp [slicedAt, Result.andThen, ea]
set_option maxRecDepth 100000 in
set_option maxHeartbeats 4000000 in
theorem putfix_ok (v n : Nat) (w : World) (_hv : v < 18446744073709551616) (h1 : 1 ≤ n) (h8 : n ≤ 8) (hs : v < 256 ^ n) :
    Calls Tryz.prog 95 #[.int .u64 v, .int .i64 n] w fun e w' => e = .returned (.tuple #[.string ⟨(fixL v n).toArray⟩, .int .i64 0]) ∧ Below w.heap.size w w' := by
  have hz : ((v : Int) / 2 ^ (8 * n) != 0) = false := by
    have e : ((v : Int) / 2 ^ (8 * n)) = ((v / 2 ^ (8 * n) : Nat) : Int) := by simp
    rw [e, ← pow256, Nat.div_eq_of_lt hs]; rfl
  clear hs
  go_enter Tryz.func95, Tryz.ntmps95
  go_wp2_with fail
  refine (isSize_any _ _).mono ?_
  rintro e w1 ⟨rfl, rfl⟩
  rw [decide_eq_true (by omega : 1 ≤ (n : Int) ∧ (n : Int) ≤ 8)]
  go_wp2
  go_loopw [17] (fun u wr => ∃ i : Nat, u = .int .i64 i ∧ i ≤ n ∧ BA wr w1.heap.size 8 (fun k => if k < i then fxB v n k else 0) ∧ Below w1.heap.size w1 wr) (fun u _ => n - (intOf u).toNat)
  case atStart => exact ⟨0, rfl, Nat.zero_le _, BA.new w1 161 8 _ rfl, (Below.refl _ _).alloc (Nat.le_refl _) _⟩
  case round =>
    obtain ⟨i, rfl, hi, hBA, hbl⟩ := hrel
    by_cases hlt : i < n
    · obtain ⟨hc, hfz⟩ := hBA i (by omega)
      have HB : Hid (BA wr w1.heap.size 8 (fun k => if k < i then fxB v n k else 0)) := hBA
      clear hBA
      go_wp2
      have e : ((v : Int) / 2 ^ (8 * (n - 1 - i)) % 256) = ((fxB v n i : Nat) : Int) := by
        unfold fxB; rw [pow256]; simp
      rw [e]
      refine ⟨⟨i + 1, rfl, hlt, (HB.out.set i (fxB v n i)).ext fun k _ => ?_, hbl.setCell (p := ⟨w1.heap.size, i, none⟩) (Nat.le_refl _) _⟩, by simp only [intOf]; omega⟩
      by_cases e1 : k = i
      · subst e1; rw [if_pos rfl, if_pos (by omega)]
      · by_cases e2 : k < i
        · rw [if_neg e1, if_pos e2, if_pos (by omega)]
        · rw [if_neg e1, if_neg e2, if_neg (by omega)]
    · have e : i = n := by omega
      subst e
      have hcv := hBA.conv (fixL v i) 8 (by rw [fixL_len]; exact h8) (fun k hk => by
        rw [fixL_len] at hk
        rw [fixL_nat v i k hk, if_pos hk])
      rw [fixL_len] at hcv
      clear hBA
      have hsl := arr8_slice wr w1.heap.size i h8
      go_wp2
      go_ret2
      exact ⟨rfl, hbl⟩
/-- What PutFix answers. -/
def pfE (v : Nat) (n : Int) : Int := if 1 ≤ n ∧ n ≤ 8 then if v < 256 ^ n.toNat then 0 else 30 else 13
def pfT (v : Nat) (n : Int) : List UInt8 := if 1 ≤ n ∧ n ≤ 8 then if v < 256 ^ n.toNat then fixL v n.toNat else [] else []
set_option maxRecDepth 100000 in
set_option maxHeartbeats 1000000 in
theorem putfix_any (v : Nat) (n : Int) (w : World) (hv : v < 18446744073709551616) :
    Calls Tryz.prog 95 #[.int .u64 v, .int .i64 n] w fun e w' => e = .returned (.tuple #[.string ⟨(pfT v n).toArray⟩, .int .i64 (pfE v n)]) ∧ Below w.heap.size w w' := by
  unfold pfT pfE
  by_cases h : 1 ≤ n ∧ n ≤ 8
  · rw [if_pos h, if_pos h]
    obtain ⟨a, rfl⟩ : ∃ a : Nat, n = a := ⟨n.toNat, by omega⟩
    rw [Int.toNat_natCast]
    by_cases hs : v < 256 ^ a
    · rw [if_pos hs, if_pos hs]
      exact putfix_ok v a w hv (by omega) (by omega) hs
    · rw [if_neg hs, if_neg hs]
      have ha : 1 ≤ a ∧ a ≤ 8 := by omega
      clear h
      have hz : ((v : Int) / 2 ^ (8 * a) != 0) = true := by
        have e : ((v : Int) / 2 ^ (8 * a)) = ((v / 2 ^ (8 * a) : Nat) : Int) := by simp
        have hp : 0 < v / 2 ^ (8 * a) := Nat.div_pos (by rw [← pow256]; omega) (Nat.two_pow_pos _)
        rw [e]; simp; omega
      clear hs
      go_enter Tryz.func95, Tryz.ntmps95
      go_wp2_with fail
      refine (isSize_any _ _).mono ?_
      rintro e w1 ⟨rfl, rfl⟩
      rw [decide_eq_true (by omega : 1 ≤ (a : Int) ∧ (a : Int) ≤ 8)]
      go_wp2
      go_ret2
      exact ⟨rfl, Below.refl _ _⟩
  · rw [if_neg h, if_neg h]
    go_enter Tryz.func95, Tryz.ntmps95
    go_wp2_with fail
    refine (isSize_any _ _).mono ?_
    rintro e w1 ⟨rfl, rfl⟩
    rw [decide_eq_false h]
    go_wp2
    go_ret2
    exact ⟨rfl, Below.refl _ _⟩
/-- The number of some bytes, the greatest first. -/
def numL (l : List UInt8) : Nat := l.foldl (fun v c => 256 * v + c.toNat) 0
theorem numL_snoc (l : List UInt8) (c : UInt8) : numL (l ++ [c]) = 256 * numL l + c.toNat := by unfold numL; rw [List.foldl_append]; rfl
theorem numL_lt (l : List UInt8) : numL l < 256 ^ l.length := by
  suffices h : ∀ (m : List UInt8), numL m.reverse < 256 ^ m.length by simpa using h l.reverse
  intro m
  induction m with
  | nil => exact Nat.one_pos
  | cons c m ih => rw [List.reverse_cons, numL_snoc, List.length_cons, Nat.pow_succ]; have := c.toNat_lt; omega
/-- The part of a text. -/
def sub (b : ByteArray) (a n : Nat) : List UInt8 := (b.data.toList.drop a).take n
theorem sub_len (b : ByteArray) (a n : Nat) (h : a + n ≤ b.size) : (sub b a n).length = n := by
  unfold sub; rw [List.length_take, List.length_drop]; have : b.data.toList.length = b.size := Array.length_toList
  omega
theorem sub_snoc (b : ByteArray) (a n : Nat) (h : a + n < b.size) : sub b a (n + 1) = sub b a n ++ [b[a + n]] := by
  unfold sub
  have hl : n < (b.data.toList.drop a).length := by rw [List.length_drop]; have : b.data.toList.length = b.size := Array.length_toList
                                                    omega
  rw [List.take_succ_eq_append_getElem hl]; simp; rfl
theorem numL_sub_lt (b : ByteArray) (a n m : Nat) (h : a + n ≤ b.size) (hm : n ≤ m) : numL (sub b a n) < 256 ^ m := by
  have := numL_lt (sub b a n)
  rw [sub_len b a n h] at this
  exact Nat.lt_of_lt_of_le this (Nat.pow_le_pow_right (by decide) hm)
end Go.Proofs.YtjdpolhjbkpnlaaGreatDoor
namespace Go.Proofs.YtjdpolhjbkpnlaaGreatDoor
open Go.RowKit Go.Proofs.SealMath
theorem isPlace_any (b : ByteArray) (p : Int) (w : World) :
    Calls Tryz.prog 58 #[.string b, .int .i64 p] w fun e w' => e = .returned (.bool (decide (0 ≤ p ∧ p ≤ b.size))) ∧ w' = w := by
  by_cases h1 : 0 ≤ p
  · by_cases h2 : p ≤ (b.size : Int)
    · go_enter Tryz.func58, Tryz.ntmps58
      go_wp2
      go_ret
      exact ⟨ret_bool (by simp [h1, h2]), rfl⟩
    · go_enter Tryz.func58, Tryz.ntmps58
      go_wp2
      go_ret
      exact ⟨ret_bool (by simp [h2]), rfl⟩
  · go_enter Tryz.func58, Tryz.ntmps58
    go_wp2
    go_ret
    exact ⟨ret_bool (by rw [decide_eq_false (show ¬ 0 ≤ p by omega)]; rfl), rfl⟩
theorem or_add (v c : Nat) (hc : c < 256) : v * 256 ||| c = 256 * v + c := by
  have := Nat.two_pow_add_eq_or_of_lt (i := 8) (b := c) (by omega) v
  rw [Nat.mul_comm v 256]; exact this.symm
theorem numL_bound (b : ByteArray) (a n m : Nat) (h : a + n ≤ b.size) (hm : n ≤ m) (h8 : m ≤ 8) : numL (sub b a n) < 18446744073709551616 := by
  have := numL_sub_lt b a n 8 h (by omega); simpa using this
set_option maxRecDepth 100000 in
set_option maxHeartbeats 4000000 in
theorem fix_ok (b : ByteArray) (a n : Nat) (w : World) (hb : b.size < 4611686018427387904) (h1 : 1 ≤ n) (h8 : n ≤ 8) (hs : a + n ≤ b.size) :
    Calls Tryz.prog 38 #[.string b, .int .i64 a, .int .i64 n] w fun e w' => e = .returned (.tuple #[.int .u64 (numL (sub b a n)), .int .i64 0]) ∧ w' = w := by
  go_enter Tryz.func38, Tryz.ntmps38
  go_wp2_with fail
  refine (isSize_any _ _).mono ?_
  rintro e w1 ⟨rfl, rfl⟩
  rw [decide_eq_true (by omega : 1 ≤ (n : Int) ∧ (n : Int) ≤ 8)]
  go_wp2_with fail
  refine (isPlace_any _ _ _).mono ?_
  rintro e w1 ⟨rfl, rfl⟩
  rw [decide_eq_true (by omega : 0 ≤ (a : Int) ∧ (a : Int) ≤ b.size)]
  go_wp2
  go_loopw [8, 26] (fun x u wr => ∃ i : Nat, u = .int .i64 i ∧ x = .int .u64 (numL (sub b a i)) ∧ i ≤ n ∧ wr = w1) (fun _ u _ => n - (intOf u).toNat)
  case atStart => exact ⟨0, rfl, rfl, Nat.zero_le _, rfl⟩
  case round =>
    obtain ⟨i, rfl, rfl, hi, rfl⟩ := hrel
    by_cases hlt : i < n
    · have hc := (b[a + i]).toNat_lt
      have HV : Hid (numL (sub b a (i + 1)) = 256 * numL (sub b a i) + (b[a + i]).toNat) := by
        show _ = _; rw [sub_snoc b a i (by omega), numL_snoc]
      have hB := numL_bound b a (i + 1) n (by omega) hlt h8
      rw [HV.out] at hB
      have ho := u64_or_nat (numL (sub b a i) * 256) (b[a + i]).toNat (by omega) (by omega)
      rw [or_add _ _ hc] at ho
      generalize numL (sub b a i) = V at *
      rw [show ((V * 256 : Nat) : Int) = (V : Int) * 256 by simp] at ho
      go_wp2
      refine ⟨⟨i + 1, rfl, ?_, hlt, trivial⟩, by simp only [intOf]; omega⟩
      rw [HV.out]; rfl
    · have e : i = n := by omega
      subst e
      go_wp2
      go_ret2
      exact ⟨rfl, rfl⟩
/-- What Fix answers. -/
def fxE (b : ByteArray) (p n : Int) : Int := if 1 ≤ n ∧ n ≤ 8 then if 0 ≤ p ∧ p ≤ b.size then if n ≤ b.size - p then 0 else 31 else 13 else 13
def fxV (b : ByteArray) (p n : Int) : Nat := if fxE b p n = 0 then numL (sub b p.toNat n.toNat) else 0
theorem fxE_ok {b : ByteArray} {p n : Int} (h : 1 ≤ n ∧ n ≤ 8) (k : 0 ≤ p ∧ p ≤ b.size) (l : n ≤ b.size - p) : fxE b p n = 0 := by unfold fxE; rw [if_pos h, if_pos k, if_pos l]
theorem fxE_31 {b : ByteArray} {p n : Int} (h : 1 ≤ n ∧ n ≤ 8) (k : 0 ≤ p ∧ p ≤ b.size) (l : ¬ n ≤ b.size - p) : fxE b p n = 31 := by unfold fxE; rw [if_pos h, if_pos k, if_neg l]
theorem fxE_13 {b : ByteArray} {p n : Int} (h : 1 ≤ n ∧ n ≤ 8) (k : ¬ (0 ≤ p ∧ p ≤ b.size)) : fxE b p n = 13 := by unfold fxE; rw [if_pos h, if_neg k]
theorem fxE_13' {b : ByteArray} {p n : Int} (h : ¬ (1 ≤ n ∧ n ≤ 8)) : fxE b p n = 13 := by unfold fxE; rw [if_neg h]
set_option maxRecDepth 100000 in
set_option maxHeartbeats 1000000 in
theorem fix_any (b : ByteArray) (p n : Int) (w : World) (hb : b.size < 4611686018427387904) :
    Calls Tryz.prog 38 #[.string b, .int .i64 p, .int .i64 n] w fun e w' => e = .returned (.tuple #[.int .u64 (fxV b p n), .int .i64 (fxE b p n)]) ∧ w' = w := by
  by_cases h : 1 ≤ n ∧ n ≤ 8
  · by_cases k : 0 ≤ p ∧ p ≤ b.size
    · by_cases l : n ≤ b.size - p
      · obtain ⟨a, rfl⟩ : ∃ a : Nat, n = a := ⟨n.toNat, by omega⟩
        obtain ⟨q, rfl⟩ : ∃ a : Nat, p = a := ⟨p.toNat, by omega⟩
        unfold fxV; rw [if_pos (fxE_ok h k l), fxE_ok h k l]
        exact fix_ok b q a w hb (by omega) (by omega) (by omega)
      · unfold fxV; rw [fxE_31 h k l, if_neg (by decide)]
        go_enter Tryz.func38, Tryz.ntmps38
        go_wp2_with fail
        refine (isSize_any _ _).mono ?_
        rintro e w1 ⟨rfl, rfl⟩
        rw [decide_eq_true h]
        go_wp2_with fail
        refine (isPlace_any _ _ _).mono ?_
        rintro e w1 ⟨rfl, rfl⟩
        rw [decide_eq_true k]
        obtain ⟨k1, k2⟩ := k
        obtain ⟨h1, h2⟩ := h
        go_wp2
        go_ret2
        exact ⟨rfl, rfl⟩
    · unfold fxV; rw [fxE_13 h k, if_neg (by decide)]
      go_enter Tryz.func38, Tryz.ntmps38
      go_wp2_with fail
      refine (isSize_any _ _).mono ?_
      rintro e w1 ⟨rfl, rfl⟩
      rw [decide_eq_true h]
      go_wp2_with fail
      refine (isPlace_any _ _ _).mono ?_
      rintro e w1 ⟨rfl, rfl⟩
      rw [decide_eq_false k]
      clear h k
      go_wp2
      go_ret2
      exact ⟨rfl, rfl⟩
  · unfold fxV; rw [fxE_13' h, if_neg (by decide)]
    go_enter Tryz.func38, Tryz.ntmps38
    go_wp2_with fail
    refine (isSize_any _ _).mono ?_
    rintro e w1 ⟨rfl, rfl⟩
    rw [decide_eq_false h]
    clear h
    go_wp2
    go_ret2
    exact ⟨rfl, rfl⟩
set_option maxRecDepth 100000 in
set_option maxHeartbeats 4000000 in
theorem number_ok (b : ByteArray) (a n : Nat) (w : World) (hb : b.size < 4611686018427387904) (h8 : n ≤ 8) (hs : a + n ≤ b.size) :
    Calls Tryz.prog 101 #[.string b, .int .i64 a, .int .i64 n] w fun e w' => e = .returned (.int .u64 (numL (sub b a n))) ∧ w' = w := by
  go_enter Tryz.func101, Tryz.ntmps101
  go_wp2
  go_loopw [7, 8] (fun x u wr => ∃ i : Nat, u = .int .i64 i ∧ x = .int .u64 (numL (sub b a i)) ∧ i ≤ n ∧ wr = w) (fun _ u _ => n - (intOf u).toNat)
  case atStart => exact ⟨0, rfl, rfl, Nat.zero_le _, rfl⟩
  case round =>
    obtain ⟨i, rfl, rfl, hi, rfl⟩ := hrel
    by_cases hlt : i < n
    · have hc := (b[a + i]).toNat_lt
      have HV : Hid (numL (sub b a (i + 1)) = 256 * numL (sub b a i) + (b[a + i]).toNat) := by
        show _ = _; rw [sub_snoc b a i (by omega), numL_snoc]
      have hB := numL_bound b a (i + 1) n (by omega) hlt h8
      rw [HV.out] at hB
      generalize numL (sub b a i) = V at *
      go_wp2
      refine ⟨⟨i + 1, rfl, ?_, hlt, trivial⟩, by simp only [intOf]; omega⟩
      rw [HV.out]; rfl
    · have e : i = n := by omega
      subst e
      go_wp2
      go_ret
      exact ⟨rfl, rfl⟩
set_option maxRecDepth 100000 in
set_option maxHeartbeats 1000000 in
theorem rfix_any (b : ByteArray) (p n : Int) (w : World) (hb : b.size < 4611686018427387904) :
    Calls Tryz.prog 83 #[.string b, .int .i64 p, .int .i64 n] w fun e w' => e = .returned (.tuple #[.int .u64 (fxV b p n), .int .i64 (fxE b p n)]) ∧ w' = w := by
  by_cases h : 1 ≤ n
  · by_cases h' : n ≤ 8
    · by_cases k : 0 ≤ p
      · by_cases k' : p ≤ b.size
        · by_cases l : n ≤ b.size - p
          · obtain ⟨a, rfl⟩ : ∃ a : Nat, n = a := ⟨n.toNat, by omega⟩
            obtain ⟨q, rfl⟩ : ∃ a : Nat, p = a := ⟨p.toNat, by omega⟩
            unfold fxV; rw [if_pos (fxE_ok ⟨h, h'⟩ ⟨k, k'⟩ l), fxE_ok ⟨h, h'⟩ ⟨k, k'⟩ l]
            go_enter Tryz.func83, Tryz.ntmps83
            go_wp2_with fail
            refine (number_ok b q a _ hb (by omega) (by omega)).mono ?_
            rintro e w1 ⟨rfl, rfl⟩
            go_wp2
            go_ret2
            exact ⟨rfl, rfl⟩
          · unfold fxV; rw [fxE_31 ⟨h, h'⟩ ⟨k, k'⟩ l, if_neg (by decide)]
            go_enter Tryz.func83, Tryz.ntmps83
            go_wp2
            go_ret2
            exact ⟨rfl, rfl⟩
        · unfold fxV; rw [fxE_13 ⟨h, h'⟩ (by omega), if_neg (by decide)]
          go_enter Tryz.func83, Tryz.ntmps83
          go_wp2
          go_ret2
          exact ⟨rfl, rfl⟩
      · unfold fxV; rw [fxE_13 ⟨h, h'⟩ (by omega), if_neg (by decide)]
        go_enter Tryz.func83, Tryz.ntmps83
        go_wp2
        go_ret2
        exact ⟨rfl, rfl⟩
    · unfold fxV; rw [fxE_13' (by omega), if_neg (by decide)]
      go_enter Tryz.func83, Tryz.ntmps83
      go_wp2
      go_ret2
      exact ⟨rfl, rfl⟩
  · unfold fxV; rw [fxE_13' (by omega), if_neg (by decide)]
    go_enter Tryz.func83, Tryz.ntmps83
    go_wp2
    go_ret2
    exact ⟨rfl, rfl⟩
theorem fixL_take (v n j : Nat) (h : j < n) : (fixL v n).take (j + 1) = (fixL v n).take j ++ [UInt8.ofNat (fxB v n j)] := by
  rw [List.take_succ_eq_append_getElem (by rw [fixL_len]; exact h), fixL_at v n j h]
set_option maxRecDepth 100000 in
set_option maxHeartbeats 4000000 in
theorem fixed_ok (v n : Nat) (w : World) (_hv : v < 18446744073709551616) (h1 : 1 ≤ n) (h8 : n ≤ 8) :
    Calls Tryz.prog 104 #[.int .u64 v, .int .i64 n] w fun e w' => e = .returned (.string ⟨(fixL v n).toArray⟩) ∧ Below w.heap.size w w' := by
  obtain ⟨i0, hi, hz0, hz1, hz2⟩ := info_parts Tryz.info5
  go_enter Tryz.func104, Tryz.ntmps104
  go_wp2
  go_loopw [5, 6] (fun s u wr => ∃ j m : Nat, j + m = n ∧ u = .int .i64 ((m : Int) - 1) ∧ wr.ownsRow w.heap.size 5 1 s j (((fixL v n).take j).map BV) ∧ Below w.heap.size w wr) (fun _ u _ => ((intOf u) + 1).toNat)
  case atStart => exact ⟨0, n, Nat.zero_add _, rfl, ⟨rfl, .inl ⟨rfl, rfl⟩⟩, Below.refl _ _⟩
  case round =>
    obtain ⟨j, m, hj, rfl, hown, hb⟩ := hrel
    rcases m with _ | q
    · have e : j = n := by omega
      subst e
      rw [List.take_of_length_le (by rw [fixL_len]; exact Nat.le_refl _)] at hown
      have hcv := conv_own (fixL v j) (by rw [fixL_len]; exact hown)
      rw [show ((0 : Nat) : Int) - 1 = -1 by rfl]
      clear hown
      go_wp2
      go_ret
      exact ⟨rfl, hb⟩
    · rw [show ((q + 1 : Nat) : Int) - 1 = (q : Int) by omega]
      have hq : q ≤ 7 := by omega
      have HJ : Hid (j + (q + 1) = n) := hj
      have HL : Hid (((fixL v n).take (j + 1)).map BV = ((fixL v n).take j).map BV ++ [.int .u8 ((v : Int) / 2 ^ (8 * q) % 256)]) := by
        show _ = _
        rw [fixL_take v n j (by omega), List.map_append]
        have e : n - 1 - j = q := by omega
        have e2 : (((v / 256 ^ q % 256) % 2 ^ 8 : Nat) : Int) = (v : Int) / 2 ^ (8 * q) % 256 := by
          rw [pow256]; simp
        simp only [List.map_cons, List.map_nil, BV, UInt8.toNat_ofNat', fxB, e, e2]
      have hjn : j ≤ 8 := by omega
      clear hj h1 h8
      go_wp2_with (at_builtin; refine wpList_append_own _ rfl _ _ 98 rfl w.heap.size 5 i0 (.int .u8 0) 1 1 Tryz.underlying98 hi hz0 hz1 hz2 rfl (by decide) _ _ _ rfl (hown.alloc _) ⟨wr.heap.size, 0, none⟩ 1 1 [.int .u8 ((v : Int) / 2 ^ (8 * q) % 256)] ?_ rfl (cell_one_new _ _ _) (fun x hx => by simp at hx; subst hx; rfl) (by unfold maxLen; omega) (by omega) (by have := hb.size; simp; omega) ?_; go_simp; intro v' w3 hown' hgrow3 hnil3)
      clear hnil3
      have hgr : (wr.alloc (Obj.cells #[Value.int IntKind.u8 ((v : Int) / 2 ^ (8 * q) % 256)] 5)).grownBy w3 u5.ownBlock := hgrow3
      clear hgrow3
      have hb3 : Below w.heap.size w w3 := (hb.alloc hb.size _).grown hgr (by have := hb.size; simp; omega) (fun k hk => (hown.lt k hk).1)
      have hJ := HJ.out
      refine ⟨⟨j + 1, q, by omega, rfl, ?_, hb3⟩, by simp only [intOf]; omega⟩
      rw [HL.out]; exact hown'
set_option maxRecDepth 100000 in
set_option maxHeartbeats 1000000 in
theorem rputfix_any (v : Nat) (n : Int) (w : World) (hv : v < 18446744073709551616) :
    Calls Tryz.prog 86 #[.int .u64 v, .int .i64 n] w fun e w' => e = .returned (.tuple #[.string ⟨(pfT v n).toArray⟩, .int .i64 (pfE v n)]) ∧ Below w.heap.size w w' := by
  unfold pfT pfE
  by_cases h : 1 ≤ n
  · by_cases h' : n ≤ 8
    · have hh : 1 ≤ n ∧ n ≤ 8 := ⟨h, h'⟩
      rw [if_pos hh, if_pos hh]
      clear hh
      obtain ⟨a, rfl⟩ : ∃ a : Nat, n = a := ⟨n.toNat, by omega⟩
      rw [Int.toNat_natCast]
      have ha : 1 ≤ a ∧ a ≤ 8 := by omega
      have e : ((v : Int) / 2 ^ (8 * a)) = ((v / 2 ^ (8 * a) : Nat) : Int) := by simp
      by_cases hs : v < 256 ^ a
      · rw [if_pos hs, if_pos hs]
        have hz : ((v : Int) / 2 ^ (8 * a) != 0) = false := by rw [e, ← pow256, Nat.div_eq_of_lt hs]; rfl
        clear hs e
        by_cases h8 : a < 8
        all_goals
          go_enter Tryz.func86, Tryz.ntmps86
          go_wp2_with fail
          refine (fixed_ok v a _ hv ha.1 ha.2).mono ?_
          rintro e w1 ⟨rfl, hb⟩
          go_wp2
          go_ret2
          exact ⟨rfl, hb⟩
      · rw [if_neg hs, if_neg hs]
        have h8 : a < 8 := by
          by_cases h8 : a = 8
          · subst h8; simp at hs; omega
          · omega
        have hz : ((v : Int) / 2 ^ (8 * a) != 0) = true := by
          have hp : 0 < v / 2 ^ (8 * a) := Nat.div_pos (by rw [← pow256]; omega) (Nat.two_pow_pos _)
          rw [e]; simp; omega
        clear hs e
        go_enter Tryz.func86, Tryz.ntmps86
        go_wp2
        go_ret2
        exact ⟨rfl, Below.refl _ _⟩
    · have hh : ¬ (1 ≤ n ∧ n ≤ 8) := by omega
      rw [if_neg hh, if_neg hh]
      clear hh
      go_enter Tryz.func86, Tryz.ntmps86
      go_wp2
      go_ret2
      exact ⟨rfl, Below.refl _ _⟩
  · have hh : ¬ (1 ≤ n ∧ n ≤ 8) := by omega
    rw [if_neg hh, if_neg hh]
    clear hh
    go_enter Tryz.func86, Tryz.ntmps86
    go_wp2
    go_ret2
    exact ⟨rfl, Below.refl _ _⟩
end Go.Proofs.YtjdpolhjbkpnlaaGreatDoor
