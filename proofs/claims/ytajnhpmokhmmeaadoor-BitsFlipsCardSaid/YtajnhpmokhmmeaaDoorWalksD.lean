/-
  DERIVED. Contracts: the document's own Xor.
-/
import Derived.Test.YtajnhpmokhmmeaaDoorWalksC
import Derived.Deep.RegionLaw
namespace Go.Proofs.YtajnhpmokhmmeaaDoor
open Go.RowKit Go.Proofs.BitMath
/-- append to a row of the call's own, as one step of a region that draws. -/
theorem step_append_own {P : Program} {ops : Array Oper} {o : Oper} {a : Act} {w : World} {K : Act → World → Prop} {Q : Exit → Act → World → Prop} {E : Prop}
    (hg : o.guard = none) (s x : Operand) (t : TypeId) (hop : o.op = Op.call { callee := Callee.builtin Builtin.append, args := #[s, x], argTypes := #[t, t] })
    (base : Nat) (e : TypeId) (i : TypeInfo) (z : Value) (size bytes : Nat) (h1 : P.underlying t = some (.slice e)) (h2 : P.info? e = some i) (h3 : i.zero = some z) (h4 : i.size = size) (h5 : i.bytes = bytes) (h6 : z.cells.size = size) (h7 : 0 < size)
    (v : Value) (n : Nat) (xs : List Value) (hs : a.eval s = v) (hown : w.ownsRow base e size v n xs)
    (ad : Addr) (m c : Nat) (news : List Value) (hx : a.eval x = .slice (some ad) m c) (hn : news.length = m * size) (hc : ∀ j u, news[j]? = some u → w.cell? (ad.add j) = some u) (h1c : ∀ u ∈ news, u.oneCell' = true)
    (b1 : n + m ≤ maxLen) (b2 : (n + m) * bytes ≤ 140737488355328) (hbase : base ≤ w.heap.size)
    (hK : ∀ v' w', w'.ownsRow base e size v' (n + m) (xs ++ news) → w.grownBy w' v.ownBlock → K (a.put o.dst v') w') :
    if Region.wanted o (yielded ops a.tmps) = true then Oper.wp P o a w K Q else E := by
  have hw : Region.wanted o (yielded ops a.tmps) = true := by simp [Region.wanted, hg]
  rw [if_pos hw]
  obtain ⟨v', w', hrun, r1, r2, _⟩ := run_append_own (P := P) w base t o.type e i z size bytes h1 h2 h3 h4 h5 h6 h7 v n xs hown ad m c news hn hc h1c b1 b2 hbase
  unfold Oper.wp
  simp [execOp, hop, resolve, invoke, builtin, hs, hx, hrun, Result.andThen]
  exact hK v' w' r1 r2
theorem conv_own {w : World} {B : Nat} {v : Value} (l : List UInt8) (h : w.ownsRow B 5 1 v l.length (l.map BV)) :
    (convert 41 9 v).run Tryd.prog w = .ok (.string ⟨l.toArray⟩) w := by
  rcases h.2 with ⟨rfl, h0⟩ | ⟨g, cap, cur, rfl, _⟩
  · rw [run_convert_bytes_string w 41 9 5 none 0 0 Tryd.underlying41 Tryd.underlying5 Tryd.underlying9]
    rw [List.eq_nil_of_length_eq_zero h0]; rfl
  · exact conv_row l h
/-- What was there stays behind an append to a row of the call's own. -/
theorem own_grow {w wr w' : World} {e : TypeId} {size : Nat} {v : Value} {n : Nat} {xs : List Value} {o : Obj} (hown : wr.ownsRow w.heap.size e size v n xs) (hb : Below w.heap.size w wr) (hg : (wr.alloc o).drew.grownBy w' v.ownBlock) : Below w.heap.size w w' :=
  ((hb.alloc hb.size o).drew).grown hg (by have := hb.size; simp; omega) (fun k h => (hown.lt k h).1)
set_option maxHeartbeats 400000 in
theorem rxor_no (a b : ByteArray) (w : World) (h : a.size ≠ b.size) :
    Calls Tryd.prog 16 #[.string a, .string b] w fun e w' => e = .returned (.tuple #[.string ⟨#[]⟩, .int .i64 11]) ∧ Below w.heap.size w w' := by
  have hne : ((a.size : Int) != (b.size : Int)) = true := by rw [bne_iff_ne]; omega
  go_enter Tryd.func16, Tryd.ntmps16
  go_wp2
  go_ret2
  exact ⟨rfl, Below.refl _ _⟩
set_option maxHeartbeats 400000 in
theorem rxor_yes (a b : ByteArray) (w : World) (hs : a.size ≤ 140737488351232) (h : a.size = b.size) :
    Calls Tryd.prog 16 #[.string a, .string b] w fun e w' => e = .returned (.tuple #[.string ⟨(xorL a.data.toList b.data.toList).toArray⟩, .int .i64 0]) ∧ Below w.heap.size w w' := by
  have hne : ((a.size : Int) != (b.size : Int)) = false := by rw [bne_eq_false_iff_eq]; omega
  have hle : a.size ≤ b.size := by omega
  have Hx : Hid ((xorL a.data.toList b.data.toList).length = a.size) := xorL_length _ _ (by simpa using h)
  obtain ⟨i0, hi, hz0, hz1, hz2⟩ := info_parts Tryd.info5
  clear h
  go_enter Tryd.func16, Tryd.ntmps16
  go_wp2
  go_loopw [6, 7] (fun v i wr => ∃ k : Nat, k ≤ a.size ∧ i = .int .i64 k ∧ wr.ownsRow w.heap.size 5 1 v k (((xorL a.data.toList b.data.toList).take k).map BV) ∧ Below w.heap.size w wr) (fun _ i _ => a.size - (intOf i).toNat)
  case atStart => exact ⟨0, Nat.zero_le _, rfl, World.ownsRow_nil _ _ _ _, Below.refl _ _⟩
  case round =>
    obtain ⟨k, hk, rfl, hown, hb⟩ := hrel
    by_cases hlt : k < a.size
    · have hltb : k < b.size := by omega
      have hx := u8_xor_nat a[k].toNat b[k].toNat a[k].toNat_lt b[k].toNat_lt
      have hk1 : (k : Int) < (a.size : Int) := by omega
      have hk2 : (k : Int) < (b.size : Int) := by omega
      have hsz := hb.size
      go_wp2
      go_region_law (refine step_append_own rfl (.tmp 19) (.tmp 27) 41 rfl w.heap.size 5 i0 (.int .u8 0) 1 1 Tryd.underlying41 hi hz0 hz1 hz2 rfl (by decide) u6 k (((xorL a.data.toList b.data.toList).take k).map BV) (by simp [Act.eval]) (by first | exact hown.alloc _ | exact (hown.alloc _).drew | exact (hown.drew.alloc _)) ⟨wr.heap.size, 0, none⟩ 1 1 [.int .u8 (a[k].toNat ^^^ b[k].toNat : Nat)] (by simp [Act.eval]) rfl (cell_one_new _ _ _) (by intro u hu; simp at hu; subst hu; rfl) (by unfold maxLen; omega) (by omega) (by simp; omega) ?_; intro v' w' hown' hgrow)
      all_goals
        have hb' := own_grow hown hb hgrow
        have HO : Hid _ := hown'
        clear hown hown' hgrow hb
        go_wp2
        refine ⟨⟨k + 1, hlt, by go_num, ?_, hb'⟩, by simp [intOf]; omega⟩
        rw [List.take_succ_eq_append_getElem (by rw [Hx.out]; exact hlt), xorL_get _ _ _ _ (by simpa using hlt) (by simpa using hltb), List.map_append]
        exact HO.out
    · have e : k = a.size := by omega
      have h1 : (xorL a.data.toList b.data.toList).take k = xorL a.data.toList b.data.toList := List.take_of_length_le (by rw [Hx.out, e]; exact Nat.le_refl _)
      have hcv := conv_own (w := wr) (xorL a.data.toList b.data.toList) (by rw [h1] at hown; rw [Hx.out, ← e]; exact hown)
      clear e h1 hown
      go_wp2
      go_ret2
      exact ⟨rfl, hb⟩
end Go.Proofs.YtajnhpmokhmmeaaDoor
