/-
  DERIVED. The law's spoil: its walk.
-/
import Derived.Test.YtmhifofeobhhgaaULaw2
set_option linter.unusedVariables false
set_option linter.unusedSimpArgs false
namespace Go.Proofs.Ytmhifofeobhhgaa
open Go.RowKit Go.Proofs.UnionMath
/-- What stands while lists are spoilt. -/
structure SI (B : Nat) (w wr : World) (v : Value) (ss : List Sl) (n : Nat) (len : Nat → Nat) (f : Nat → Nat → Int) : Prop where
  gl : GL B wr v ss (tab n len f)
  st : Stay (inB ss) w wr
theorem SI.cells {B : Nat} {w wr : World} {g c : Nat} {ss : List Sl} {n : Nat} {len : Nat → Nat} {f : Nat → Nat → Int} (h : SI B w wr (.slice (some ⟨g, 0, none⟩) n c) ss n len f) (i : Nat) (hi : i < n) : ∃ (hi' : i < ss.length) (a : Option Addr) (cc : Nat), ss[i] = (a, len i, cc) ∧ wr.cell? ⟨g, i, none⟩ = some (.slice a (len i) cc) ∧ ∀ k, k < len i → ∃ b, a = some ⟨b, 0, none⟩ ∧ wr.cell? ⟨b, k, none⟩ = some (.int .i64 (f i k)) ∧ wr.frozen? ⟨b, k, none⟩ = false := by
  have hi' : i < ss.length := by rw [h.gl.len, tab_len]; exact hi
  have c0 := (g_cell h.gl.row i hi').1
  have r := h.gl.each i hi' (by rw [tab_len]; exact hi)
  rw [tab_get] at r
  obtain ⟨a, cc, e', -⟩ := El.Row.form r
  have hl : ((List.range (len i)).map (f i)).length = len i := by simp
  rw [hl] at e'
  have e2 : ss[i] = (a, len i, cc) := by
    rcases hq : ss[i] with ⟨x, y, z⟩
    rw [hq] at e'
    injection e' with q1 q2 q3
    have q1 : x = a := q1
    have q2 : y = len i := q2
    have q3 : z = cc := q3
    rw [q1, q2, q3]
  refine ⟨hi', a, cc, e2, by rw [c0, e2], fun k hk => ?_⟩
  rw [e2] at r
  obtain ⟨b, cap, e3, k0, kf⟩ := i_cell r k (by simpa using hk)
  injection e3 with e4
  refine ⟨b, e4, ?_, kf⟩
  rw [k0]; simp
/-- A list that is being grown. -/
structure GW (wz wr : World) (s l : Value) (X : List Int) (t : Nat) : Prop where
  rs : iE.Row wr s X
  rl : iE.Row wr l (X ++ List.replicate t (-9))
  rel : (∃ g cap, s = .slice (some ⟨g, 0, none⟩) X.length cap ∧ l = .slice (some ⟨g, 0, none⟩) (X.length + t) cap) ∨ ∀ b, l.ownBlock = some b → wz.heap.size ≤ b
  st : Stay (fun k => s.ownBlock = some k) wz wr
  sb : ∀ b, s.ownBlock = some b → b < wz.heap.size
theorem GW.start {wz : World} {s : Value} {X : List Int} (h : iE.Row wz s X) : GW wz wz s s X 0 := by
  refine ⟨h, by simpa using h, ?_, .refl _ _, fun b hb => row_lt h hb⟩
  rcases h.2 with ⟨rfl, -⟩ | ⟨g, cap, cur, rfl, -⟩
  · right; intro b hb; cases hb
  · exact .inl ⟨g, cap, rfl, rfl⟩
theorem GW.step {wz wr : World} {s l : Value} {X : List Int} {t : Nat} (h : GW wz wr s l X t) (hX : X.length ≤ 1048577) (ht : t ≤ 100) :
    ∃ l' w', (Builtin.append_ #[22, 22] 22 #[l, .slice (some ⟨wr.heap.size, 0, none⟩) 1 1]).run Try.prog (wr.alloc (.cells #[.int .i64 (-9)] 3)) = .ok l' w' ∧ GW wz w' s l' X (t + 1) := by
  obtain ⟨l', w', hr, r1, r2, r3, r4⟩ := El.growX iOk wr X X.length t rfl s l (-9) wz.heap.size h.st.size h.rs h.rl h.rel h.sb (by omega)
  refine ⟨l', w', hr, r2, r1, r3, h.st.andThen r4 (fun k hk e => ?_), h.sb⟩
  rcases e with e | e
  · exact e
  · rcases h.rel with ⟨g, cap, q1, q2⟩ | q
    · rw [q2] at e; rw [q1]; exact e
    · have := q k e; omega
set_option maxHeartbeats 16000000 in
set_option maxRecDepth 100000 in
theorem spoil_any (B : Nat) (v : Value) (ss : List Sl) (L : List (List Int)) (w : World) (h : GL B w v ss L) (hf : L.length ≤ 1048577) (hl : ∀ X ∈ L, X.length ≤ 1048577) :
    Calls Try.prog 20 #[v] w fun e w' => e = .returned (.bool true) ∧ Stay (inB ss) w w' := by
  obtain ⟨n, hn⟩ : ∃ n, L.length = n := ⟨_, rfl⟩
  obtain ⟨a0, c, e1, -⟩ := h.row.form
  rw [h.len, hn] at e1
  rw [hn] at hf
  have hT := tab_self L
  rw [hn] at hT
  obtain ⟨len, hlen⟩ : ∃ len : Nat → Nat, len = fun j => (L.getD j []).length := ⟨_, rfl⟩
  obtain ⟨f0, hf0⟩ : ∃ f0 : Nat → Nat → Int, f0 = fun j k => (L.getD j []).getD k 0 := ⟨_, rfl⟩
  rw [← hlen, ← hf0] at hT
  have HLEN : Hid (∀ j, j < n → len j ≤ 1048577) := fun j hj => by
    rw [hlen]
    have hj' : j < L.length := by rw [hn]; exact hj
    simp only [List.getD, List.getElem?_eq_getElem hj', Option.getD_some]
    exact hl _ (List.getElem_mem hj')
  rw [hT] at h
  subst e1
  have H0 : Hid (SI B w w (.slice a0 n c) ss n len f0) := ⟨h, .refl _ _⟩
  clear h hT hlen hf0 hl hn
  go_enter Try.func20, Try.ntmps20
  go_wp2
  go_loopw [3] (fun u wr => ∃ (i : Nat) (f : Nat → Nat → Int), u = .int .i64 i ∧ i ≤ n ∧ Hid (SI B w wr (.slice a0 n c) ss n len f ∧ ∀ j k, j < i → k < len j → f j k = -1 - (j : Int))) (fun u _ => n - (intOf u).toNat)
  case atStart => exact ⟨0, f0, rfl, Nat.zero_le _, H0.out, fun j k hj => by omega⟩
  case round =>
    obtain ⟨i, f, rfl, hin, HI⟩ := hrel
    clear H0
    by_cases hlt : i < n
    · have hlt' : (i : Int) < (n : Int) := by omega
      obtain ⟨g, hg⟩ : ∃ g, a0 = some ⟨g, 0, none⟩ := by
        obtain ⟨g', cap', e', -⟩ := El.cells gOk HI.out.1.gl.row i (by rw [HI.out.1.gl.len, tab_len]; exact hlt)
        injection e' with e1; exact ⟨g', e1⟩
      subst hg
      have wi : IntKind.i64.wrap ((i : Int) + 1) = ((i + 1 : Nat) : Int) := i64_in _ (by omega) (by omega)
      have wm : IntKind.i64.wrap (-1 - (i : Int)) = -1 - (i : Int) := by rw [IntKind.wrap_i64]; omega
      obtain ⟨xi, hxi⟩ : ∃ xi : Int, -1 - (i : Int) = xi := ⟨_, rfl⟩
      rw [hxi] at wm
      have hll := HLEN.out i hlt
      obtain ⟨wz, hwz⟩ : ∃ wz, wz = wr := ⟨_, rfl⟩
      subst hwz
      have H1 : Hid (SI B w wz (.slice (some ⟨g, 0, none⟩) n c) ss n len f ∧ (∀ j k, j < i → k < len j → f j k = -1 - (j : Int)) ∧ ∀ k, k < 0 → f i k = xi) := ⟨HI.out.1, HI.out.2, fun k hk => by omega⟩
      have HX := Hid.mk hxi
      clear HI
      go_wp2_with fail
      go_loopw [4] (fun u wr => ∃ (k : Nat) (f : Nat → Nat → Int), u = .int .i64 k ∧ k ≤ len i ∧ Hid (SI B w wr (.slice (some ⟨g, 0, none⟩) n c) ss n len f ∧ (∀ j k, j < i → k < len j → f j k = -1 - (j : Int)) ∧ ∀ q, q < k → f i q = xi)) (fun u _ => len i - (intOf u).toNat)
      case atStart => exact ⟨0, f, rfl, Nat.zero_le _, H1⟩
      case round =>
        obtain ⟨k, f, rfl, hkn, HI⟩ := hrel
        clear H1
        obtain ⟨hi', a, cc, es, ci, ck⟩ := HI.out.1.cells i hlt
        by_cases hkl : k < len i
        · have hkl' : (k : Int) < (len i : Int) := by omega
          obtain ⟨b, hb, k0, kf⟩ := ck k hkl
          have wk : IntKind.i64.wrap ((k : Int) + 1) = ((k + 1 : Nat) : Int) := i64_in _ (by omega) (by omega)
          obtain ⟨q1, q2⟩ := HI.out.1.gl.setAt i k hlt hkl xi b (by rw [es, hb]; rfl)
          have HN : Hid (SI B w (wr.setCell ⟨b, k, none⟩ (.int .i64 xi)) (.slice (some ⟨g, 0, none⟩) n c) ss n len (upd2 f i k xi) ∧ (∀ j q, j < i → q < len j → upd2 f i k xi j q = -1 - (j : Int)) ∧ ∀ q, q < k + 1 → upd2 f i k xi i q = xi) := by
            refine ⟨⟨q1, HI.out.1.st.andThen q2 (fun _ _ h => h)⟩, fun j q hj hq => ?_, fun q hq => ?_⟩
            · unfold upd2; rw [if_neg (by omega)]; exact HI.out.2.1 j q hj hq
            · unfold upd2
              by_cases e : q = k
              · rw [if_pos ⟨rfl, e⟩]
              · rw [if_neg (fun h => e h.2)]; exact HI.out.2.2 q (by omega)
          subst hb
          obtain ⟨y, hy⟩ : ∃ y, y = f i k := ⟨_, rfl⟩
          rw [← hy] at k0
          obtain ⟨ln, hln⟩ : ∃ ln, ln = len i := ⟨_, rfl⟩
          rw [← hln] at ci hkl' hll
          have HLN := Hid.mk hln
          have hxi2 := HX.out
          clear q1 q2 HI ck es hy hkl hln
          go_wp2
          go_roundw
          case rel => exact ⟨k + 1, _, by go_num, by have := HLN.out; omega, HN⟩
          case measure => simp [intOf]; have := HLN.out; omega
        · have hkl' : ¬ (k : Int) < (len i : Int) := by omega
          have HN : Hid (SI B w wr (.slice (some ⟨g, 0, none⟩) n c) ss n len f ∧ ∀ j q, j < i + 1 → q < len j → f j q = -1 - (j : Int)) := by
            refine ⟨HI.out.1, fun j q hj hq => ?_⟩
            by_cases e : j = i
            · subst e; rw [HI.out.2.2 q (by omega), ← HX.out]
            · exact HI.out.2.1 j q (by omega) hq
          clear HI ck es hkl
          go_wp2
          go_roundw
          case rel => exact ⟨i + 1, f, by go_num, by omega, HN⟩
          case measure => simp [intOf]; omega
    · have hlt' : ¬ (i : Int) < (n : Int) := by omega
      have HM : Hid (SI B w wr (.slice a0 n c) ss n len f ∧ ∀ j k, j < n → k < len j → f j k = -1 - (j : Int)) := ⟨HI.out.1, fun j k hj hk => HI.out.2 j k (by omega) hk⟩
      clear HI hlt
      go_wp2_with fail
      obtain ⟨wa, hwa⟩ : ∃ wa, wa = wr := ⟨_, rfl⟩
      subst hwa
      go_loopw [5] (fun u wr => ∃ (i : Nat), u = .int .i64 i ∧ i ≤ n ∧ Hid (SI B w wr (.slice a0 n c) ss n len f)) (fun u _ => n - (intOf u).toNat)
      case atStart => exact ⟨0, rfl, Nat.zero_le _, HM.out.1⟩
      case round =>
        obtain ⟨i, rfl, hin, HI⟩ := hrel
        by_cases hlt : i < n
        · have hlt' : (i : Int) < (n : Int) := by omega
          obtain ⟨g, hg⟩ : ∃ g, a0 = some ⟨g, 0, none⟩ := by
            obtain ⟨g', cap', e', -⟩ := El.cells gOk HI.out.gl.row i (by rw [HI.out.gl.len, tab_len]; exact hlt)
            injection e' with e1; exact ⟨g', e1⟩
          subst hg
          have wi : IntKind.i64.wrap ((i : Int) + 1) = ((i + 1 : Nat) : Int) := i64_in _ (by omega) (by omega)
          have hll := HLEN.out i hlt
          obtain ⟨hi', a, cc, es, ci, -⟩ := HI.out.cells i hlt
          have r0 := HI.out.gl.each i hi' (by rw [tab_len]; exact hlt)
          obtain ⟨X, hX⟩ : ∃ X, X = (tab n len f)[i]'(by rw [tab_len]; exact hlt) := ⟨_, rfl⟩
          rw [← hX] at r0
          have hXl : X.length = len i := by rw [hX, tab_get]; simp
          have es' : sV ss[i] = .slice a (len i) cc := by rw [es]
          rw [es'] at r0
          obtain ⟨l1, w1, hap, G1⟩ := (GW.start r0).step (by rw [hXl]; exact hll) (by omega)
          obtain ⟨wz, hwz⟩ : ∃ wz, wz = wr := ⟨_, rfl⟩
          subst hwz
          have HE : Hid (∀ wr l, GW wz wr (.slice a (len i) cc) l X 65 → SI B w wr (.slice (some ⟨g, 0, none⟩) n c) ss n len f) := fun wr l q => by
            refine ⟨HI.out.gl.grew i hi' (by rw [tab_len]; exact hlt) (by rw [es']; exact q.st) (by rw [es', ← hX]; exact q.rs), HI.out.st.andThen q.st (fun k _ e => ⟨i, hi', by rw [es']; exact e⟩)⟩
          have HCI : Hid (∀ wr l, GW wz wr (.slice a (len i) cc) l X 65 → wr.cell? ⟨g, i, none⟩ = some (.slice a (len i) cc)) := fun wr l q => by
            obtain ⟨hi2, a2, cc2, e2, c2, -⟩ := (HE.out wr l q).cells i hlt
            rw [es] at e2
            injection e2 with e3 e4
            injection e4 with e5 e6
            rw [e3, e6]; exact c2
          obtain ⟨ln, hln⟩ : ∃ ln, ln = len i := ⟨_, rfl⟩
          rw [← hln] at ci hap G1 HE HCI hll
          have HG1 := Hid.mk G1
          have HXl := Hid.mk (show X.length = ln by rw [hXl, hln])
          have w65 : IntKind.i64.wrap ((ln : Int) + 65) = (ln : Int) + 65 := by rw [IntKind.wrap_i64]; omega
          clear G1 r0 hX hXl es es' hln HI hi' hlt
          go_wp2_with (first
            | (at_builtin; refine wpList_append_eq rfl _ _ 22 22 rfl _ _ _ _ rfl rfl hap ?_; clear hap)
            | fail)
          go_loopw [6, 7] (fun o u wr => ∃ (l : Value) (t : Nat), o = l ∧ u = .int .i64 t ∧ t ≤ 64 ∧ Hid (GW wz wr (.slice a ln cc) l X (t + 1))) (fun _ u _ => (64 - intOf u).toNat)
          case atStart => exact ⟨_, 0, rfl, rfl, by omega, HG1⟩
          case round =>
            obtain ⟨l, t, hl', rfl, ht, HT⟩ := hrel
            replace hl' := hl'.symm
            subst hl'
            clear HG1
            by_cases htl : t < 64
            · have htl' : (t : Int) < 64 := by omega
              obtain ⟨l2, w2, hap, G2⟩ := HT.out.step (by rw [HXl.out]; exact hll) (by omega)
              have wt : IntKind.i64.wrap ((t : Int) + 1) = ((t + 1 : Nat) : Int) := i64_in _ (by omega) (by omega)
              have HG2 := Hid.mk G2
              clear G2 htl
              go_wp2_with (first
                | (at_builtin; refine wpList_append_eq rfl _ _ 22 22 rfl _ _ _ _ rfl rfl hap ?_; clear hap)
                | fail)
              go_roundw
              case rel => exact ⟨_, t + 1, rfl, by go_num, by omega, HG2⟩
              case measure => simp [intOf]; omega
            · have htl' : ¬ (t : Int) < 64 := by omega
              have HG2 : Hid (GW wz wr (.slice a ln cc) l X 65) := Hid.mk (by have := HT.out; rw [show t + 1 = 65 by omega] at this; exact this)
              have ci2 := HCI.out wr l HG2.out
              have HN := Hid.mk (HE.out wr l HG2.out)
              obtain ⟨la, lc, hla, -⟩ := El.Row.form HG2.out.rl
              have hll2 : (X ++ List.replicate 65 (-9 : Int)).length = ln + 65 := by simp [HXl.out]
              rw [hll2] at hla
              subst hla
              have h65 : ((ln + 65 : Nat) : Int) = (ln : Int) + 65 := by omega
              clear HT htl hll2 HG2
              go_wp2
              go_roundw
              case rel => exact ⟨i + 1, by go_num, by omega, HN⟩
              case measure => simp [intOf]; omega
        · have hlt' : ¬ (i : Int) < (n : Int) := by omega
          have HI2 := HI
          clear HI hlt
          go_wp2_with fail
          obtain ⟨wb, hwb⟩ : ∃ wb, wb = wr := ⟨_, rfl⟩
          subst hwb
          go_loopw [8] (fun u wr => ∃ (i : Nat), u = .int .i64 i ∧ i ≤ n ∧ wr = wb) (fun u _ => n - (intOf u).toNat)
          case atStart => exact ⟨0, rfl, Nat.zero_le _, rfl⟩
          case round =>
            obtain ⟨i, rfl, hin, hw'⟩ := hrel
            replace hw' := hw'.symm
            subst hw'
            by_cases hlt : i < n
            · have hlt' : (i : Int) < (n : Int) := by omega
              obtain ⟨g, hg⟩ : ∃ g, a0 = some ⟨g, 0, none⟩ := by
                obtain ⟨g', cap', e', -⟩ := El.cells gOk HI2.out.gl.row i (by rw [HI2.out.gl.len, tab_len]; exact hlt)
                injection e' with e1; exact ⟨g', e1⟩
              subst hg
              have wi : IntKind.i64.wrap ((i : Int) + 1) = ((i + 1 : Nat) : Int) := i64_in _ (by omega) (by omega)
              have wm : IntKind.i64.wrap (-1 - (i : Int)) = -1 - (i : Int) := by rw [IntKind.wrap_i64]; omega
              have hll := HLEN.out i hlt
              obtain ⟨hi', a, cc, es, ci, ck⟩ := HI2.out.cells i hlt
              have HCK : Hid (∀ k, k < len i → ∃ b, a = some ⟨b, 0, none⟩ ∧ wb.cell? ⟨b, k, none⟩ = some (.int .i64 (-1 - (i : Int)))) := fun k hk => by
                obtain ⟨b, hb, k0, -⟩ := ck k hk
                refine ⟨b, hb, ?_⟩
                rw [k0, HM.out.2 i k hlt hk]
              obtain ⟨ln, hln⟩ : ∃ ln, ln = len i := ⟨_, rfl⟩
              rw [← hln] at ci hll HCK
              clear ck es hln hi'
              go_wp2_with fail
              go_loopw [9] (fun u wr => ∃ (k : Nat), u = .int .i64 k ∧ k ≤ ln ∧ wr = wb) (fun u _ => ln - (intOf u).toNat)
              case atStart => exact ⟨0, rfl, Nat.zero_le _, rfl⟩
              case round =>
                obtain ⟨k, rfl, hkn, hw'⟩ := hrel
                replace hw' := hw'.symm
                subst hw'
                by_cases hkl : k < ln
                · have hkl' : (k : Int) < (ln : Int) := by omega
                  obtain ⟨b, hb, k0⟩ := HCK.out k hkl
                  have wk : IntKind.i64.wrap ((k : Int) + 1) = ((k + 1 : Nat) : Int) := i64_in _ (by omega) (by omega)
                  subst hb
                  clear HCK
                  go_wp2
                  go_roundw
                  case rel => exact ⟨k + 1, by go_num, by omega, trivial⟩
                  case measure => simp [intOf]; omega
                · have hkl' : ¬ (k : Int) < (ln : Int) := by omega
                  clear HCK
                  go_wp2
                  go_roundw
                  case rel => exact ⟨i + 1, by go_num, by omega, trivial⟩
                  case measure => simp [intOf]; omega
            · have hlt' : ¬ (i : Int) < (n : Int) := by omega
              have HS := Hid.mk HI2.out.st
              clear HI2 hlt
              go_wp2
              go_ret
              exact ⟨rfl, HS.out⟩
end Go.Proofs.Ytmhifofeobhhgaa
