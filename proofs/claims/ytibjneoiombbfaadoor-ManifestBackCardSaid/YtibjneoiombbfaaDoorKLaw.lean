/-
  DERIVED. ManifestKind, ManifestOurs: the walks.
-/
import Derived.Test.YtibjneoiombbfaaDoorKRef
import Derived.Test.YtibjneoiombbfaaDoorKPick
set_option linter.unusedVariables false
set_option linter.unusedSimpArgs false
namespace Go.Proofs.YtibjneoiombbfaaDoor
open Go.RowKit
set_option maxHeartbeats 1000000 in
set_option maxRecDepth 100000 in
theorem law_kind (s : ByteArray) (w : World) (V : Vs w) (hlim : s.size ≤ 281474976710656) :
    Calls Tryd.prog 7 #[.string s] w fun e w' => e = .returned (.bool true) ∧ Below w.heap.size w w' := by
  have c1 := kind_any s w V hlim
  have c2 := fun W (V : Vs W) => rkind_any s W V hlim
  generalize kindT s.data.toList = T at c1 c2
  obtain ⟨x, y, z⟩ := T
  go_enter Tryd.func7, Tryd.ntmps7
  go_wp2_with first
    | (go_at_call 23; refine c1.mono ?_; rintro e w1 ⟨rfl, b1⟩; have V1 := V.lat b1; clear c1)
    | (go_at_call 24; refine (c2 _ V1).mono ?_; rintro e w2 ⟨rfl, b2'⟩; have b2 := chain b1 b2' (Nat.le_refl _); clear c2)
  go_ret
  exact ⟨rfl, b2⟩
/-! ### Names of ours -/
theorem itoa_dec (v : Int) (h0 : 0 ≤ v) (h1 : v ≤ 1099511627776) : Lib.itoa v = Lib.decDigits v.toNat := by unfold Lib.itoa; rw [if_neg (by omega)]
theorem itoa_nodot (v : Int) (h0 : 0 ≤ v) (h1 : v ≤ 1099511627776) : ∀ c ∈ Lib.itoa v, c ≠ 46 := fun c hc he => by
  rw [itoa_dec v h0 h1] at hc
  have := digits_all _ c hc
  rw [he] at this
  simp at this
theorem dot_cases : ∀ t : List UInt8, (∀ c ∈ t, c ≠ 46) ∨ ∃ a b, t = a ++ 46 :: b ∧ ∀ c ∈ a, c ≠ 46
  | [] => Or.inl (fun c hc => by cases hc)
  | c :: t => by
    by_cases h : c = 46
    · exact Or.inr ⟨[], t, by rw [h]; rfl, fun c hc => by cases hc⟩
    · rcases dot_cases t with h1 | ⟨a, b, rfl, h1⟩
      · exact Or.inl (fun d hd => (List.mem_cons.1 hd).elim (fun e => e ▸ h) (h1 d))
      · exact Or.inr ⟨c :: a, b, rfl, fun d hd => (List.mem_cons.1 hd).elim (fun e => e ▸ h) (h1 d)⟩
theorem cut_app (a b : List UInt8) (h : ∀ c ∈ a, c ≠ 46) : Lib.cut (a ++ 46 :: b) [46] = (a, b, true) := by
  rw [cut_at a.length _ (by simp) (fun k hk he => by
    rw [List.getElem?_append_left hk, List.getElem?_eq_getElem hk] at he
    exact h _ (List.getElem_mem hk) (Option.some.inj he))]
  simp
theorem kind_of_j (n : Int) (h0 : 1 ≤ n) (h1 : n ≤ 1099511627776) : kindT (106 :: Lib.itoa n) = (3, n, 0) :=
  kind_j (by simp [nmManifest]) (by simp [nmNew]) rfl ((dec_some (by omega) (by omega)).2 ⟨h0, h1, rfl⟩)
theorem numTab_app (n : Int) (b : List UInt8) (h0 : 1 ≤ n) (h1 : n ≤ 1099511627776) : numTab (Lib.itoa n ++ 46 :: b) = pairO (some n) (dec b 0 127) := by
  unfold numTab
  rw [cut_app _ _ (itoa_nodot n (by omega) h1)]
  simp only
  rw [(dec_some (by omega) (by omega)).2 ⟨h0, h1, rfl⟩]
theorem kind_of_r (n j : Int) (h0 : 1 ≤ n) (h1 : n ≤ 1099511627776) (h2 : 0 ≤ j) (h3 : j ≤ 127) : kindT (114 :: (Lib.itoa n ++ 46 :: Lib.itoa j)) = (4, n, j) :=
  kind_r (by simp [nmManifest]) (by simp [nmNew]) rfl (by rw [numTab_app n _ h0 h1, (dec_some (by omega) (by omega)).2 ⟨h2, h3, rfl⟩]; rfl)
theorem itoa_inj {u v : Int} (hu : 0 ≤ u ∧ u ≤ 1099511627776) (hv : 0 ≤ v ∧ v ≤ 1099511627776) (h : Lib.itoa u = Lib.itoa v) : u = v := by
  have a := (atoi_itoa u hu.1 hu.2).1
  rw [h, (atoi_itoa v hv.1 hv.2).1] at a
  injection a with a; exact a.symm
theorem kind_of_j0 (n : Int) (h0 : 1 ≤ n) (h1 : n ≤ 1099511627776) : kindT (106 :: 48 :: Lib.itoa n) = (0, 0, 0) := by
  refine kind_0 (by simp [nmManifest]) (by simp [nmNew]) (fun r h => ?_) (fun r h => by cases h)
  obtain rfl : 48 :: Lib.itoa n = r := (List.cons.inj h).2
  cases hd : dec (48 :: Lib.itoa n) 1 1099511627776 with
  | none => rfl
  | some v =>
    exfalso
    obtain ⟨a, b, c⟩ := (dec_some (by omega) (by omega)).1 hd
    have d1 := (atoi_itoa v (by omega) b).2.2.1
    have d2 := (atoi_itoa n (by omega) h1).2.2.1
    rw [c] at d1
    have d3 : Lib.decFrom 0 (48 :: Lib.itoa n) = Lib.decFrom 0 (Lib.itoa n) := rfl
    rw [d3, d2] at d1
    have : v = n := by injection d1 with d1; omega
    rw [this] at c
    have := congrArg List.length c
    simp at this
theorem kind_of_r128 (n j : Int) (h0 : 1 ≤ n) (h1 : n ≤ 1099511627776) (h2 : 0 ≤ j) (h3 : j ≤ 127) : kindT (114 :: (Lib.itoa n ++ 46 :: Lib.itoa (j + 128))) = (0, 0, 0) := by
  refine kind_0 (by simp [nmManifest]) (by simp [nmNew]) (fun r h => by cases h) (fun r h => ?_)
  obtain rfl := (List.cons.inj h).2
  rw [numTab_app n _ h0 h1]
  cases hd : dec (Lib.itoa (j + 128)) 0 127 with
  | none => rfl
  | some v =>
    exfalso
    obtain ⟨a, b, c⟩ := (dec_some (by omega) (by omega)).1 hd
    have := itoa_inj ⟨by omega, by omega⟩ ⟨by omega, by omega⟩ c
    omega
theorem kind_inv (l : List UInt8) : (l = nmManifest ∧ kindT l = (1, 0, 0)) ∨ (l = nmNew ∧ kindT l = (2, 0, 0)) ∨
    (∃ n, l = 106 :: Lib.itoa n ∧ 1 ≤ n ∧ n ≤ 1099511627776 ∧ kindT l = (3, n, 0)) ∨
    (∃ n j, l = 114 :: (Lib.itoa n ++ 46 :: Lib.itoa j) ∧ 1 ≤ n ∧ n ≤ 1099511627776 ∧ 0 ≤ j ∧ j ≤ 127 ∧ kindT l = (4, n, j)) ∨
    (kindT l = (0, 0, 0) ∧ l ≠ nmManifest ∧ l ≠ nmNew) := by
  by_cases h1 : l = nmManifest
  · left; exact ⟨h1, by unfold kindT; rw [if_pos h1]⟩
  by_cases h2 : l = nmNew
  · right; left; exact ⟨h2, by unfold kindT; rw [if_neg h1, if_pos h2]⟩
  right; right
  by_cases hj : ∃ r n, l = 106 :: r ∧ dec r 1 1099511627776 = some n
  · obtain ⟨r, n, rfl, hd⟩ := hj
    obtain ⟨a, b, c⟩ := (dec_some (by omega) (by omega)).1 hd
    left
    exact ⟨n, by rw [c], a, b, kind_j h1 h2 rfl hd⟩
  by_cases hr : ∃ r n j, l = 114 :: r ∧ numTab r = some (n, j)
  · obtain ⟨r, n, j, rfl, hd⟩ := hr
    right; left
    have hk := kind_r h1 h2 rfl hd
    rcases dot_cases r with h | ⟨a, b, rfl, h⟩
    · rw [numTab_no r h] at hd; cases hd
    · unfold numTab at hd
      rw [cut_app a b h] at hd
      simp only at hd
      cases ha : dec a 1 1099511627776 with
      | none => rw [ha] at hd; cases hd
      | some n' =>
        cases hb : dec b 0 127 with
        | none => rw [ha, hb] at hd; cases hd
        | some j' =>
          rw [ha, hb] at hd
          obtain ⟨rfl, rfl⟩ : n' = n ∧ j' = j := by
            have : some (n', j') = some (n, j) := hd
            exact ⟨congrArg Prod.fst (Option.some.inj this), congrArg Prod.snd (Option.some.inj this)⟩
          obtain ⟨a1, a2, a3⟩ := (dec_some (by omega) (by omega)).1 ha
          obtain ⟨b1, b2, b3⟩ := (dec_some (by omega) (by omega)).1 hb
          exact ⟨n', j', by rw [a3, b3], a1, a2, b1, b2, hk⟩
  · right; right
    refine ⟨kind_0 h1 h2 (fun r h => ?_) (fun r h => ?_), h1, h2⟩
    · cases hd : dec r 1 1099511627776 with
      | none => rfl
      | some n => exact absurd ⟨r, n, h, hd⟩ hj
    · cases hd : numTab r with
      | none => rfl
      | some p => exact absurd ⟨r, p.1, p.2, h, hd⟩ hr
theorem kj_of (s : ByteArray) (l : List UInt8) (x y z : Int) (h : s.data.toList = l) (hk : kindT l = (x, y, z)) (hz : s.size ≤ 281474976710656) (W : World) (V : Vs W) :
    Calls Tryd.prog 23 #[.string s] W fun e w' => e = .returned (.tuple #[.int .i64 x, .int .i64 y, .int .i64 z]) ∧ Below W.heap.size W w' := by
  have c := kind_any s W V hz
  rw [h, hk] at c
  exact c
theorem app_list (a b : ByteArray) : (a ++ b).data.toList = a.data.toList ++ b.data.toList := by simp
theorem app_size (a b : ByteArray) : (a ++ b).size = a.size + b.size := by simp
set_option maxHeartbeats 4000000 in
set_option maxRecDepth 100000 in
theorem law_ours (x y : Int) (s : ByteArray) (w : World) (V : Vs w) (hx : -9223372036854775808 ≤ x ∧ x < 9223372036854775808) (hy : -9223372036854775808 ≤ y ∧ y < 9223372036854775808) (hlim : s.size ≤ 281474976710656) :
    Calls Tryd.prog 6 #[.int .i64 x, .int .i64 y, .string s] w fun e w' => e = .returned (.bool true) ∧ Below w.heap.size w w' := by
  have p1 := fun W => pick_any x 1099511627776 W (by omega) (by omega) hx
  have p2 := fun W => pick_any y 128 W (by omega) (by omega) hy
  obtain ⟨m, hm⟩ : ∃ m, m = x % 1099511627776 := ⟨_, rfl⟩
  obtain ⟨j, hj⟩ : ∃ j, j = y % 128 := ⟨_, rfl⟩
  have m0 : 0 ≤ m := by omega
  have n0 : 1 ≤ 1 + m := by omega
  have n1 : 1 + m ≤ 1099511627776 := by omega
  have j0 : 0 ≤ j := by omega
  have j1 : j ≤ 127 := by omega
  have e1 : x % ((1099511627776 : Nat) : Int) = m := by omega
  have e2 : y % ((128 : Nat) : Int) = j := by omega
  rw [e1] at p1
  rw [e2] at p2
  clear hm hj e1 e2 hx hy
  have ln : (Lib.itoa (1 + m)).length ≤ 13 := (atoi_itoa (1 + m) (by omega) n1).2.1
  have lj : (Lib.itoa j).length ≤ 13 := (atoi_itoa j (by omega) (by omega)).2.1
  have lk : (Lib.itoa (j + 128)).length ≤ 13 := (atoi_itoa (j + 128) (by omega) (by omega)).2.1
  have k1 := kj_of (⟨#[106]⟩ ++ ⟨(Lib.itoa (1 + m)).toArray⟩) _ _ _ _ (by rw [app_list]; rfl) (kind_of_j (1 + m) n0 n1) (by rw [app_size]; show 1 + (Lib.itoa (1 + m)).length ≤ _; omega)
  have k2 := kj_of (⟨#[114]⟩ ++ ⟨(Lib.itoa (1 + m)).toArray⟩ ++ ⟨#[46]⟩ ++ ⟨(Lib.itoa j).toArray⟩) _ _ _ _ (by rw [app_list, app_list, app_list]; simp) (kind_of_r (1 + m) j n0 n1 j0 j1) (by rw [app_size, app_size, app_size]; show 1 + (Lib.itoa (1 + m)).length + 1 + (Lib.itoa j).length ≤ _; omega)
  have k3 := kj_of (⟨#[106, 48]⟩ ++ ⟨(Lib.itoa (1 + m)).toArray⟩) _ _ _ _ (by rw [app_list]; rfl) (kind_of_j0 (1 + m) n0 n1) (by rw [app_size]; show 2 + (Lib.itoa (1 + m)).length ≤ _; omega)
  have k4 := kj_of (⟨#[114]⟩ ++ ⟨(Lib.itoa (1 + m)).toArray⟩ ++ ⟨#[46]⟩ ++ ⟨(Lib.itoa (j + 128)).toArray⟩) _ _ _ _ (by rw [app_list, app_list, app_list]; simp) (kind_of_r128 (1 + m) j n0 n1 j0 j1) (by rw [app_size, app_size, app_size]; show 1 + (Lib.itoa (1 + m)).length + 1 + (Lib.itoa (j + 128)).length ≤ _; omega)
  have i1 := fun W V => itoa_any (1 + m) W V (by omega)
  have i2 := fun W V => itoa_any j W V (by omega)
  have i3 := fun W V => itoa_any (j + 128) W V (by omega)
  have bc : Below w.heap.size w w := Below.refl _ _
  have Vc := V
  clear V
  rcases kind_inv s.data.toList with ⟨hl, hk⟩ | ⟨hl, hk⟩ | ⟨u, hl, u0, u1, hk⟩ | ⟨u, v, hl, u0, u1, v0, v1, hk⟩ | ⟨hk, hl1, hl2⟩
  · have k5 := kj_of s _ _ _ _ rfl hk hlim
    have es : s.toList = [109, 97, 110, 105, 102, 101, 115, 116] := (ByteArray.toList_eq s).trans hl
    clear hl hk
    go_enter Tryd.func6, Tryd.ntmps6
    go_wp2_with first
      | (go_at_call 14; refine (p1 _).mono ?_; rintro e w' ⟨rfl, rfl⟩; clear p1)
      | (go_at_call 14; refine (p2 _).mono ?_; rintro e w' ⟨rfl, rfl⟩; clear p2)
      | (go_at_call 22; refine (i1 _ Vc).mono ?_; rintro e w1 ⟨rfl, b1⟩; replace Vc := Vc.lat b1; replace bc := chain bc b1 (Nat.le_refl _); clear b1 i1)
      | (go_at_call 22; refine (i2 _ Vc).mono ?_; rintro e w1 ⟨rfl, b1⟩; replace Vc := Vc.lat b1; replace bc := chain bc b1 (Nat.le_refl _); clear b1 i2)
      | (go_at_call 22; refine (i3 _ Vc).mono ?_; rintro e w1 ⟨rfl, b1⟩; replace Vc := Vc.lat b1; replace bc := chain bc b1 (Nat.le_refl _); clear b1 i3)
      | (go_at_call 23; refine (k1 _ Vc).mono ?_; rintro e w1 ⟨rfl, b1⟩; replace Vc := Vc.lat b1; replace bc := chain bc b1 (Nat.le_refl _); clear b1 k1)
      | (go_at_call 23; refine (k2 _ Vc).mono ?_; rintro e w1 ⟨rfl, b1⟩; replace Vc := Vc.lat b1; replace bc := chain bc b1 (Nat.le_refl _); clear b1 k2)
      | (go_at_call 23; refine (k3 _ Vc).mono ?_; rintro e w1 ⟨rfl, b1⟩; replace Vc := Vc.lat b1; replace bc := chain bc b1 (Nat.le_refl _); clear b1 k3)
      | (go_at_call 23; refine (k4 _ Vc).mono ?_; rintro e w1 ⟨rfl, b1⟩; replace Vc := Vc.lat b1; replace bc := chain bc b1 (Nat.le_refl _); clear b1 k4)
      | (go_at_call 23; refine (k5 _ Vc).mono ?_; rintro e w1 ⟨rfl, b1⟩; replace Vc := Vc.lat b1; replace bc := chain bc b1 (Nat.le_refl _); clear b1 k5)
    all_goals first | (exfalso; omega) | skip
    go_ret
    exact ⟨rfl, bc⟩
  · have k5 := kj_of s _ _ _ _ rfl hk hlim
    have es : s.toList = [109, 97, 110, 105, 102, 101, 115, 116, 46, 110, 101, 119] := (ByteArray.toList_eq s).trans hl
    clear hl hk
    go_enter Tryd.func6, Tryd.ntmps6
    go_wp2_with first
      | (go_at_call 14; refine (p1 _).mono ?_; rintro e w' ⟨rfl, rfl⟩; clear p1)
      | (go_at_call 14; refine (p2 _).mono ?_; rintro e w' ⟨rfl, rfl⟩; clear p2)
      | (go_at_call 22; refine (i1 _ Vc).mono ?_; rintro e w1 ⟨rfl, b1⟩; replace Vc := Vc.lat b1; replace bc := chain bc b1 (Nat.le_refl _); clear b1 i1)
      | (go_at_call 22; refine (i2 _ Vc).mono ?_; rintro e w1 ⟨rfl, b1⟩; replace Vc := Vc.lat b1; replace bc := chain bc b1 (Nat.le_refl _); clear b1 i2)
      | (go_at_call 22; refine (i3 _ Vc).mono ?_; rintro e w1 ⟨rfl, b1⟩; replace Vc := Vc.lat b1; replace bc := chain bc b1 (Nat.le_refl _); clear b1 i3)
      | (go_at_call 23; refine (k1 _ Vc).mono ?_; rintro e w1 ⟨rfl, b1⟩; replace Vc := Vc.lat b1; replace bc := chain bc b1 (Nat.le_refl _); clear b1 k1)
      | (go_at_call 23; refine (k2 _ Vc).mono ?_; rintro e w1 ⟨rfl, b1⟩; replace Vc := Vc.lat b1; replace bc := chain bc b1 (Nat.le_refl _); clear b1 k2)
      | (go_at_call 23; refine (k3 _ Vc).mono ?_; rintro e w1 ⟨rfl, b1⟩; replace Vc := Vc.lat b1; replace bc := chain bc b1 (Nat.le_refl _); clear b1 k3)
      | (go_at_call 23; refine (k4 _ Vc).mono ?_; rintro e w1 ⟨rfl, b1⟩; replace Vc := Vc.lat b1; replace bc := chain bc b1 (Nat.le_refl _); clear b1 k4)
      | (go_at_call 23; refine (k5 _ Vc).mono ?_; rintro e w1 ⟨rfl, b1⟩; replace Vc := Vc.lat b1; replace bc := chain bc b1 (Nat.le_refl _); clear b1 k5)
    all_goals first | (exfalso; omega) | skip
    go_ret
    exact ⟨rfl, bc⟩
  · have k5 := kj_of s _ _ _ _ rfl hk hlim
    have lu : (Lib.itoa u).length ≤ 13 := (atoi_itoa u (by omega) u1).2.1
    have es : s = ⟨#[106]⟩ ++ ⟨(Lib.itoa u).toArray⟩ := ByteArray.ext (Array.toList_inj.1 (by rw [hl, app_list]; rfl))
    have i4 := fun W V => itoa_any u W V (by omega)
    clear hl hk
    subst es
    go_enter Tryd.func6, Tryd.ntmps6
    go_wp2_with first
      | (go_at_call 14; refine (p1 _).mono ?_; rintro e w' ⟨rfl, rfl⟩; clear p1)
      | (go_at_call 14; refine (p2 _).mono ?_; rintro e w' ⟨rfl, rfl⟩; clear p2)
      | (go_at_call 22; refine (i1 _ Vc).mono ?_; rintro e w1 ⟨rfl, b1⟩; replace Vc := Vc.lat b1; replace bc := chain bc b1 (Nat.le_refl _); clear b1 i1)
      | (go_at_call 22; refine (i2 _ Vc).mono ?_; rintro e w1 ⟨rfl, b1⟩; replace Vc := Vc.lat b1; replace bc := chain bc b1 (Nat.le_refl _); clear b1 i2)
      | (go_at_call 22; refine (i3 _ Vc).mono ?_; rintro e w1 ⟨rfl, b1⟩; replace Vc := Vc.lat b1; replace bc := chain bc b1 (Nat.le_refl _); clear b1 i3)
      | (go_at_call 22; refine (i4 _ Vc).mono ?_; rintro e w1 ⟨rfl, b1⟩; replace Vc := Vc.lat b1; replace bc := chain bc b1 (Nat.le_refl _); clear b1 i4)
      | (go_at_call 23; refine (k1 _ Vc).mono ?_; rintro e w1 ⟨rfl, b1⟩; replace Vc := Vc.lat b1; replace bc := chain bc b1 (Nat.le_refl _); clear b1 k1)
      | (go_at_call 23; refine (k2 _ Vc).mono ?_; rintro e w1 ⟨rfl, b1⟩; replace Vc := Vc.lat b1; replace bc := chain bc b1 (Nat.le_refl _); clear b1 k2)
      | (go_at_call 23; refine (k3 _ Vc).mono ?_; rintro e w1 ⟨rfl, b1⟩; replace Vc := Vc.lat b1; replace bc := chain bc b1 (Nat.le_refl _); clear b1 k3)
      | (go_at_call 23; refine (k4 _ Vc).mono ?_; rintro e w1 ⟨rfl, b1⟩; replace Vc := Vc.lat b1; replace bc := chain bc b1 (Nat.le_refl _); clear b1 k4)
      | (go_at_call 23; refine (k5 _ Vc).mono ?_; rintro e w1 ⟨rfl, b1⟩; replace Vc := Vc.lat b1; replace bc := chain bc b1 (Nat.le_refl _); clear b1 k5)
    all_goals first | (exfalso; omega) | skip
    go_ret
    exact ⟨rfl, bc⟩
  · have k5 := kj_of s _ _ _ _ rfl hk hlim
    have lu : (Lib.itoa u).length ≤ 13 := (atoi_itoa u (by omega) u1).2.1
    have lv : (Lib.itoa v).length ≤ 13 := (atoi_itoa v (by omega) (by omega)).2.1
    have es : s = ⟨#[114]⟩ ++ ⟨(Lib.itoa u).toArray⟩ ++ ⟨#[46]⟩ ++ ⟨(Lib.itoa v).toArray⟩ := ByteArray.ext (Array.toList_inj.1 (by rw [hl, app_list, app_list, app_list]; simp))
    have i4 := fun W V => itoa_any u W V (by omega)
    have i5 := fun W V => itoa_any v W V (by omega)
    clear hl hk
    subst es
    go_enter Tryd.func6, Tryd.ntmps6
    go_wp2_with first
      | (go_at_call 14; refine (p1 _).mono ?_; rintro e w' ⟨rfl, rfl⟩; clear p1)
      | (go_at_call 14; refine (p2 _).mono ?_; rintro e w' ⟨rfl, rfl⟩; clear p2)
      | (go_at_call 22; refine (i1 _ Vc).mono ?_; rintro e w1 ⟨rfl, b1⟩; replace Vc := Vc.lat b1; replace bc := chain bc b1 (Nat.le_refl _); clear b1 i1)
      | (go_at_call 22; refine (i2 _ Vc).mono ?_; rintro e w1 ⟨rfl, b1⟩; replace Vc := Vc.lat b1; replace bc := chain bc b1 (Nat.le_refl _); clear b1 i2)
      | (go_at_call 22; refine (i3 _ Vc).mono ?_; rintro e w1 ⟨rfl, b1⟩; replace Vc := Vc.lat b1; replace bc := chain bc b1 (Nat.le_refl _); clear b1 i3)
      | (go_at_call 22; refine (i4 _ Vc).mono ?_; rintro e w1 ⟨rfl, b1⟩; replace Vc := Vc.lat b1; replace bc := chain bc b1 (Nat.le_refl _); clear b1 i4)
      | (go_at_call 22; refine (i5 _ Vc).mono ?_; rintro e w1 ⟨rfl, b1⟩; replace Vc := Vc.lat b1; replace bc := chain bc b1 (Nat.le_refl _); clear b1 i5)
      | (go_at_call 23; refine (k1 _ Vc).mono ?_; rintro e w1 ⟨rfl, b1⟩; replace Vc := Vc.lat b1; replace bc := chain bc b1 (Nat.le_refl _); clear b1 k1)
      | (go_at_call 23; refine (k2 _ Vc).mono ?_; rintro e w1 ⟨rfl, b1⟩; replace Vc := Vc.lat b1; replace bc := chain bc b1 (Nat.le_refl _); clear b1 k2)
      | (go_at_call 23; refine (k3 _ Vc).mono ?_; rintro e w1 ⟨rfl, b1⟩; replace Vc := Vc.lat b1; replace bc := chain bc b1 (Nat.le_refl _); clear b1 k3)
      | (go_at_call 23; refine (k4 _ Vc).mono ?_; rintro e w1 ⟨rfl, b1⟩; replace Vc := Vc.lat b1; replace bc := chain bc b1 (Nat.le_refl _); clear b1 k4)
      | (go_at_call 23; refine (k5 _ Vc).mono ?_; rintro e w1 ⟨rfl, b1⟩; replace Vc := Vc.lat b1; replace bc := chain bc b1 (Nat.le_refl _); clear b1 k5)
    all_goals first | (exfalso; omega) | skip
    go_ret
    exact ⟨rfl, bc⟩
  · have k5 := kj_of s _ _ _ _ rfl hk hlim
    have ea : (s.toList == [109, 97, 110, 105, 102, 101, 115, 116]) = false := beq_no (fun h => hl1 ((ByteArray.toList_eq s).symm.trans h))
    have eb : (s.toList == [109, 97, 110, 105, 102, 101, 115, 116, 46, 110, 101, 119]) = false := beq_no (fun h => hl2 ((ByteArray.toList_eq s).symm.trans h))
    clear hl1 hl2 hk
    go_enter Tryd.func6, Tryd.ntmps6
    go_wp2_with first
      | (go_at_call 14; refine (p1 _).mono ?_; rintro e w' ⟨rfl, rfl⟩; clear p1)
      | (go_at_call 14; refine (p2 _).mono ?_; rintro e w' ⟨rfl, rfl⟩; clear p2)
      | (go_at_call 22; refine (i1 _ Vc).mono ?_; rintro e w1 ⟨rfl, b1⟩; replace Vc := Vc.lat b1; replace bc := chain bc b1 (Nat.le_refl _); clear b1 i1)
      | (go_at_call 22; refine (i2 _ Vc).mono ?_; rintro e w1 ⟨rfl, b1⟩; replace Vc := Vc.lat b1; replace bc := chain bc b1 (Nat.le_refl _); clear b1 i2)
      | (go_at_call 22; refine (i3 _ Vc).mono ?_; rintro e w1 ⟨rfl, b1⟩; replace Vc := Vc.lat b1; replace bc := chain bc b1 (Nat.le_refl _); clear b1 i3)
      | (go_at_call 23; refine (k1 _ Vc).mono ?_; rintro e w1 ⟨rfl, b1⟩; replace Vc := Vc.lat b1; replace bc := chain bc b1 (Nat.le_refl _); clear b1 k1)
      | (go_at_call 23; refine (k2 _ Vc).mono ?_; rintro e w1 ⟨rfl, b1⟩; replace Vc := Vc.lat b1; replace bc := chain bc b1 (Nat.le_refl _); clear b1 k2)
      | (go_at_call 23; refine (k3 _ Vc).mono ?_; rintro e w1 ⟨rfl, b1⟩; replace Vc := Vc.lat b1; replace bc := chain bc b1 (Nat.le_refl _); clear b1 k3)
      | (go_at_call 23; refine (k4 _ Vc).mono ?_; rintro e w1 ⟨rfl, b1⟩; replace Vc := Vc.lat b1; replace bc := chain bc b1 (Nat.le_refl _); clear b1 k4)
      | (go_at_call 23; refine (k5 _ Vc).mono ?_; rintro e w1 ⟨rfl, b1⟩; replace Vc := Vc.lat b1; replace bc := chain bc b1 (Nat.le_refl _); clear b1 k5)
    all_goals first | (exfalso; omega) | skip
    go_ret
    exact ⟨rfl, bc⟩
end Go.Proofs.YtibjneoiombbfaaDoor
