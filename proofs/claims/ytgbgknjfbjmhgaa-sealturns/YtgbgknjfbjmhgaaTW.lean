/- The walk of lariatlaw3.SealTurns. -/
import Derived.Test.YtgbgknjfbjmhgaaTheorem
import Derived.Test.YtgbgknjfbjmhgaaEq
import Derived.Test.YtgbgknjfbjmhgaaKnown
import Derived.Deep.RegionHeld3
namespace Go.Proofs.Ytgbgknjfbjmhgaa
open Go.RowKit

/-- What lariathand.Pick answers. -/
def pickOf (n : Int) (m : Nat) : Nat := if n.tmod m < 0 then (n.tmod m + m).toNat else (n.tmod m).toNat
theorem pickOf_lt (n : Int) (m : Nat) (h : 0 < m) : pickOf n m < m := by
  have h1 : n.tmod m < m := Int.tmod_lt_of_pos n (by omega)
  have h2 : -(m : Int) < n.tmod m := by
    have := Int.tmod_lt_of_pos (-n) (b := (m : Int)) (by omega)
    rw [Int.neg_tmod] at this
    omega
  unfold pickOf
  split <;> omega
theorem pick_is (n : Int) (m : Nat) (hm0 : 0 < m) (hm1 : m ≤ 1000) (w : World) : Calls Try.prog 15 #[.int .i64 n, .int .i64 (m : Int)] w fun e w' => e = .returned (.int .i64 (pickOf n m : Nat)) ∧ w = w' := by
  have h1 : n.tmod m < m := Int.tmod_lt_of_pos n (by omega)
  have h2 : -(m : Int) < n.tmod m := by
    have := Int.tmod_lt_of_pos (-n) (b := (m : Int)) (by omega)
    rw [Int.neg_tmod] at this
    omega
  have hz : ¬ (m : Int) = 0 := by omega
  by_cases hneg : n.tmod m < 0
  · have e : ((pickOf n m : Nat) : Int) = n.tmod m + m := by unfold pickOf; rw [if_pos hneg]; omega
    rw [e]
    go_enter Try.func15, Try.ntmps15
    go_wp2
    go_ret
    exact ⟨rfl, rfl⟩
  · have e : ((pickOf n m : Nat) : Int) = n.tmod m := by unfold pickOf; rw [if_neg hneg]; omega
    rw [e]
    go_enter Try.func15, Try.ntmps15
    go_wp2
    go_ret
    exact ⟨rfl, rfl⟩

/-- After i rounds. -/
def turned (T ys : List Nat) (K : Nat) : Nat → List Nat
  | 0 => T
  | i + 1 => if K + i < 96 then (turned T ys K i).set (K + i) (at0 ys i) else turned T ys K i
theorem turned_length (T ys : List Nat) (K : Nat) : ∀ i, (turned T ys K i).length = T.length
  | 0 => rfl
  | i + 1 => by
    unfold turned
    split
    · rw [List.length_set, turned_length T ys K i]
    · exact turned_length T ys K i
theorem at0_set_ne {xs : List Nat} {i j x : Nat} (h : i ≠ j) : at0 (xs.set i x) j = at0 xs j := by simp [at0, List.getD_eq_getElem?_getD, List.getElem?_set_ne h]
theorem turned_near (T ys : List Nat) (K : Nat) : ∀ i, i ≤ 4 → Near (turned T ys K i) T K
  | 0, _ => fun _ _ => rfl
  | i + 1, h => fun m hm => by
    have ih := turned_near T ys K i (by omega) m hm
    unfold turned
    split
    · rw [at0_set_ne (by omega)]; exact ih
    · exact ih
theorem turned_in {T ys : List Nat} {K i : Nat} (h : K + i < 96) : turned T ys K (i + 1) = (turned T ys K i).set (K + i) (at0 ys i) := by rw [turned, if_pos h]
theorem turned_out {T ys : List Nat} {K i : Nat} (h : ¬ K + i < 96) : turned T ys K (i + 1) = turned T ys K i := by rw [turned, if_neg h]

/-- What lies in memory while bytes of the copy are turned. -/
structure Kept (w wx : World) (g2 g3 g5 : Nat) (X T U : List Nat) : Prop where
  t : Old w wx
  x : Has wx (some ⟨g2, 0, none⟩) X
  s : Has wx (some ⟨g3, 0, none⟩) T
  u : Own wx g5 U
  lo : w.heap.size ≤ g5
  n2 : g2 < g5
  n3 : g3 < g5
theorem Kept.set {w wx : World} {g2 g3 g5 : Nat} {X T U : List Nat} (S : Kept w wx g2 g3 g5 X T U) (i v : Nat) (hi : i < U.length) (hv : v < 256) :
    Kept w (wx.setCell ⟨g5, i, none⟩ (.int .u8 (v : Int))) g2 g3 g5 X T (U.set i v) := by
  have m : Touch (fun k => k = g5) wx (wx.setCell ⟨g5, i, none⟩ (.int .u8 (v : Int))) := (Touch.refl (fun k => k = g5) wx).setCell (p := ⟨g5, i, none⟩) (.inl rfl) _
  have h2 := S.n2
  have h3 := S.n3
  exact ⟨S.t.own m S.lo, S.x.touch m (fun b o e => by cases e; omega), S.s.touch m (fun b o e => by cases e; omega), S.u.set i v hi hv, S.lo, S.n2, S.n3⟩

set_option maxRecDepth 100000 in
set_option maxHeartbeats 1600000 in
theorem turns_law (a c : Option Addr) (xs ys : List Nat) (la ca lc cc : Nat) (pos : Int) (w : World) (ha : Has w a xs) (hc : Has w c ys) (hla : xs.length = la) (hlc : ys.length = lc) (hca : la ≤ ca) :
    Calls Try.prog 5 #[.slice a la ca, .int .i64 pos, .slice c lc cc] w fun e w' => e = .returned (.bool true) ∧ Below w.heap.size w w' := by
  have hn := notAt
  have HA := Lib.hid ha
  have HC := Lib.hid hc
  clear ha hc
  go_enter Try.func5, Try.ntmps5
  go_wp2_with fail
  refine (known_any _).mono ?_
  rintro e w1 ⟨rfl, T1'⟩
  have T1 := Lib.hid T1'
  clear T1'
  go_wp2_with fail
  refine (few_any _ xs la ca 84 w1 (HA.out.old T1.out) hla hca (by omega)).mono ?_
  rintro e w2 ⟨g2, c2, rfl, hc2, hg2, O2, T2'⟩
  have T2 := Lib.hid (T1.out.trans T2')
  have HO2 := Lib.hid O2
  have HG2' := Lib.hid O2.lt
  obtain ⟨n, hn2⟩ : ∃ n : Nat, min la 84 = n := ⟨_, rfl⟩
  have hn84 : n ≤ 84 := by omega
  rw [hn2] at hc2 ⊢
  have HXl := Lib.hid (show (xs.take 84).length = n by rw [List.length_take]; omega)
  clear O2 T2' T1 HA hn2 hg2
  generalize xs.take 84 = X at *
  go_wp2_with fail
  refine (close_any _ X n c2 w2 HO2.out.has HXl.out hn84).mono ?_
  rintro e w3 ⟨rfl, O3, T3'⟩
  have T3 := Lib.hid (T2.out.trans T3')
  have HX3 := Lib.hid (HO2.out.old T3').has
  have HS3 := Lib.hid O3
  have HG2 : Hid (g2 < w3.heap.size) := Nat.lt_of_lt_of_le HG2'.out T3'.size
  have HG3' := Lib.hid O3.lt
  clear O3 T3' T2 HO2
  generalize w2.heap.size = g3 at *
  go_wp2_with fail
  refine (known_any _).mono ?_
  rintro e w4 ⟨rfl, T4'⟩
  have T4 := Lib.hid (T3.out.trans T4')
  have HX4 := Lib.hid (HX3.out.old T4')
  have HG4 : Hid (g2 < w4.heap.size) := Nat.lt_of_lt_of_le HG2.out T4'.size
  have HG3 : Hid (g3 < w4.heap.size) := Nat.lt_of_lt_of_le HG3'.out T4'.size
  have HS4 := Lib.hid (HS3.out.old T4').has
  have HTl := Lib.hid (track_length (xs := X) (by rw [HXl.out]; exact hn84))
  have HTr := Lib.hid (right_track (xs := X) (by rw [HXl.out]; exact hn84))
  have HBn : Hid ((body X).take n = X) := by unfold body; rw [← HXl.out]; exact List.take_left
  have HTk := Lib.hid (track_take (xs := X) (by rw [HXl.out]; exact hn84))
  clear T4' T3 HX3 HS3
  generalize track X = T at *
  obtain ⟨g5, c5, w5, hap, hg5, G5, T5'⟩ := append_new w4 _ T 96 96 HS4.out HTl.out (by omega)
  have hc5 : 96 ≤ c5 := by obtain ⟨rest, _, hl⟩ := G5.row; rw [HTl.out] at hl; omega
  have K0 : Hid (Kept w w5 g2 g3 g5 X T T) := ⟨T4.out.trans T5', HX4.out.old T5', HS4.out.old T5', G5.own, Nat.le_trans T4.out.size hg5, Nat.lt_of_lt_of_le HG4.out hg5, Nat.lt_of_lt_of_le HG3.out hg5⟩
  clear G5 T5' HX4 HS4 T4 hg5 HG4 HG3 HG2 HG2' HG3'
  obtain ⟨K, hK⟩ : ∃ K : Nat, pickOf pos 96 = K := ⟨_, rfl⟩
  have hK96 : K < 96 := by rw [← hK]; exact pickOf_lt pos 96 (by omega)
  go_wp2_with (first | (at_builtin; refine wpList_append_run rfl _ _ 25 25 rfl _ _ rfl rfl _ _ (hap _) ?_))
  clear hap
  have HK : Hid (pickOf pos 96 = K) := hK
  clear hK
  go_loopw [10] (fun i wx => ∃ j : Nat, j ≤ 4 ∧ j ≤ lc ∧ i = .int .i64 j ∧ Hid (Kept w wx g2 g3 g5 X T (turned T ys K j))) (fun i _ => 4 - (intOf i).toNat)
  case atStart => exact ⟨0, by omega, by omega, rfl, K0⟩
  case round =>
    obtain ⟨j, hj4, hjl, rfl, S⟩ := hrel
    clear K0
    by_cases hlt : j < lc ∧ j < 4
    · obtain ⟨h1, h2⟩ := hlt
      have h1' : (j : Int) < (lc : Int) := by omega
      have h2' : (j : Int) < 4 := by omega
      have h3' : (0 : Int) ≤ (j : Int) := by omega
      go_wp2_with fail
      refine (pick_is pos 96 (by omega) (by omega) _).mono ?_
      rintro e w' ⟨rfl, rfl⟩
      rw [HK.out]
      by_cases hk : K + j < 96
      · obtain ⟨b, off, rfl, hcell⟩ := (HC.out.old S.out.t).cell j (by omega)
        have hu := S.out.u.cell (K + j) (by rw [turned_length, HTl.out]; exact hk)
        have hf := S.out.u.frozen (K + j)
        have S' : Hid (Kept w (wr.setCell ⟨g5, K + j, none⟩ (.int .u8 (at0 ys j : Int))) g2 g3 g5 X T (turned T ys K (j + 1))) := by
          have := S.out.set (K + j) (at0 ys j) (by rw [turned_length, HTl.out]; exact hk) (at0_lt HC.out.byte j)
          rw [← turned_in hk] at this
          exact this
        have hk' : (K : Int) + (j : Int) < 96 := by omega
        have hk'' : (0 : Int) ≤ (K : Int) + (j : Int) := by omega
        clear S
        go_wp2_with fail
        exact ⟨⟨j + 1, by omega, by omega, by go_num, S'⟩, by simp only [intOf]; omega⟩
      · have hk' : ¬ (K : Int) + (j : Int) < 96 := by omega
        have S' : Hid (Kept w wr g2 g3 g5 X T (turned T ys K (j + 1))) := by rw [turned_out hk]; exact S
        clear S
        go_wp2_with fail
        exact ⟨⟨j + 1, by omega, by omega, by go_num, S'⟩, by simp only [intOf]; omega⟩
    · obtain ⟨U, hU⟩ : ∃ U, turned T ys K j = U := ⟨_, rfl⟩
      have HUn : Hid (Near U T K) := by rw [← hU]; exact turned_near T ys K j hj4
      have HUl : Hid (U.length = 96) := by rw [← hU, turned_length]; exact HTl.out
      rw [hU] at S
      clear hU
      have hx : ¬ (j : Int) < (lc : Int) ∨ ((j : Int) < (lc : Int) ∧ ¬ (j : Int) < 4) := by omega
      clear hlt
      by_cases hUT : U = T
      · subst hUT
        rcases hx with hx | ⟨hx1, hx2⟩
        all_goals
          go_wp2_with fail
          refine (open_right _ U c5 wr S.out.u.has HUl.out hc5 HTr.out).mono ?_
          rintro e w6 ⟨rfl, O6, T6⟩
          rw [HTk.out] at O6
          have hsU := str_any w6 _ U 96 c5 (S.out.u.has.old T6) HUl.out
          have hsT := str_any w6 _ U 96 96 (S.out.s.old T6) HUl.out
          have T6d : Old w6 w6.drew := (Touch.refl _ w6).drew
          have hs3 := str_any w6.drew _ X n c2 ((S.out.x.old T6).old T6d) HXl.out
          have hs4 := str_any w6.drew _ X n 84 (by have := (O6.has.old T6d).take n; rwa [HBn.out] at this) HXl.out
          have hi0 : (0 : Int) ≤ (n : Int) := by omega
          have hi1 : (n : Int) ≤ 84 := by omega
          have Tend := Lib.hid (S.out.t.trans T6)
          clear O6 T6 S T6d
          generalize wr.heap.size = g6 at *
          go_wp2_with fail
          go_region_held3 (fun w' => (convert 25 9 (.slice (some ⟨g2, 0, none⟩) n c2)).run Try.prog w' = .ok (.string (strOf X)) w' ∧ (convert 25 9 (.slice (some ⟨g6, 0, none⟩) n 84)).run Try.prog w' = .ok (.string (strOf X)) w') (first | exact ⟨hs3, hs4⟩) (first | fail)
          go_wp2_with fail
          go_ret
          exact ⟨rfl, (Tend.out.drew).below (Nat.le_refl _) (fun _ _ h => h)⟩
      · have hbe : ((strOf U).toList == (strOf T).toList) = false := by
          rw [str_beq S.out.u.byte S.out.s.byte]
          simp [hUT]
        have hnr : ¬ right U := fun r => hUT (turned_same S.out.u.byte S.out.s.byte HUl.out HTl.out HUn.out r HTr.out)
        rcases hx with hx | ⟨hx1, hx2⟩
        all_goals
          go_wp2_with fail
          refine (open_wrong _ U c5 wr S.out.u.has HUl.out hc5 hnr).mono ?_
          rintro e w6 ⟨rfl, rfl⟩
          have hsU := str_any wr _ U 96 c5 S.out.u.has HUl.out
          have hsT := str_any wr _ T 96 96 S.out.s HTl.out
          go_wp2_with fail
          go_ret
          exact ⟨rfl, S.out.t.below (Nat.le_refl _) (fun _ _ h => h)⟩
end Go.Proofs.Ytgbgknjfbjmhgaa
