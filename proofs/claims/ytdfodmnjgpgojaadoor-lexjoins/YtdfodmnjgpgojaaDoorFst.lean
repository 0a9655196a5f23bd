/- The contracts of lex.first, lex.value, lex.IsWord. -/
import Derived.Test.YtdfodmnjgpgojaaDoorSgb
namespace Go.Proofs.YtdfodmnjgpgojaaDoor
open Go.RowKit Go.PlainAid
set_option maxRecDepth 100000

set_option maxHeartbeats 3200000 in
theorem first_any (s : ByteArray) (hs : s.size ≤ maxLen) (h0 : 0 < s.size) (w : World) (h : Tbl w 3 sgTab) : Calls Tryd.prog 15 #[.string s] w fun e w' => e = .returned (.tuple #[.int .i64 ((firstB s).1 : Int), .int .i64 ((firstB s).2 : Int)]) ∧ w' = w := by
  have hb := get_bt s
  have HD := Lib.hid (run_digit s hs w)
  have HW := Lib.hid (run_word s hs w)
  have HS := Lib.hid (signSize_any s w h)
  have HF : Hid (firstB s = if digitB (bt s 0) = true then (if runN digitB s > 3 then (0, 0) else (1, runN digitB s))
    else if lowerB (bt s 0) = true then (if runN wordB s > 8 then (0, 0) else (2, runN wordB s))
    else if letterB (bt s 0) = true then (3, 1)
    else if signB (bt s 0) (bt s 1) > 0 then (4, signB (bt s 0) (bt s 1)) else (0, 0)) := rfl
  generalize firstB s = X at *
  generalize runN digitB s = nd at *
  generalize runN wordB s = nw at *
  generalize signB (bt s 0) (bt s 1) = ns at *
  obtain ⟨m, hm⟩ : ∃ m, s.size = m := ⟨_, rfl⟩
  rw [hm] at h0
  have h0' : (0 : Int) < (m : Int) := by omega
  clear h hs
  have a1 := atMost_any 3 1 nd w
  have a2 := atMost_any 8 2 nw w
  obtain ⟨k1, hk1⟩ : ∃ k1, (if nd > 3 then 0 else 1) = k1 := ⟨_, rfl⟩
  obtain ⟨n1, hn1⟩ : ∃ n1, (if nd > 3 then 0 else nd) = n1 := ⟨_, rfl⟩
  obtain ⟨k2, hk2⟩ : ∃ k2, (if nw > 8 then 0 else 2) = k2 := ⟨_, rfl⟩
  obtain ⟨n2, hn2⟩ : ∃ n2, (if nw > 8 then 0 else nw) = n2 := ⟨_, rfl⟩
  rw [hk1, hn1] at a1
  rw [hk2, hn2] at a2
  have HA1 := Lib.hid a1
  have HA2 := Lib.hid a2
  have HE1 : Hid ((if nd > 3 then (0, 0) else (1, nd) : Nat × Nat) = (k1, n1)) := by
    show _ = _
    rw [← hk1, ← hn1]
    split <;> rfl
  have HE2 : Hid ((if nw > 8 then (0, 0) else (2, nw) : Nat × Nat) = (k2, n2)) := by
    show _ = _
    rw [← hk2, ← hn2]
    split <;> rfl
  clear a1 a2 hk1 hn1 hk2 hn2
  cases q1 : digitB (bt s 0) with
  | true =>
    have e : X = (k1, n1) := by rw [HF.out, if_pos q1, HE1.out]
    clear HF
    go_enter Tryd.func15, Tryd.ntmps15
    go_wp2_with (first
      | (with_reducible refine (isDigit_any _ _).mono ?_; rintro e w' ⟨rfl, rfl⟩)
      | (with_reducible refine HD.out.mono ?_; rintro e w' ⟨rfl, rfl⟩)
      | (refine HA1.out.mono ?_; rintro e w' ⟨rfl, rfl⟩))
    go_ret2
    exact ⟨by rw [e]; rfl, rfl⟩
  | false =>
    cases q2 : lowerB (bt s 0) with
    | true =>
      have e : X = (k2, n2) := by rw [HF.out, if_neg (by rw [q1]; decide), if_pos q2, HE2.out]
      clear HF
      go_enter Tryd.func15, Tryd.ntmps15
      go_wp2_with (first
        | (with_reducible refine (isDigit_any _ _).mono ?_; rintro e w' ⟨rfl, rfl⟩)
        | (with_reducible refine (beginsWord_any _ _).mono ?_; rintro e w' ⟨rfl, rfl⟩)
        | (with_reducible refine HW.out.mono ?_; rintro e w' ⟨rfl, rfl⟩)
        | (refine HA2.out.mono ?_; rintro e w' ⟨rfl, rfl⟩))
      go_ret2
      exact ⟨by rw [e]; rfl, rfl⟩
    | false =>
      cases q3 : letterB (bt s 0) with
      | true =>
        have e : X = (3, 1) := by rw [HF.out, if_neg (by rw [q1]; decide), if_neg (by rw [q2]; decide), if_pos q3]
        clear HF
        go_enter Tryd.func15, Tryd.ntmps15
        go_wp2_with (first
          | (with_reducible refine (isDigit_any _ _).mono ?_; rintro e w' ⟨rfl, rfl⟩)
          | (with_reducible refine (beginsWord_any _ _).mono ?_; rintro e w' ⟨rfl, rfl⟩)
          | (with_reducible refine (isLetter_any _ _).mono ?_; rintro e w' ⟨rfl, rfl⟩))
        go_ret2
        exact ⟨by rw [e]; rfl, rfl⟩
      | false =>
        have e : X = if ns > 0 then (4, ns) else (0, 0) := by rw [HF.out, if_neg (by rw [q1]; decide), if_neg (by rw [q2]; decide), if_neg (by rw [q3]; decide)]
        clear HF
        by_cases q4 : ns > 0
        · rw [if_pos q4] at e
          have q4' : (0 : Int) < (ns : Int) := by omega
          go_enter Tryd.func15, Tryd.ntmps15
          go_wp2_with (first
            | (with_reducible refine (isDigit_any _ _).mono ?_; rintro e w' ⟨rfl, rfl⟩)
            | (with_reducible refine (beginsWord_any _ _).mono ?_; rintro e w' ⟨rfl, rfl⟩)
            | (with_reducible refine (isLetter_any _ _).mono ?_; rintro e w' ⟨rfl, rfl⟩)
            | (with_reducible refine HS.out.mono ?_; rintro e w' ⟨rfl, rfl⟩))
          go_ret2
          exact ⟨by rw [e]; rfl, rfl⟩
        · rw [if_neg q4] at e
          have q4' : ¬ (0 : Int) < (ns : Int) := by omega
          go_enter Tryd.func15, Tryd.ntmps15
          go_wp2_with (first
            | (with_reducible refine (isDigit_any _ _).mono ?_; rintro e w' ⟨rfl, rfl⟩)
            | (with_reducible refine (beginsWord_any _ _).mono ?_; rintro e w' ⟨rfl, rfl⟩)
            | (with_reducible refine (isLetter_any _ _).mono ?_; rintro e w' ⟨rfl, rfl⟩)
            | (with_reducible refine HS.out.mono ?_; rintro e w' ⟨rfl, rfl⟩))
          go_ret2
          exact ⟨by rw [e]; rfl, rfl⟩

theorem digit_is {c : Int} (h : digitB c = true) : 0 ≤ c - 48 ∧ c - 48 ≤ 9 := by
  unfold digitB at h
  rw [decide_eq_true_eq] at h
  omega

theorem valN_bound (s : ByteArray) (n : Nat) (hn : n ≤ 3) (hd : ∀ k, k < n → digitB (bt s k) = true) : ∀ k, k ≤ n → 0 ≤ valN s k ∧ valN s k ≤ 999 ∧ (k < 3 → valN s k ≤ 99) ∧ (k < 2 → valN s k ≤ 9) ∧ (k < 1 → valN s k ≤ 0)
  | 0, _ => ⟨Int.le_refl _, by show (0 : Int) ≤ 999; decide, fun _ => by show (0 : Int) ≤ 99; decide, fun _ => by show (0 : Int) ≤ 9; decide, fun _ => Int.le_refl _⟩
  | k + 1, hk => by
    obtain ⟨h1, h2, h3, h4, h5⟩ := valN_bound s n hn hd k (by omega)
    have hc := digit_is (hd k (by omega))
    have e : valN s (k + 1) = 10 * valN s k + (bt s k - 48) := rfl
    rw [e]
    generalize valN s k = v at *
    generalize bt s k = x at *
    refine ⟨by omega, ?_, ?_, ?_, by omega⟩ <;> omega

set_option maxHeartbeats 1600000 in
/-- The number of a text of at most three digits. -/
theorem value_any (s : ByteArray) (hd : ∀ k, k < s.size → digitB (bt s k) = true) (hs : s.size ≤ 3) (w : World) : Calls Tryd.prog 32 #[.string s] w fun e w' => e = .returned (.int .i64 (valN s s.size)) ∧ w' = w := by
  have hb := get_bt s
  have HD := Lib.hid hd
  obtain ⟨m, hm⟩ : ∃ m, s.size = m := ⟨_, rfl⟩
  rw [hm] at hd HD hs ⊢
  have hbd := valN_bound s m hs hd
  obtain ⟨V, hV⟩ : ∃ V : Nat → Int, V = valN s := ⟨_, rfl⟩
  have h0 : V 0 = 0 := by rw [hV]; rfl
  have HV : Hid (∀ n, V (n + 1) = 10 * V n + (bt s n - 48)) := fun n => by rw [hV]; rfl
  rw [← hV] at hbd ⊢
  have HB := Lib.hid hbd
  clear hV hd hbd
  go_enter Tryd.func32, Tryd.ntmps32
  go_wp2_with fail
  go_loopw [3, 4, 7] (fun v _ i wx => ∃ k : Nat, i = .int .i64 (k : Int) ∧ k ≤ m ∧ v = .int .i64 (V k) ∧ wx = w) (fun _ _ i _ => m - (intOf i).toNat)
  case atStart => exact ⟨0, rfl, Nat.zero_le _, by rw [h0], rfl⟩
  case round =>
    obtain ⟨k, rfl, hk, rfl, rfl⟩ := hrel
    clear h0
    by_cases q : k < m
    · have q' : (k : Int) < (m : Int) := by omega
      have hc := digit_is (HD.out k q)
      have hS := HV.out k
      obtain ⟨h1, _, h2, _⟩ := HB.out k (by omega)
      have h2 := h2 (by omega)
      obtain ⟨v, hv⟩ : ∃ v, V k = v := ⟨_, rfl⟩
      rw [hv] at hS h1 h2 ⊢
      obtain ⟨x, hx⟩ : ∃ x, bt s k = x := ⟨_, rfl⟩
      have e1 : IntKind.u8.wrap (x - 48) = x - 48 := by rw [IntKind.wrap_u8]; omega
      have e2 : IntKind.i64.wrap (10 * v) = 10 * v := wrap_fits ⟨by omega, by omega⟩
      have e3 : IntKind.i64.wrap (x - 48) = x - 48 := wrap_fits ⟨by omega, by omega⟩
      have e4 : IntKind.i64.wrap (10 * v + (x - 48)) = 10 * v + (x - 48) := wrap_fits ⟨by omega, by omega⟩
      rw [hx] at hS hc
      have HS := Lib.hid hS
      go_wp2_with fail
      exact ⟨⟨k + 1, by rw [Int.natCast_add]; rfl, by omega, by rw [HS.out], trivial⟩, by simp only [intOf]; omega⟩
    · obtain rfl : k = m := by omega
      go_wp2_with fail
      go_ret
      exact ⟨rfl, rfl⟩

/-- Is a text one word? -/
def isWordB (s : ByteArray) : Bool := decide (0 < s.size ∧ (firstB s).1 = 2 ∧ (firstB s).2 = s.size)
theorem empty_of_size {s : ByteArray} (h : s.size = 0) : s = ⟨#[]⟩ := by
  apply ByteArray.ext
  exact Array.eq_empty_of_size_eq_zero h
set_option maxHeartbeats 1600000 in
theorem isWord_any (s : ByteArray) (hs : s.size ≤ maxLen) (w : World) (h : Tbl w 3 sgTab) : Calls Tryd.prog 9 #[.string s] w fun e w' => e = .returned (.bool (isWordB s)) ∧ w' = w := by
  rcases Nat.eq_zero_or_pos s.size with q | q
  · have e : isWordB s = false := by unfold isWordB; rw [decide_eq_false (by omega)]
    rw [e]
    obtain rfl := empty_of_size q
    go_enter Tryd.func9, Tryd.ntmps9
    go_wp2_with fail
    go_ret
    exact ⟨rfl, rfl⟩
  · have HF := Lib.hid (first_any s hs q w h)
    have hne : s.toList.isEmpty = false := by
      rw [Lib.toList_data, List.isEmpty_eq_false_iff]
      intro e
      have h1 := congrArg List.length e
      rw [size_data, List.length_nil] at h1
      omega
    have he : isWordB s = (decide ((firstB s).1 = 2) && decide ((firstB s).2 = s.size)) := by
      unfold isWordB
      rw [Bool.eq_iff_iff, decide_eq_true_eq, Bool.and_eq_true, decide_eq_true_eq, decide_eq_true_eq]
      exact ⟨fun h => h.2, fun h => ⟨q, h⟩⟩
    generalize (firstB s).1 = k at *
    generalize (firstB s).2 = n at *
    obtain ⟨m, hm⟩ : ∃ m, s.size = m := ⟨_, rfl⟩
    rw [hm] at he
    generalize isWordB s = b at *
    clear h hs q
    go_enter Tryd.func9, Tryd.ntmps9
    go_wp2_with (with_reducible refine HF.out.mono ?_; rintro e w' ⟨rfl, rfl⟩)
    all_goals (go_ret; refine ⟨congrArg (fun b => Ending.returned (.bool b)) (Bool.eq_iff_iff.2 ?_), rfl⟩; rw [he]; simp <;> omega)
end Go.Proofs.YtdfodmnjgpgojaaDoor
