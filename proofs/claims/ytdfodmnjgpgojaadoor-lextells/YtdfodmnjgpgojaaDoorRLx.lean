/- The contract of the reference's Lex. -/
import Derived.Test.YtdfodmnjgpgojaaDoorLexW
import Derived.Test.YtdfodmnjgpgojaaDoorRSw
namespace Go.Proofs.YtdfodmnjgpgojaaDoor
open Go.RowKit Go.PlainAid
set_option maxRecDepth 100000

theorem Been.move {s : ByteArray} {w wx wy : World} {a : Nat} {l : List Tok} {v : Value} (h : Been s w a l v wx) (O : Old wx wy) : Been s w a l v wy := ⟨h.toks.old O, h.old.trans O, h.is, h.le⟩
theorem valN_congr {X Y : ByteArray} : ∀ {n : Nat}, (∀ j, j < n → bt X j = bt Y j) → valN X n = valN Y n
  | 0, _ => rfl
  | n + 1, h => by
    show 10 * valN X n + (bt X n - 48) = 10 * valN Y n + (bt Y n - 48)
    rw [valN_congr (fun j hj => h j (by omega)), h n (by omega)]
/-- A token of the reference's, in its block: nothing that was there when its round began has turned. -/
structure Bit (wr : World) (h : Nat) (k : Nat) (t : ByteArray) (n : Int) (a : Nat) (w : World) : Prop where
  old : Old wr w
  new : wr.heap.size ≤ h
  is : Blk w h 29 [.int .i64 (k : Int), .string t, .int .i64 n, .int .i64 (a : Int)]
theorem Bit.kind {wr w : World} {h k a : Nat} {t : ByteArray} {n : Int} (B : Bit wr h k t n a w) (j : Nat) (ji : Int) (e : ji = (j : Int)) : Bit wr h j t n a (w.setCell ⟨h, 0, none⟩ (.int .i64 ji)) := by
  subst e
  exact ⟨B.old.setCell (.inr B.new) _, B.new, B.is.set 0 (.int .i64 (j : Int))⟩
theorem Bit.text {wr w : World} {h k a : Nat} {t : ByteArray} {n : Int} (B : Bit wr h k t n a w) (u : ByteArray) : Bit wr h k u n a (w.setCell ⟨h, 1, none⟩ (.string u)) := ⟨B.old.setCell (.inr B.new) _, B.new, B.is.set 1 (.string u)⟩
theorem Bit.num {wr w : World} {h k a : Nat} {t : ByteArray} {n : Int} (B : Bit wr h k t n a w) (m : Int) : Bit wr h k t m a (w.setCell ⟨h, 2, none⟩ (.int .i64 m)) := ⟨B.old.setCell (.inr B.new) _, B.new, B.is.set 2 (.int .i64 m)⟩
theorem Bit.drewN {wr w : World} {h k a : Nat} {t : ByteArray} {n : Int} (B : Bit wr h k t n a w) (m : Nat) : Bit wr h k t n a (w.drewN m) := ⟨B.old.drewN m, B.new, B.is⟩
theorem Bit.drew {wr w : World} {h k a : Nat} {t : ByteArray} {n : Int} (B : Bit wr h k t n a w) : Bit wr h k t n a w.drew := ⟨B.old.drew, B.new, B.is⟩
theorem is_blank {c : Int} (h : blankB c = true) : c = 32 ∨ c = 9 ∨ c = 10 := by
  unfold blankB at h
  rwa [decide_eq_true_eq] at h
theorem not_blank {c : Int} (h : blankB c = false) : (c == 32) = false ∧ (c == 9) = false ∧ (c == 10) = false := by
  unfold blankB at h
  rw [decide_eq_false_iff_not] at h
  simp only [beq_eq_false_iff_ne]
  omega
theorem letter_is {c : Int} (h : letterB c = true) : c = 88 ∨ c = 70 ∨ c = 71 ∨ c = 85 ∨ c = 82 := by
  unfold letterB at h
  rwa [decide_eq_true_eq] at h
theorem not_letter {c : Int} (h : letterB c = false) : (c == 88) = false ∧ (c == 70) = false ∧ (c == 71) = false ∧ (c == 85) = false ∧ (c == 82) = false := by
  unfold letterB at h
  rw [decide_eq_false_iff_not] at h
  simp only [beq_eq_false_iff_ne]
  omega
theorem refLower_at (c : Int) (w : World) : Calls Tryd.prog 22 #[.int .u8 c] w fun e w' => e = .returned (.bool (lowerB c)) ∧ w = w' := (refLower_any c w).mono fun _ _ ⟨x, y⟩ => ⟨x, y.symm⟩
theorem refDigit_at (c : Int) (w : World) : Calls Tryd.prog 21 #[.int .u8 c] w fun e w' => e = .returned (.bool (digitB c)) ∧ w = w' := (refDigit_any c w).mono fun _ _ ⟨x, y⟩ => ⟨x, y.symm⟩
theorem wordB_or (c : Int) : wordB c = (lowerB c || digitB c) := by
  unfold wordB lowerB digitB
  rw [Bool.eq_iff_iff]
  simp

set_option maxHeartbeats 25600000 in
theorem refLex_any (s : ByteArray) (w : World) : Calls Tryd.prog 11 #[.string s] w (LexPost s w) := by
  have hb := get_bt s
  obtain ⟨m, hm⟩ : ∃ m, s.size = m := ⟨_, rfl⟩
  by_cases hlong : m > 60000
  · have HL := Lib.hid (lex_long w (by omega : s.size > 60000))
    have q' : (60000 : Int) < (m : Int) := by omega
    go_enter Tryd.func11, Tryd.ntmps11
    go_wp2_with fail
    go_ret3
    exact HL.out
  · have q' : ¬ (60000 : Int) < (m : Int) := by omega
    have HQ : Hid (s.size ≤ 60000) := by show _ ≤ _; omega
    have H0 := Lib.hid (Been.zero s w)
    go_enter Tryd.func11, Tryd.ntmps11
    go_wp2_with fail
    go_loopw [5, 6, 7, 8, 9] (fun v at_ _ _ _ wx => ∃ (a : Nat) (l : List Tok), at_ = .int .i64 (a : Int) ∧ a ≤ m ∧ Hid (Been s w a l v wx)) (fun _ at_ _ _ _ _ => m - (intOf at_).toNat)
    case atStart => exact ⟨0, [], rfl, Nat.zero_le _, H0⟩
    case round =>
      obtain ⟨a, l, rfl, ha, HB⟩ := hrel
      clear H0
      by_cases q : a < m
      · have q1 : (a : Int) < (m : Int) := by omega
        have HK0 : Hid (Bit wr wr.heap.size 0 ⟨#[]⟩ 0 a (wr.alloc (.cells #[.int .i64 0, .string ⟨#[]⟩, .int .i64 0, .int .i64 (a : Int)] 29))) := ⟨(Touch.refl _ _).alloc _, Nat.le_refl _, Blk.new wr 29 [.int .i64 0, .string ⟨#[]⟩, .int .i64 0, .int .i64 (a : Int)]⟩
        go_upto_region 13 with fail
        generalize wr.alloc (.cells #[.int .i64 0, .string ⟨#[]⟩, .int .i64 0, .int .i64 (a : Int)] 29) = w1 at *
        generalize wr.heap.size = h at *
        cases hbl : blankB (bt s a) with
        | true =>
          have HN := Lib.hid ((HB.out.blank (by omega) hbl).move HK0.out.old)
          rcases is_blank hbl with z | z | z
          all_goals (
            go_wp2_with fail
            exact ⟨⟨a + 1, l, by rw [Int.natCast_add]; rfl, by omega, HN⟩, by simp only [intOf]; omega⟩)
        | false =>
          obtain ⟨z1, z2, z3⟩ := not_blank hbl
          obtain ⟨X, hX⟩ : ∃ X, s.extract a s.size = X := ⟨_, rfl⟩
          have hXs : X.size = m - a := by rw [← hX, ByteArray.size_extract]; omega
          have HXb : Hid (∀ k, a + k < m → bt X k = bt s (a + k)) := fun k hk => by rw [← hX]; exact bt_part s a s.size k (by omega)
          have HFb : Hid (firstB X = if digitB (bt X 0) = true then (if runN digitB X > 3 then (0, 0) else (1, runN digitB X))
    else if lowerB (bt X 0) = true then (if runN wordB X > 8 then (0, 0) else (2, runN wordB X))
    else if letterB (bt X 0) = true then (3, 1)
    else if signB (bt X 0) (bt X 1) > 0 then (4, signB (bt X 0) (bt X 1)) else (0, 0)) := rfl
          have hX0 : bt X 0 = bt s a := by have := HXb.out 0 (by omega); rwa [Nat.add_zero] at this
          have HBad : Hid (∀ wx, firstB X = (0, 0) → Old wr wx → LexPost s w (.returned (.tuple #[.slice none 0 0, .int .i64 2, .int .i64 (a : Int)])) wx) := fun wx hf O => (HB.out.move O).bad HQ.out (by omega) hbl (by rw [hX]; exact hf)
          have HTok : Hid (∀ (k n : Nat) (ki ni N : Int) wx, ki = ((k + 1 : Nat) : Int) → ni = (n : Int) → firstB X = (k + 1, n) → (if k + 1 = 1 then valN (s.extract a (a + n)) n else 0) = N → Old wr wx → a + n ≤ m ∧ 1 ≤ n ∧ ∃ v' w', (∀ ty, (Builtin.append_ #[23, 23] ty #[u5, .slice (some ⟨wx.heap.size, 0, none⟩) 1 1]).run Tryd.prog (wx.alloc (.cells #[.int .i64 ki, .string (s.extract a (a + n)), .int .i64 N, .int .i64 (a : Int)] 29)) = .ok v' w') ∧ ∃ l', Been s w (a + n) l' v' w') := fun k n ki ni N wx hki _ hf hN O => by
            subst hN hki
            have hf' : firstB (s.extract a s.size) = (k + 1, n) := by rw [hX]; exact hf
            obtain ⟨g1, g2, _⟩ := firstB_good (by omega) hf
            obtain ⟨v', w', h1, h2⟩ := HB.out.tok (by omega) HQ.out hbl hf' O
            exact ⟨by omega, g1, v', w', h1, _, h2⟩
          cases hdg : digitB (bt s a) with
          | true =>
            have b0 := HK0.out.is.cell 0
            have f0 := HK0.out.is.frozen 0
            have HK1 := Lib.hid (HK0.out.kind 1 1 rfl)
            obtain ⟨r, hr⟩ : ∃ r, runN digitB X = r := ⟨_, rfl⟩
            have HR : Hid (∀ j, j ≤ m - a → (∀ k, k < j → digitB (bt X k) = true) → (j < m - a → digitB (bt X j) = false) → j = r) := fun j h1 h2 h3 => by
              rw [← hr]
              exact (runN_eq ⟨by omega, h2, fun c => h3 (by omega)⟩).symm
            have HFs : Hid (firstB X = if r > 3 then (0, 0) else (1, r)) := by
              show _ = _
              rw [HFb.out, hX0, hdg, hr]
              rfl
            clear hr
            go_upto_region 17 with (first
              | (with_reducible refine (refDigit_at _ _).mono ?_; rintro e w' ⟨rfl, rfl⟩))
            generalize World.setCell _ ⟨h, 0, none⟩ (.int .i64 1) = w3 at *
            clear b0 f0
            obtain ⟨wo, hwo⟩ : ∃ wo, wo = wr := ⟨wr, rfl⟩
            subst hwo
            go_loopw [7] (fun v wx => ∃ j : Nat, j ≤ m - a ∧ v = .int .i64 (j : Int) ∧ Hid (∀ k, k < j → digitB (bt X k) = true) ∧ Hid (Bit wo h 1 ⟨#[]⟩ (valN X (min j 3)) a wx)) (fun v _ => (m - a) - (intOf v).toNat)
            case atStart => exact ⟨0, Nat.zero_le _, rfl, fun k hk => absurd hk (Nat.not_lt_zero _), HK1⟩
            case round =>
              obtain ⟨j, hj, rfl, HJ, HB2⟩ := hrel
              clear HK1
              have ew : IntKind.i64.wrap ((a : Int) + (j : Int)) = (a : Int) + (j : Int) := wrap_fits ⟨by omega, by omega⟩
              by_cases qj : a + j < m
              · have qj' : (a : Int) + (j : Int) < (m : Int) := by omega
                have hbx := HXb.out j qj
                cases hd : digitB (bt s (a + j)) with
                | true =>
                  have HJn : Hid (∀ k, k < j + 1 → digitB (bt X k) = true) := fun k hk => by
                    rcases Nat.lt_or_ge k j with c | c
                    · exact HJ.out k c
                    · obtain rfl : k = j := by omega
                      rw [hbx]; exact hd
                  by_cases q3 : j < 3
                  · have q3' : (j : Int) < 3 := by omega
                    have hbd := valN_bound X j (by omega) HJ.out j (Nat.le_refl _)
                    have hst : valN X (j + 1) = 10 * valN X j + (bt X j - 48) := rfl
                    rw [hbx] at hst
                    have hdi := digit_is hd
                    have HM : Hid (Bit wo h 1 ⟨#[]⟩ (valN X j) a wr) := by
                      have := HB2.out
                      rw [Nat.min_eq_left (by omega)] at this
                      exact this
                    have HMn : Hid (∀ wx, Bit wo h 1 ⟨#[]⟩ (valN X (j + 1)) a wx → Bit wo h 1 ⟨#[]⟩ (valN X (min (j + 1) 3)) a wx) := fun wx hx => by
                      rw [Nat.min_eq_left (by omega)]
                      exact hx
                    rw [hst] at HMn
                    generalize valN X j = V at *
                    go_upto_region 19 with (first
                      | (with_reducible refine (refDigit_at _ _).mono ?_; rintro e w' ⟨rfl, rfl⟩))
                    obtain ⟨x, hx⟩ : ∃ x, bt s (a + j) = x := ⟨_, rfl⟩
                    rw [hx] at hdi hst HMn
                    have c2 : wr.cell? ⟨h, 2, none⟩ = some (.int .i64 V) := HM.out.is.cell 2
                    have f2 := HM.out.is.frozen 2
                    have e1 : IntKind.u8.wrap (x - 48) = x - 48 := by rw [IntKind.wrap_u8]; omega
                    have e2 : IntKind.i64.wrap (10 * V) = 10 * V := wrap_fits ⟨by omega, by omega⟩
                    have e3 : IntKind.i64.wrap (x - 48) = x - 48 := wrap_fits ⟨by omega, by omega⟩
                    have e4 : IntKind.i64.wrap (10 * V + (x - 48)) = 10 * V + (x - 48) := wrap_fits ⟨by omega, by omega⟩
                    go_region
                    go_wp2_with fail
                    exact ⟨⟨j + 1, by omega, by rw [Int.natCast_add]; rfl, HJn, HMn.out _ ((HM.out.num (10 * V + (x - 48))).drew)⟩, by simp only [intOf]; omega⟩
                  · have q3' : ¬ (j : Int) < 3 := by omega
                    have HMn : Hid (Bit wo h 1 ⟨#[]⟩ (valN X (min (j + 1) 3)) a wr) := by
                      have := HB2.out
                      rw [Nat.min_eq_right (by omega)] at this
                      show Bit _ _ _ _ _ _ _
                      rw [Nat.min_eq_right (by omega)]
                      exact this
                    go_wp2_with (first
                      | (with_reducible refine (refDigit_at _ _).mono ?_; rintro e w' ⟨rfl, rfl⟩))
                    exact ⟨⟨j + 1, by omega, by rw [Int.natCast_add]; rfl, HJn, HMn⟩, by simp only [intOf]; omega⟩
                | false =>
                  obtain rfl : r = j := (HR.out j hj HJ.out (fun _ => by rw [hbx]; exact hd)).symm
                  clear HR HJ
                  by_cases hbig : r > 3
                  · have hbig' : (3 : Int) < (r : Int) := by omega
                    have hf : firstB X = (0, 0) := by rw [HFs.out, if_pos hbig]
                    have HL := Lib.hid (HBad.out wr hf HB2.out.old)
                    go_wp2_with (first
                      | (with_reducible refine (refDigit_at _ _).mono ?_; rintro e w' ⟨rfl, rfl⟩))
                    go_ret3
                    exact HL.out
                  · have hbig' : ¬ (3 : Int) < (r : Int) := by omega
                    have hf : firstB X = (0 + 1, r) := by rw [HFs.out, if_neg hbig]
                    have hN : valN (s.extract a (a + r)) r = valN X (min r 3) := by
                      rw [Nat.min_eq_left (by omega)]
                      exact valN_congr (fun k hk => by rw [bt_part s a (a + r) k (by omega), HXb.out k (by omega)])
                    generalize valN X (min r 3) = V at *
                    go_upto_region 32 with (first
                      | (with_reducible refine (refDigit_at _ _).mono ?_; rintro e w' ⟨rfl, rfl⟩))
                    clear ew hd
                    have b1 : wr.cell? ⟨h, 1, none⟩ = some (.string ⟨#[]⟩) := HB2.out.is.cell 1
                    have f1 := HB2.out.is.frozen 1
                    have e1 : (a : Int) ≤ (a : Int) + r := by omega
                    have e2 : (a : Int) + r ≤ (m : Int) := by omega
                    have HK9 := Lib.hid (HB2.out.text (s.extract a (a + r)))
                    go_upto_region 33 with fail
                    generalize World.setCell wr ⟨h, 1, none⟩ (.string (s.extract a (a + r))) = w9 at *
                    clear b1 f1
                    obtain ⟨g1, g2, v', w', hap, l', HBn⟩ := HTok.out 0 r 1 r V w9 rfl rfl hf (by rw [if_pos rfl]; exact hN) HK9.out.old
                    have HBn := Lib.hid HBn
                    have b0 : w9.cell? ⟨h, 0, none⟩ = some (.int .i64 1) := HK9.out.is.cell 0
                    have b1 : w9.cell? ⟨h, 1, none⟩ = some (.string (s.extract a (a + r))) := HK9.out.is.cell 1
                    have b2 : w9.cell? ⟨h, 2, none⟩ = some (.int .i64 V) := HK9.out.is.cell 2
                    have b3 : w9.cell? ⟨h, 3, none⟩ = some (.int .i64 (a : Int)) := HK9.out.is.cell 3
                    clear HTok HBad HFb HXb
                    go_wp2_with (first | (at_builtin; refine wpList_append_run rfl _ _ 23 23 rfl _ _ rfl rfl _ _ (hap _) ?_))
                    exact ⟨⟨a + r, l', congrArg (Value.int .i64) (by omega), by omega, HBn⟩, by simp only [intOf]; omega⟩
              · have qj' : ¬ (a : Int) + (j : Int) < (m : Int) := by omega
                obtain rfl : r = j := (HR.out j hj HJ.out (fun c => by omega)).symm
                clear HR HJ
                by_cases hbig : r > 3
                · have hbig' : (3 : Int) < (r : Int) := by omega
                  have hf : firstB X = (0, 0) := by rw [HFs.out, if_pos hbig]
                  have HL := Lib.hid (HBad.out wr hf HB2.out.old)
                  go_wp2_with fail
                  go_ret3
                  exact HL.out
                · have hbig' : ¬ (3 : Int) < (r : Int) := by omega
                  have hf : firstB X = (0 + 1, r) := by rw [HFs.out, if_neg hbig]
                  have hN : valN (s.extract a (a + r)) r = valN X (min r 3) := by
                    rw [Nat.min_eq_left (by omega)]
                    exact valN_congr (fun k hk => by rw [bt_part s a (a + r) k (by omega), HXb.out k (by omega)])
                  generalize valN X (min r 3) = V at *
                  go_upto_region 32 with fail
                  clear ew
                  have b1 : wr.cell? ⟨h, 1, none⟩ = some (.string ⟨#[]⟩) := HB2.out.is.cell 1
                  have f1 := HB2.out.is.frozen 1
                  have e1 : (a : Int) ≤ (a : Int) + r := by omega
                  have e2 : (a : Int) + r ≤ (m : Int) := by omega
                  have HK9 := Lib.hid (HB2.out.text (s.extract a (a + r)))
                  go_upto_region 33 with fail
                  generalize World.setCell wr ⟨h, 1, none⟩ (.string (s.extract a (a + r))) = w9 at *
                  clear b1 f1
                  obtain ⟨g1, g2, v', w', hap, l', HBn⟩ := HTok.out 0 r 1 r V w9 rfl rfl hf (by rw [if_pos rfl]; exact hN) HK9.out.old
                  have HBn := Lib.hid HBn
                  have b0 : w9.cell? ⟨h, 0, none⟩ = some (.int .i64 1) := HK9.out.is.cell 0
                  have b1 : w9.cell? ⟨h, 1, none⟩ = some (.string (s.extract a (a + r))) := HK9.out.is.cell 1
                  have b2 : w9.cell? ⟨h, 2, none⟩ = some (.int .i64 V) := HK9.out.is.cell 2
                  have b3 : w9.cell? ⟨h, 3, none⟩ = some (.int .i64 (a : Int)) := HK9.out.is.cell 3
                  clear HTok HBad HFb HXb
                  go_wp2_with (first | (at_builtin; refine wpList_append_run rfl _ _ 23 23 rfl _ _ rfl rfl _ _ (hap _) ?_))
                  exact ⟨⟨a + r, l', congrArg (Value.int .i64) (by omega), by omega, HBn⟩, by simp only [intOf]; omega⟩
          | false =>
            cases hlw : lowerB (bt s a) with
            | true =>
              have b0 := HK0.out.is.cell 0
              have f0 := HK0.out.is.frozen 0
              have HK1 := Lib.hid (HK0.out.kind 2 2 rfl)
              obtain ⟨r, hr⟩ : ∃ r, runN wordB X = r := ⟨_, rfl⟩
              have HR : Hid (∀ j, j ≤ m - a → (∀ k, k < j → wordB (bt X k) = true) → (j < m - a → wordB (bt X j) = false) → j = r) := fun j h1 h2 h3 => by
                rw [← hr]
                exact (runN_eq ⟨by omega, h2, fun c => h3 (by omega)⟩).symm
              have HFs : Hid (firstB X = if r > 8 then (0, 0) else (2, r)) := by
                show _ = _
                rw [HFb.out, hX0, hdg, hlw, hr]
                rfl
              clear hr
              go_upto_region 25 with (first
                | (with_reducible refine (refLower_at _ _).mono ?_; rintro e w' ⟨rfl, rfl⟩)
                | (with_reducible refine (refDigit_at _ _).mono ?_; rintro e w' ⟨rfl, rfl⟩))
              generalize World.setCell _ ⟨h, 0, none⟩ (.int .i64 2) = w3 at *
              clear b0 f0
              go_loopw [7] (fun v wx => ∃ j : Nat, j ≤ m - a ∧ v = .int .i64 (j : Int) ∧ Hid (∀ k, k < j → wordB (bt X k) = true) ∧ w3 = wx) (fun v _ => (m - a) - (intOf v).toNat)
              case atStart => exact ⟨0, Nat.zero_le _, rfl, fun k hk => absurd hk (Nat.not_lt_zero _), rfl⟩
              case round =>
                obtain ⟨j, hj, rfl, HJ, rfl⟩ := hrel
                by_cases qj : a + j < m
                · have qj' : (a : Int) + (j : Int) < (m : Int) := by omega
                  have hbx := HXb.out j qj
                  have ew : IntKind.i64.wrap ((a : Int) + (j : Int)) = (a : Int) + (j : Int) := wrap_fits ⟨by omega, by omega⟩
                  have hwo := wordB_or (bt s (a + j))
                  have HGo : Hid (wordB (bt s (a + j)) = true → ∀ k, k < j + 1 → wordB (bt X k) = true) := fun e k hk => by
                    rcases Nat.lt_or_ge k j with c | c
                    · exact HJ.out k c
                    · obtain rfl : k = j := by omega
                      rw [hbx]; exact e
                  cases hl : lowerB (bt s (a + j)) with
                  | true =>
                    rw [hl, Bool.true_or] at hwo
                    go_wp2_with (first
                      | (with_reducible refine (refLower_at _ _).mono ?_; rintro e w' ⟨rfl, rfl⟩)
                      | (with_reducible refine (refDigit_at _ _).mono ?_; rintro e w' ⟨rfl, rfl⟩))
                    exact ⟨⟨j + 1, by omega, by rw [Int.natCast_add]; rfl, HGo.out hwo, trivial⟩, by simp only [intOf]; omega⟩
                  | false =>
                    rw [hl, Bool.false_or] at hwo
                    cases hd : digitB (bt s (a + j)) with
                    | true =>
                      rw [hd] at hwo
                      go_wp2_with (first
                        | (with_reducible refine (refLower_at _ _).mono ?_; rintro e w' ⟨rfl, rfl⟩)
                        | (with_reducible refine (refDigit_at _ _).mono ?_; rintro e w' ⟨rfl, rfl⟩))
                      exact ⟨⟨j + 1, by omega, by rw [Int.natCast_add]; rfl, HGo.out hwo, trivial⟩, by simp only [intOf]; omega⟩
                    | false =>
                      rw [hd] at hwo
                      obtain rfl : r = j := (HR.out j hj HJ.out (fun _ => by rw [hbx]; exact hwo)).symm
                      clear HGo HR HJ
                      by_cases hbig : r > 8
                      · have hbig' : (8 : Int) < (r : Int) := by omega
                        have hf : firstB X = (0, 0) := by rw [HFs.out, if_pos hbig]
                        have HL := Lib.hid (HBad.out w3 hf HK1.out.old)
                        go_wp2_with (first
                          | (with_reducible refine (refLower_at _ _).mono ?_; rintro e w' ⟨rfl, rfl⟩)
                          | (with_reducible refine (refDigit_at _ _).mono ?_; rintro e w' ⟨rfl, rfl⟩))
                        go_ret3
                        exact HL.out
                      · have hbig' : ¬ (8 : Int) < (r : Int) := by omega
                        have hf : firstB X = (1 + 1, r) := by rw [HFs.out, if_neg hbig]
                        go_upto_region 32 with (first
                          | (with_reducible refine (refLower_at _ _).mono ?_; rintro e w' ⟨rfl, rfl⟩)
                          | (with_reducible refine (refDigit_at _ _).mono ?_; rintro e w' ⟨rfl, rfl⟩))
                        clear hl hd hwo ew
                        have b1 : w3.cell? ⟨h, 1, none⟩ = some (.string ⟨#[]⟩) := HK1.out.is.cell 1
                        have f1 := HK1.out.is.frozen 1
                        have e1 : (a : Int) ≤ (a : Int) + r := by omega
                        have e2 : (a : Int) + r ≤ (m : Int) := by omega
                        have HK9 := Lib.hid (HK1.out.text (s.extract a (a + r)))
                        go_upto_region 33 with fail
                        generalize World.setCell w3 ⟨h, 1, none⟩ (.string (s.extract a (a + r))) = w9 at *
                        clear b1 f1
                        obtain ⟨g1, g2, v', w', hap, l', HBn⟩ := HTok.out 1 r 2 r 0 w9 rfl rfl hf rfl HK9.out.old
                        have HBn := Lib.hid HBn
                        have b0 : w9.cell? ⟨h, 0, none⟩ = some (.int .i64 2) := HK9.out.is.cell 0
                        have b1 : w9.cell? ⟨h, 1, none⟩ = some (.string (s.extract a (a + r))) := HK9.out.is.cell 1
                        have b2 : w9.cell? ⟨h, 2, none⟩ = some (.int .i64 0) := HK9.out.is.cell 2
                        have b3 : w9.cell? ⟨h, 3, none⟩ = some (.int .i64 (a : Int)) := HK9.out.is.cell 3
                        clear HTok HBad HFb HXb
                        go_wp2_with (first | (at_builtin; refine wpList_append_run rfl _ _ 23 23 rfl _ _ rfl rfl _ _ (hap _) ?_))
                        exact ⟨⟨a + r, l', congrArg (Value.int .i64) (by omega), by omega, HBn⟩, by simp only [intOf]; omega⟩
                · have qj' : ¬ (a : Int) + (j : Int) < (m : Int) := by omega
                  have ew : IntKind.i64.wrap ((a : Int) + (j : Int)) = (a : Int) + (j : Int) := wrap_fits ⟨by omega, by omega⟩
                  obtain rfl : r = j := (HR.out j hj HJ.out (fun c => by omega)).symm
                  clear HR HJ
                  by_cases hbig : r > 8
                  · have hbig' : (8 : Int) < (r : Int) := by omega
                    have hf : firstB X = (0, 0) := by rw [HFs.out, if_pos hbig]
                    have HL := Lib.hid (HBad.out w3 hf HK1.out.old)
                    go_wp2_with fail
                    go_ret3
                    exact HL.out
                  · have hbig' : ¬ (8 : Int) < (r : Int) := by omega
                    have hf : firstB X = (1 + 1, r) := by rw [HFs.out, if_neg hbig]
                    go_upto_region 32 with fail
                    clear ew
                    have b1 : w3.cell? ⟨h, 1, none⟩ = some (.string ⟨#[]⟩) := HK1.out.is.cell 1
                    have f1 := HK1.out.is.frozen 1
                    have e1 : (a : Int) ≤ (a : Int) + r := by omega
                    have e2 : (a : Int) + r ≤ (m : Int) := by omega
                    have HK9 := Lib.hid (HK1.out.text (s.extract a (a + r)))
                    go_upto_region 33 with fail
                    generalize World.setCell w3 ⟨h, 1, none⟩ (.string (s.extract a (a + r))) = w9 at *
                    clear b1 f1
                    obtain ⟨g1, g2, v', w', hap, l', HBn⟩ := HTok.out 1 r 2 r 0 w9 rfl rfl hf rfl HK9.out.old
                    have HBn := Lib.hid HBn
                    have b0 : w9.cell? ⟨h, 0, none⟩ = some (.int .i64 2) := HK9.out.is.cell 0
                    have b1 : w9.cell? ⟨h, 1, none⟩ = some (.string (s.extract a (a + r))) := HK9.out.is.cell 1
                    have b2 : w9.cell? ⟨h, 2, none⟩ = some (.int .i64 0) := HK9.out.is.cell 2
                    have b3 : w9.cell? ⟨h, 3, none⟩ = some (.int .i64 (a : Int)) := HK9.out.is.cell 3
                    clear HTok HBad HFb HXb
                    go_wp2_with (first | (at_builtin; refine wpList_append_run rfl _ _ 23 23 rfl _ _ rfl rfl _ _ (hap _) ?_))
                    exact ⟨⟨a + r, l', congrArg (Value.int .i64) (by omega), by omega, HBn⟩, by simp only [intOf]; omega⟩
            | false =>
              cases hlt : letterB (bt s a) with
              | true =>
                have hf : firstB X = (3, 1) := by rw [HFb.out, hX0, hdg, hlw, hlt]; rfl
                have b0 := HK0.out.is.cell 0
                have f0 := HK0.out.is.frozen 0
                have HK1 := Lib.hid (HK0.out.kind 3 3 rfl)
                go_upto_region 29 with (first
                  | (with_reducible refine (refLower_at _ _).mono ?_; rintro e w' ⟨rfl, rfl⟩)
                  | (with_reducible refine (refDigit_at _ _).mono ?_; rintro e w' ⟨rfl, rfl⟩))
                rcases letter_is hlt with z | z | z | z | z
                all_goals (
                  go_upto_region 32 with fail
                  generalize World.setCell _ ⟨h, 0, none⟩ (.int .i64 3) = w3 at *
                  clear b0 f0
                  have b1 : w3.cell? ⟨h, 1, none⟩ = some (.string ⟨#[]⟩) := HK1.out.is.cell 1
                  have f1 := HK1.out.is.frozen 1
                  have e1 : (a : Int) ≤ (a : Int) + 1 := by omega
                  have e2 : (a : Int) + 1 ≤ (m : Int) := by omega
                  have HK9 := Lib.hid (HK1.out.text (s.extract a (a + 1)))
                  go_upto_region 33 with fail
                  generalize World.setCell w3 ⟨h, 1, none⟩ (.string (s.extract a (a + 1))) = w9 at *
                  clear b1 f1
                  obtain ⟨g1, g2, v', w', hap, l', HBn⟩ := HTok.out 2 1 3 1 0 w9 rfl rfl hf rfl HK9.out.old
                  have HBn := Lib.hid HBn
                  have b0 : w9.cell? ⟨h, 0, none⟩ = some (.int .i64 3) := HK9.out.is.cell 0
                  have b1 : w9.cell? ⟨h, 1, none⟩ = some (.string (s.extract a (a + 1))) := HK9.out.is.cell 1
                  have b2 : w9.cell? ⟨h, 2, none⟩ = some (.int .i64 0) := HK9.out.is.cell 2
                  have b3 : w9.cell? ⟨h, 3, none⟩ = some (.int .i64 (a : Int)) := HK9.out.is.cell 3
                  clear HTok HBad HFb HXb
                  go_wp2_with (first | (at_builtin; refine wpList_append_run rfl _ _ 23 23 rfl _ _ rfl rfl _ _ (hap _) ?_))
                  exact ⟨⟨a + 1, l', congrArg (Value.int .i64) (by omega), by omega, HBn⟩, by simp only [intOf]; omega⟩)
              | false =>
                obtain ⟨y1, y2, y3, y4, y5⟩ := not_letter hlt
                have b0 := HK0.out.is.cell 0
                have f0 := HK0.out.is.frozen 0
                have HK1 := Lib.hid (HK0.out.kind 4 4 rfl)
                obtain ⟨S, hS⟩ : ∃ S, signB (bt X 0) (bt X 1) = S := ⟨_, rfl⟩
                have HSg : Hid (∀ w, Calls Tryd.prog 23 #[.string (s.extract a m)] w fun e w' => ∃ t : ByteArray, e = .returned (.string t) ∧ t.size = S ∧ Old w w') := fun w => by
                  rw [← hm, hX, ← hS]
                  exact refSign_any X (by omega) w
                have HFs : Hid (firstB X = if S > 0 then (4, S) else (0, 0)) := by
                  show _ = _
                  rw [HFb.out, hX0, hdg, hlw, hlt, ← hX0, hS]
                  rfl
                clear hS
                have a1 : (a : Int) ≤ (m : Int) := by omega
                by_cases hS0 : S = 0
                · subst hS0
                  have hf : firstB X = (0, 0) := HFs.out
                  go_upto_region 12 with (first
                    | (with_reducible refine (refLower_at _ _).mono ?_; rintro e w' ⟨rfl, rfl⟩)
                    | (with_reducible refine (refDigit_at _ _).mono ?_; rintro e w' ⟨rfl, rfl⟩)
                    | (go_at_call 23; refine (HSg.out _).mono ?_; rintro e w4 ⟨t, rfl, ht, O4⟩
                       have HL := Lib.hid (HBad.out w4 hf (HK1.out.old.trans O4))
                       clear O4))
                  go_wp2_with fail
                  go_ret3
                  exact HL.out
                · have hSz : ¬ (S : Int) = 0 := by omega
                  have hf : firstB X = (3 + 1, S) := by rw [HFs.out, if_pos (by omega)]
                  have hn2 : a + S ≤ m := (HTok.out 3 S 4 S 0 w1 rfl rfl hf rfl HK0.out.old).1
                  go_upto_region 32 with (first
                    | (with_reducible refine (refLower_at _ _).mono ?_; rintro e w' ⟨rfl, rfl⟩)
                    | (with_reducible refine (refDigit_at _ _).mono ?_; rintro e w' ⟨rfl, rfl⟩)
                    | (go_at_call 23; refine (HSg.out _).mono ?_; rintro e w4 ⟨t, rfl, ht, O4⟩
                       have HK4 : Hid (Bit wr h 4 ⟨#[]⟩ 0 a w4) := ⟨HK1.out.old.trans O4, HK1.out.new, HK1.out.is.touch O4 (fun q => q)⟩
                       clear O4))
                  clear b0 f0
                  have b1 : w4.cell? ⟨h, 1, none⟩ = some (.string ⟨#[]⟩) := HK4.out.is.cell 1
                  have f1 := HK4.out.is.frozen 1
                  have e1 : (a : Int) ≤ (a : Int) + S := by omega
                  have e2 : (a : Int) + S ≤ (m : Int) := by omega
                  have HK9 := Lib.hid (HK4.out.text (s.extract a (a + S)))
                  go_upto_region 33 with fail
                  generalize World.setCell w4 ⟨h, 1, none⟩ (.string (s.extract a (a + S))) = w9 at *
                  clear b1 f1
                  obtain ⟨g1, g2, v', w', hap, l', HBn⟩ := HTok.out 3 S 4 S 0 w9 rfl rfl hf rfl HK9.out.old
                  have HBn := Lib.hid HBn
                  have b0 : w9.cell? ⟨h, 0, none⟩ = some (.int .i64 4) := HK9.out.is.cell 0
                  have b1 : w9.cell? ⟨h, 1, none⟩ = some (.string (s.extract a (a + S))) := HK9.out.is.cell 1
                  have b2 : w9.cell? ⟨h, 2, none⟩ = some (.int .i64 0) := HK9.out.is.cell 2
                  have b3 : w9.cell? ⟨h, 3, none⟩ = some (.int .i64 (a : Int)) := HK9.out.is.cell 3
                  clear HTok HBad HFb HXb
                  go_wp2_with (first | (at_builtin; refine wpList_append_run rfl _ _ 23 23 rfl _ _ rfl rfl _ _ (hap _) ?_))
                  exact ⟨⟨a + S, l', congrArg (Value.int .i64) (by omega), by omega, HBn⟩, by simp only [intOf]; omega⟩
      · obtain rfl : m = a := by omega
        have hl := HB.out.le
        obtain ⟨v', w', hap0, HX0⟩ := HB.out.done HQ.out (by omega) (by omega)
        have hap : ∀ ty, (Builtin.append_ #[23, 23] ty #[u5, .slice (some ⟨wr.heap.size, 0, none⟩) 1 1]).run Tryd.prog (wr.alloc (.cells #[.int .i64 5, .string ⟨#[]⟩, .int .i64 0, .int .i64 (m : Int)] 29)) = .ok v' w' := by rw [← hm]; exact hap0
        have HX := Lib.hid HX0
        clear hap0 HX0 hl
        go_wp2_with (first | (at_builtin; refine wpList_append_run rfl _ _ 23 23 rfl _ _ rfl rfl _ _ (hap _) ?_))
        go_ret3
        exact HX.out
end Go.Proofs.YtdfodmnjgpgojaaDoor
