/- The contracts of seal.Close and seal.Open. -/
import Derived.Test.YtgbgknjfbjmhgaaOwn
import Derived.Laws.CopyOwn
namespace Go.Proofs.Ytgbgknjfbjmhgaa
open Go.RowKit

theorem Touch.setRow {S : Nat → Prop} {a w : World} (h : Touch S a w) {g : Nat} (hp : S g ∨ a.heap.size ≤ g) (cs : Array Value) : Touch S a (w.setRow g cs) :=
  ⟨h.os, h.tape, h.output, Nat.le_trans h.size (by simp [World.setRow]), fun k hk hn => (setRow_other w g k cs (fun e => by subst e; rcases hp with hp | hp; exact hn hp; omega)).trans (h.block k hk hn)⟩

theorem Touch.own {w w1 w2 : World} {g : Nat} (h : Old w w1) (t : Touch (fun k => k = g) w1 w2) (hg : w.heap.size ≤ g) : Old w w2 :=
  ⟨t.os.trans h.os, t.tape.trans h.tape, t.output.trans h.output, Nat.le_trans h.size t.size, fun k hk hn => (t.block k (Nat.lt_of_lt_of_le hk h.size) (by omega)).trans (h.block k hk hn)⟩

theorem size5 : (Try.prog.info? 5).map (·.size) = some 1 := by kernel_rfl

/-- 'copy' onto a row of one's own. -/
theorem copy_bytes (w : World) (g : Nat) (xs ys : List Nat) (a : Option Addr) (dLen dCap sLen sCap : Nat) (hO : Own w g xs) (hH : Has w a ys) (hd : xs.length = dLen) (hs : ys.length = sLen) :
    ∃ w', (∀ ty, (Builtin.copy_ #[25, 25] ty #[.slice (some ⟨g, 0, none⟩) dLen dCap, .slice a sLen sCap]).run Try.prog w = .ok (goInt (min sLen dLen : Nat)) w') ∧ Own w' g (ys.take dLen ++ xs.drop sLen) ∧ Touch (fun k => k = g) w w' := by
  by_cases h0 : min sLen dLen = 0
  · refine ⟨w, fun ty => ?_, ?_, Touch.refl _ _⟩
    · have := run_copy_none (P := Try.prog) w 25 25 ty 5 (some ⟨g, 0, none⟩) a dLen dCap sLen sCap Try.underlying25 size5 h0
      rw [this, h0]; rfl
    · rcases Nat.eq_zero_or_pos dLen with h1 | h1
      · have : xs = [] := List.eq_nil_of_length_eq_zero (by omega)
        subst this; subst h1; simpa using hO
      · have : ys = [] := List.eq_nil_of_length_eq_zero (by omega)
        subst this; simp at hs; subst hs; simpa using hO
  · obtain ⟨b, off, rfl, _⟩ := hH.cell 0 (by omega)
    obtain ⟨rest, hg⟩ := hO.row
    have hlen : (cells (ys.take dLen)).length = Nat.min sLen dLen := by rw [cells_length, List.length_take, hs, Nat.min_comm]
    have hrun := fun ty => run_copy_row (P := Try.prog) w 25 25 ty 5 g 0 dLen dCap ⟨b, off, none⟩ sLen sCap _ 5 (cells (ys.take dLen)) Try.underlying25 size5 hg hlen
      (fun j v hj => by
        have hj' : j < (ys.take dLen).length := by
          rcases Nat.lt_or_ge j (cells (ys.take dLen)).length with h | h
          · rwa [cells_length] at h
          · rw [List.getElem?_eq_none h] at hj; cases hj
        rw [cells_get _ _ hj'] at hj
        cases hj
        obtain ⟨b', off', e, hc⟩ := (hH.take dLen).cell j hj'
        cases e
        rw [show (⟨b, off, none⟩ : Addr).add j = ⟨b, off + j, none⟩ by unfold Addr.add; split <;> simp_all]
        exact hc)
      (by rw [hlen]; simp only [List.size_toArray, List.length_append, cells_length]; have : Nat.min sLen dLen ≤ dLen := Nat.min_le_right _ _; omega) (cells_one _)
    refine ⟨_, fun ty => by rw [hrun ty, hlen], ⟨fun x hx => ?_, rest, ?_⟩, (Touch.refl (fun k => k = g) w).setRow (.inl rfl) _⟩
    · rcases List.mem_append.1 hx with h | h
      · exact hH.byte x (List.mem_of_mem_take h)
      · exact hO.byte x (List.mem_of_mem_drop h)
    · rw [setRow_heap w g _ _ 5 (0, 0) hg]
      congr 2
      have hm : Nat.min sLen dLen = min sLen dLen := rfl
      rw [hm, cells_append]
      congr 1
      simp only [List.take_zero, List.nil_append, Nat.zero_add, List.append_assoc]
      congr 1
      rw [List.drop_append_of_le_length (by rw [cells_length]; omega)]
      congr 1
      rcases Nat.le_total sLen dLen with h | h
      · rw [Nat.min_eq_left h]; simp [cells]
      · rw [Nat.min_eq_right h, List.drop_eq_nil_of_le (by rw [cells_length]; omega), List.drop_eq_nil_of_le (by omega)]; rfl

/-- Six bytes, the highest first. -/
def digits (n : Nat) : List Nat := [n / 256 ^ 5 % 256, n / 256 ^ 4 % 256, n / 256 ^ 3 % 256, n / 256 ^ 2 % 256, n / 256 ^ 1 % 256, n / 256 ^ 0 % 256]
theorem digits_byte (n : Nat) : ∀ x ∈ digits n, x < 256 := fun x hx => by
  simp only [digits, List.mem_cons, List.not_mem_nil, or_false] at hx
  rcases hx with h | h | h | h | h | h <;> rw [h] <;> exact Nat.mod_lt _ (by decide)

theorem laid_mid (P Z R : List Nat) (off n : Nat) (hP : P.length = off) (hZ : Z.length = 6) : ∀ t, t ≤ 6 → laid (P ++ (Z ++ R)) off n t = P ++ (laid Z 0 n t ++ R)
  | 0, _ => rfl
  | t + 1, h => by
    have hl : 5 - t < (laid Z 0 n t).length := by rw [laid_length]; omega
    simp only [laid]
    rw [laid_mid P Z R off n hP hZ t (by omega), List.set_append_right _ _ (by omega), show off + (5 - t) - P.length = 5 - t by omega, List.set_append_left _ _ hl, Nat.zero_add]
theorem laid_six (P Z R : List Nat) (off n : Nat) (hP : P.length = off) (hZ : Z.length = 6) : laid (P ++ (Z ++ R)) off n 6 = P ++ (digits n ++ R) := by
  rw [laid_mid P Z R off n hP hZ 6 (by omega)]
  match Z, hZ with
  | [_, _, _, _, _, _], _ => rfl

/-- What lies on a track's first 84 bytes. -/
def body (xs : List Nat) : List Nat := xs ++ zeros (84 - xs.length)
theorem body_length {xs : List Nat} (h : xs.length ≤ 84) : (body xs).length = 84 := by simp [body, zeros_length]; omega
/-- The track of bytes. -/
def track (xs : List Nat) : List Nat := body xs ++ (digits (sum1 (body xs)) ++ digits (sum2 (body xs)))
theorem track_length {xs : List Nat} (h : xs.length ≤ 84) : (track xs).length = 96 := by simp [track, body_length h, digits]

theorem close_long (a : Option Addr) (len cap : Nat) (w : World) (h : 84 < len) :
    Calls Try.prog 10 #[.slice a len cap] w fun e w' => e = .returned (.tuple #[.slice none 0 0, .bool false]) ∧ w = w' := by
  go_enter Try.func10, Try.ntmps10
  go_wp2
  go_ret2
  exact ⟨rfl, rfl⟩

theorem close_any (a : Option Addr) (xs : List Nat) (len cap : Nat) (w : World) (h : Has w a xs) (hlen : xs.length = len) (hl : len ≤ 84) :
    Calls Try.prog 10 #[.slice a len cap] w fun e w' => e = .returned (.tuple #[.slice (some ⟨w.heap.size, 0, none⟩) 96 96, .bool true]) ∧ Own w' w.heap.size (track xs) ∧ Old w w' := by
  have hmk : (Instr.makeSlice 25 (.int .i64 96) (.int .i64 96)).run Try.prog w = .ok (.slice (some ⟨w.heap.size, 0, none⟩) 96 96) (w.alloc (.cells (cells (zeros 96)).toArray 5)) := make_bytes 96 (by decide) w
  have T1 : Old w (w.alloc (.cells (cells (zeros 96)).toArray 5)) := (Touch.refl _ w).alloc _
  obtain ⟨w2, hcp, O2, T2⟩ := copy_bytes _ _ _ _ a 96 96 len cap (Own.new w (zeros 96) (zeros_byte 96)) (h.old T1) (zeros_length 96) hlen
  have HT2 : Hid (Old w w2) := T1.own T2 (Nat.le_refl _)
  have HO2 : Hid (Own w2 w.heap.size (body xs ++ (zeros 6 ++ zeros 6))) := by
    have e : xs.take 96 ++ (zeros 96).drop len = body xs ++ (zeros 6 ++ zeros 6) := by
      rw [List.take_of_length_le (by omega)]
      unfold body zeros
      rw [List.append_assoc, List.drop_replicate, List.replicate_append_replicate, List.replicate_append_replicate, hlen]
      congr 2
      omega
    rw [← e]; exact O2
  have hB : (body xs).length = 84 := body_length (by omega)
  have HB1 := Lib.hid (sum1_lt (body xs))
  have HB2 := Lib.hid (sum2_lt (body xs))
  unfold track
  clear O2 T2 T1 h hlen
  generalize body xs = B at *
  generalize hS1 : sum1 B = S1 at *
  generalize hS2 : sum2 B = S2 at *
  have HS1 := Lib.hid hS1
  have HS2 := Lib.hid hS2
  have HB := Lib.hid hB
  clear hS1 hS2 hB
  generalize cells (zeros 96) = Z at *
  go_enter Try.func10, Try.ntmps10
  go_wp2_with fail
  clear hmk hcp
  refine (sums_any _ B 84 96 w2 (by have := HO2.out.has.take 84; rwa [List.take_append_of_le_length (by rw [HB.out]; exact Nat.le_refl _), List.take_of_length_le (by rw [HB.out]; exact Nat.le_refl _)] at this) HB.out (by omega) (by omega)).mono ?_
  rintro e w' ⟨rfl, rfl⟩
  rw [HS1.out, HS2.out]
  clear HS1 HS2
  go_wp2_with fail
  refine (lay_any w.heap.size 84 _ S1 _ w2 HO2.out (by simp [HB.out, zeros]) HB1.out).mono ?_
  rintro e w3 ⟨rfl, O3, T3⟩
  rw [laid_six B (zeros 6) (zeros 6) 84 S1 HB.out (zeros_length 6)] at O3
  have HO3 := Lib.hid O3
  have HT3 := Lib.hid T3
  clear O3 T3 HO2
  go_wp2_with fail
  refine (lay_any w.heap.size 90 _ S2 _ w3 HO3.out (by simp [HB.out, zeros, digits]) HB2.out).mono ?_
  rintro e w4 ⟨rfl, O4, T4⟩
  have e4 := laid_six (B ++ digits S1) (zeros 6) [] 90 S2 (by simp [HB.out, digits]) (zeros_length 6)
  simp only [List.append_nil, List.append_assoc] at e4
  rw [e4] at O4
  have HO4 := Lib.hid O4
  have HT4 := Lib.hid T4
  clear O4 T4 HO3 e4
  go_wp2_with fail
  go_ret2
  exact ⟨rfl, HO4.out, (HT2.out.own HT3.out (Nat.le_refl _)).own HT4.out (Nat.le_refl _)⟩

/-- Six bytes from a place on, as a number. -/
def six (xs : List Nat) (k : Nat) : Nat := num ((xs.drop k).take 6) 6
/-- Of a track: its sums are right. -/
def right (xs : List Nat) : Prop := six xs 84 = sum1 (xs.take 84) ∧ six xs 90 = sum2 (xs.take 84)

theorem open_other (a : Option Addr) (len cap : Nat) (w : World) (h : len ≠ 96) :
    Calls Try.prog 11 #[.slice a len cap] w fun e w' => e = .returned (.tuple #[.slice none 0 0, .bool false]) ∧ w = w' := by
  have hn : ¬ (len : Int) = 96 := by omega
  go_enter Try.func11, Try.ntmps11
  go_wp2
  go_ret2
  exact ⟨rfl, rfl⟩

theorem open_wrong (a : Option Addr) (xs : List Nat) (cap : Nat) (w : World) (h : Has w a xs) (hlen : xs.length = 96) (hc : 96 ≤ cap) (hr : ¬ right xs) :
    Calls Try.prog 11 #[.slice a 96 cap] w fun e w' => e = .returned (.tuple #[.slice none 0 0, .bool false]) ∧ w = w' := by
  obtain ⟨b, off, rfl, _⟩ := h.cell 0 (by omega)
  have HP1 := Lib.hid (h.part 84 6)
  have HP2 := Lib.hid (h.part 90 6)
  have HP3 := Lib.hid (h.take 84)
  have HL := Lib.hid hlen
  have hn1 := num_small HP1.out.byte (k := 6) (by omega)
  have hn2 := num_small HP2.out.byte (k := 6) (by omega)
  have hs1 := sum1_lt (xs.take 84)
  have hs2 := sum2_lt (xs.take 84)
  clear h
  unfold right six at hr
  generalize hS1 : sum1 (xs.take 84) = S1 at *
  generalize hS2 : sum2 (xs.take 84) = S2 at *
  generalize hN1 : num ((xs.drop 84).take 6) 6 = N1 at *
  generalize hN2 : num ((xs.drop 90).take 6) 6 = N2 at *
  have HS1 := Lib.hid hS1
  have HS2 := Lib.hid hS2
  have HN1 := Lib.hid hN1
  have HN2 := Lib.hid hN2
  clear hS1 hS2 hN1 hN2 hlen
  go_enter Try.func11, Try.ntmps11
  go_wp2_with fail
  refine (sums_any _ (xs.take 84) 84 cap w HP3.out (by rw [List.length_take, HL.out]; rfl) (by omega) (by omega)).mono ?_
  rintro e w' ⟨rfl, rfl⟩
  rw [HS1.out, HS2.out]
  clear HS1 HS2
  by_cases hq : N1 = S1
  · subst hq
    have hq2 : ¬ (N2 : Int) = (S2 : Int) := fun e => hr ⟨rfl, by omega⟩
    clear hr
    go_wp2_with fail
    refine (number_any _ _ 6 _ w HP1.out (by rw [List.length_take, List.length_drop, HL.out]; rfl) (by omega)).mono ?_
    rintro e w' ⟨rfl, rfl⟩
    rw [HN1.out]
    clear HN1
    go_wp2_with fail
    refine (number_any _ _ 6 _ w HP2.out (by rw [List.length_take, List.length_drop, HL.out]; rfl) (by omega)).mono ?_
    rintro e w' ⟨rfl, rfl⟩
    rw [HN2.out]
    clear HN2
    go_wp2_with fail
    go_ret2
    exact ⟨rfl, rfl⟩
  · have hq1 : ¬ (N1 : Int) = (S1 : Int) := by omega
    clear hr hq
    go_wp2_with fail
    refine (number_any _ _ 6 _ w HP1.out (by rw [List.length_take, List.length_drop, HL.out]; rfl) (by omega)).mono ?_
    rintro e w' ⟨rfl, rfl⟩
    rw [HN1.out]
    clear HN1
    go_wp2_with fail
    go_ret2
    exact ⟨rfl, rfl⟩

theorem open_right (a : Option Addr) (xs : List Nat) (cap : Nat) (w : World) (h : Has w a xs) (hlen : xs.length = 96) (hc : 96 ≤ cap) (hr : right xs) :
    Calls Try.prog 11 #[.slice a 96 cap] w fun e w' => e = .returned (.tuple #[.slice (some ⟨w.heap.size, 0, none⟩) 84 84, .bool true]) ∧ Own w' w.heap.size (xs.take 84) ∧ Old w w' := by
  have hmk : (Instr.makeSlice 25 (.int .i64 84) (.int .i64 84)).run Try.prog w = .ok (.slice (some ⟨w.heap.size, 0, none⟩) 84 84) (w.alloc (.cells (cells (zeros 84)).toArray 5)) := make_bytes 84 (by decide) w
  have T1 : Old w (w.alloc (.cells (cells (zeros 84)).toArray 5)) := (Touch.refl _ w).alloc _
  obtain ⟨w2, hcp, O2, T2⟩ := copy_bytes _ _ _ _ a 84 84 96 cap (Own.new w (zeros 84) (zeros_byte 84)) (h.old T1) (zeros_length 84) hlen
  have HT2 : Hid (Old w w2) := T1.own T2 (Nat.le_refl _)
  have HO2 : Hid (Own w2 w.heap.size (xs.take 84)) := by
    have e : (zeros 84).drop 96 = [] := List.drop_eq_nil_of_le (by rw [zeros_length]; omega)
    rw [e, List.append_nil] at O2
    exact O2
  have HR := Lib.hid hlen
  clear O2 T2 T1 HR
  generalize cells (zeros 84) = Z at *
  obtain ⟨b, off, rfl, _⟩ := h.cell 0 (by omega)
  have HP1 := Lib.hid (h.part 84 6)
  have HP2 := Lib.hid (h.part 90 6)
  have HP3 := Lib.hid (h.take 84)
  have HL := Lib.hid hlen
  have hn1 := num_small HP1.out.byte (k := 6) (by omega)
  have hn2 := num_small HP2.out.byte (k := 6) (by omega)
  have hs1 := sum1_lt (xs.take 84)
  have hs2 := sum2_lt (xs.take 84)
  clear h
  obtain ⟨hr1, hr2⟩ := hr
  unfold six at hr1 hr2
  generalize hS1 : sum1 (xs.take 84) = S1 at *
  generalize hS2 : sum2 (xs.take 84) = S2 at *
  generalize hN1 : num ((xs.drop 84).take 6) 6 = N1 at *
  generalize hN2 : num ((xs.drop 90).take 6) 6 = N2 at *
  have HS1 := Lib.hid hS1
  have HS2 := Lib.hid hS2
  have HN1 := Lib.hid hN1
  have HN2 := Lib.hid hN2
  clear hS1 hS2 hN1 hN2 hlen
  subst hr1
  subst hr2
  go_enter Try.func11, Try.ntmps11
  go_wp2_with fail
  refine (sums_any _ (xs.take 84) 84 cap w HP3.out (by rw [List.length_take, HL.out]; rfl) (by omega) (by omega)).mono ?_
  rintro e w' ⟨rfl, rfl⟩
  rw [HS1.out, HS2.out]
  clear HS1 HS2
  go_wp2_with fail
  refine (number_any _ _ 6 _ w HP1.out (by rw [List.length_take, List.length_drop, HL.out]; rfl) (by omega)).mono ?_
  rintro e w' ⟨rfl, rfl⟩
  rw [HN1.out]
  clear HN1
  go_wp2_with fail
  refine (number_any _ _ 6 _ w HP2.out (by rw [List.length_take, List.length_drop, HL.out]; rfl) (by omega)).mono ?_
  rintro e w' ⟨rfl, rfl⟩
  rw [HN2.out]
  clear HN2
  go_wp2_with fail
  go_ret2
  exact ⟨rfl, HO2.out, HT2.out⟩
end Go.Proofs.Ytgbgknjfbjmhgaa
