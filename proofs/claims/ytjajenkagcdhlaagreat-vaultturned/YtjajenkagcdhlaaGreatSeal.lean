/- Chapter 3 again: numbers of bytes, sums over words, seal.Close. -/
import Derived.Test.YtjajenkagcdhlaaGreatAll
import Derived.Laws.BitsAllLaws
import Derived.Laws.CopyOwn
namespace Go.Proofs.YtjajenkagcdhlaaGreat
open Go.RowKit
set_option maxRecDepth 100000

/-- The number that the first k bytes are, the highest first. -/
def num (xs : List Nat) : Nat → Nat
  | 0 => 0
  | k + 1 => num xs k * 256 + at0 xs k

theorem num_lt {xs : List Nat} (h : ∀ x ∈ xs, x < 256) : ∀ k, num xs k < 256 ^ k
  | 0 => Nat.zero_lt_one
  | k + 1 => by
    have h1 := num_lt h k
    have h2 := at0_lt h k
    show num xs k * 256 + at0 xs k < 256 ^ (k + 1)
    rw [Nat.pow_succ]
    omega
theorem num_small {xs : List Nat} (h : ∀ x ∈ xs, x < 256) {k : Nat} (hk : k ≤ 6) : num xs k < 281474976710656 :=
  Nat.lt_of_lt_of_le (num_lt h k) (Nat.le_trans (Nat.pow_le_pow_right (by decide) hk) (by decide))

/-- A word: bytes that are not there are 0s. -/
def word (xs : List Nat) (j : Nat) : Nat := at0 xs (4 * j) * 16777216 + at0 xs (4 * j + 1) * 65536 + at0 xs (4 * j + 2) * 256 + at0 xs (4 * j + 3)
theorem word_lt {xs : List Nat} (h : ∀ x ∈ xs, x < 256) (j : Nat) : word xs j < 4294967296 := by
  have h0 := at0_lt h (4 * j)
  have h1 := at0_lt h (4 * j + 1)
  have h2 := at0_lt h (4 * j + 2)
  have h3 := at0_lt h (4 * j + 3)
  unfold word
  omega
/-- The sum of the first k words, and the sum of each times its place. -/
def sumA (xs : List Nat) : Nat → Nat
  | 0 => 0
  | k + 1 => sumA xs k + word xs k
def sumB (xs : List Nat) : Nat → Nat
  | 0 => 0
  | k + 1 => sumB xs k + (k + 1) * word xs k
/-- How many words. -/
def wordsOf (n : Nat) : Nat := (n + 3) / 4
def sum1 (xs : List Nat) : Nat := sumA xs (wordsOf xs.length) % 281474976710656
def sum2 (xs : List Nat) : Nat := sumB xs (wordsOf xs.length) % 281474976710656
theorem sum1_lt (xs : List Nat) : sum1 xs < 281474976710656 := Nat.mod_lt _ (by decide)
theorem sum2_lt (xs : List Nat) : sum2 xs < 281474976710656 := Nat.mod_lt _ (by decide)
theorem or_join (n c : Nat) (hn : n < 72057594037927936) (hc : c < 256) : bits .or .u64 ((n : Int) * 256) (c : Int) = ((n * 256 + c : Nat) : Int) := by
  have := bits_join .u64 64 (by decide) (fun x h0 h1 => by rw [IntKind.wrap_u64]; omega) 8 ((n : Int) * 256) (c : Int) (by omega) (by omega) (by omega) (by omega) (by omega) (by omega)
  rw [this]
  omega

theorem sealNumber_any (a : Option Addr) (xs : List Nat) (len cap : Nat) (w : World) (h : Has w a xs) (hlen : xs.length = len) (hl : len ≤ 6) :
    Calls Tryz.prog 118 #[.slice a len cap] w fun e w' => e = .returned (.int .u64 (num xs len : Nat)) ∧ w = w' := by
  go_enter Tryz.func118, Tryz.ntmps118
  go_wp2
  go_loop [3, 8] (fun n i => ∃ k : Nat, k ≤ len ∧ i = .int .i64 k ∧ n = .int .u64 (num xs k : Nat)) (fun _ i => len - (intOf i).toNat)
  case atStart => exact ⟨0, by omega, rfl, rfl⟩
  case round =>
    obtain ⟨k, hk, rfl, rfl⟩ := hrel
    by_cases hlt : k < len
    · obtain ⟨b, off, rfl, hc⟩ := h.cell k (by omega)
      have h1 := num_small h.byte (k := k) (by omega)
      have h2 := at0_lt h.byte k
      have h3 := or_join (num xs k) (at0 xs k) (by omega) h2
      have h4 : num xs (k + 1) = num xs k * 256 + at0 xs k := rfl
      generalize num xs k = n at *
      generalize at0 xs k = c at *
      have hil : (k : Int) < (len : Int) := by omega
      have hil' : (0 : Int) ≤ (k : Int) := by omega
      go_wp2
      go_round
      case rel => exact ⟨k + 1, by omega, by go_num, by rw [h4]; simp⟩
      case measure => simp [intOf]; omega
    · obtain rfl : k = len := by omega
      go_wp2
      go_ret
      exact ⟨rfl, rfl⟩

/-- The number of a word, of which len bytes are there. -/
def shifted (xs : List Nat) (len : Nat) : Nat := num xs len * 256 ^ (4 - len)

theorem word_any (a : Option Addr) (xs : List Nat) (len cap : Nat) (w : World) (h : Has w a xs) (hlen : xs.length = len) (hl : len ≤ 4) :
    Calls Tryz.prog 117 #[.slice a len cap] w fun e w' => e = .returned (.int .u64 (shifted xs len : Nat)) ∧ w = w' := by
  have hb := num_lt h.byte len
  have hc : len = 0 ∨ len = 1 ∨ len = 2 ∨ len = 3 ∨ len = 4 := by omega
  have HH := sealNumber_any a xs len cap w h hlen (by omega)
  unfold shifted
  clear h hlen
  generalize num xs len = n at *
  have HN := Lib.hid HH
  clear HH
  rcases hc with rfl | rfl | rfl | rfl | rfl
  all_goals
    simp at hb
    go_enter Tryz.func117, Tryz.ntmps117
    go_wp2_with fail
    refine HN.out.mono ?_
    rintro e w' ⟨rfl, rfl⟩
    clear HN
    go_wp2
    go_ret
    exact ⟨by simp [*], rfl⟩

/-- What is there of word j. -/
def chunk (xs : List Nat) (j : Nat) : List Nat := (xs.drop (4 * j)).take 4

theorem at0_chunk (xs : List Nat) (j i : Nat) (h : i < 4) : at0 (chunk xs j) i = at0 xs (4 * j + i) := by unfold chunk; rw [at0_take h, at0_drop]
theorem at0_beyond {xs : List Nat} {k : Nat} (h : xs.length ≤ k) : at0 xs k = 0 := by simp [at0, List.getD_eq_getElem?_getD, List.getElem?_eq_none h]

theorem shifted_chunk (xs : List Nat) (j n : Nat) (h : 4 * j < xs.length) (hn : n = min 4 (xs.length - 4 * j)) : shifted (chunk xs j) n = word xs j := by
  have e0 := at0_chunk xs j 0 (by omega)
  have e1 := at0_chunk xs j 1 (by omega)
  have e2 := at0_chunk xs j 2 (by omega)
  have e3 := at0_chunk xs j 3 (by omega)
  have hc : n = 1 ∨ n = 2 ∨ n = 3 ∨ n = 4 := by omega
  unfold shifted word
  rcases hc with rfl | rfl | rfl | rfl
  · have z1 := at0_beyond (xs := xs) (k := 4 * j + 1) (by omega)
    have z2 := at0_beyond (xs := xs) (k := 4 * j + 2) (by omega)
    have z3 := at0_beyond (xs := xs) (k := 4 * j + 3) (by omega)
    simp only [num, e0, z1, z2, z3]; simp
  · have z2 := at0_beyond (xs := xs) (k := 4 * j + 2) (by omega)
    have z3 := at0_beyond (xs := xs) (k := 4 * j + 3) (by omega)
    simp only [num, e0, e1, z2, z3]; simp; omega
  · have z3 := at0_beyond (xs := xs) (k := 4 * j + 3) (by omega)
    simp only [num, e0, e1, e2, z3]; simp; omega
  · simp only [num, e0, e1, e2, e3]; simp; omega

theorem chunk_length (xs : List Nat) (j : Nat) : (chunk xs j).length = min 4 (xs.length - 4 * j) := by simp [chunk]

theorem mask48 (n : Nat) (h : n < 18446744073709551616) : bits .and .u64 (n : Int) 281474976710655 = ((n % 281474976710656 : Nat) : Int) := by
  have := bits_mask .u64 64 (by decide) (fun x h0 h1 => by rw [IntKind.wrap_u64]; omega) 48 (by decide) (n : Int) (by omega) (by omega)
  have e : (2 : Int) ^ 48 - 1 = 281474976710655 := by decide
  rw [e] at this
  rw [this]
  omega

theorem sums_any (a : Option Addr) (xs : List Nat) (len cap : Nat) (w : World) (h : Has w a xs) (hlen : xs.length = len) (hcap : len ≤ cap) (hmax : len ≤ 140737488355328) :
    Calls Tryz.prog 115 #[.slice a len cap] w fun e w' => e = .returned (.tuple #[.int .i64 (sum1 xs : Nat), .int .i64 (sum2 xs : Nat)]) ∧ w = w' := by
  have HH := Lib.hid h
  clear h
  generalize hS1 : sum1 xs = S1
  generalize hS2 : sum2 xs = S2
  have HS1 := Lib.hid hS1
  have HS2 := Lib.hid hS2
  clear hS1 hS2
  go_enter Tryz.func115, Tryz.ntmps115
  go_wp2_with fail
  go_loop [4, 5, 6, 7] (fun p q j i => ∃ k : Nat, k ≤ wordsOf len ∧ i = .int .i64 ((4 * k : Nat) : Int) ∧ j = .int .u64 k ∧ p = .int .u64 ((sumA xs k % 18446744073709551616 : Nat) : Int) ∧ q = .int .u64 ((sumB xs k % 18446744073709551616 : Nat) : Int)) (fun _ _ _ i => len + 4 - (intOf i).toNat)
  case atStart => exact ⟨0, by omega, rfl, rfl, rfl, rfl⟩
  case round =>
    obtain ⟨k, hk, rfl, rfl, rfl, rfl⟩ := hrel
    unfold wordsOf at hk
    by_cases hlt : 4 * k < len
    · obtain ⟨b, off, rfl, hc⟩ := HH.out.cell (4 * k) (by omega)
      clear hc
      have HP : Hid (Has w (some ⟨b, off + 4 * k, none⟩) (chunk xs k)) := HH.out.part (4 * k) 4
      have hW := word_lt HH.out.byte k
      have HW := Lib.hid (shifted_chunk xs k _ (by omega) rfl)
      have HC := Lib.hid (chunk_length xs k)
      have HA : Hid (sumA xs (k + 1) = sumA xs k + word xs k) := rfl
      have HB : Hid (sumB xs (k + 1) = sumB xs k + (k + 1) * word xs k) := rfl
      generalize sumA xs k = A at *
      generalize sumB xs k = B at *
      generalize word xs k = W at *
      go_wp2_with fail
      have hn : (min (4 * (k : Int) + 4) (len : Int)).toNat - 4 * k = min 4 (xs.length - 4 * k) := by omega
      rw [hn]
      refine (word_any _ (chunk xs k) _ _ w HP.out (by rw [HC.out]) (by omega)).mono ?_
      rintro e w' ⟨rfl, rfl⟩
      rw [HW.out]
      clear HW HC HP hn HH
      go_wp2_with fail
      go_round
      case rel =>
        refine ⟨k + 1, by unfold wordsOf; omega, by go_num, by go_num, ?_, ?_⟩
        · rw [HA.out, IntKind.wrap_u64]
          congr 1
          omega
        · have hm : ((k : Int) + 1) * (W : Int) = (((k + 1) * W : Nat) : Int) := by simp
          rw [HB.out, hm]
          generalize (k + 1) * W = M
          rw [IntKind.wrap_u64, IntKind.wrap_u64]
          congr 1
          omega
      case measure => simp [intOf]; omega
    · have hk4 : k = wordsOf xs.length := by unfold wordsOf; omega
      have h1 := mask48 (sumA xs k % 18446744073709551616) (Nat.mod_lt _ (by decide))
      have h2 := mask48 (sumB xs k % 18446744073709551616) (Nat.mod_lt _ (by decide))
      have e1 : sum1 xs = sumA xs k % 281474976710656 := by unfold sum1; rw [← hk4]
      have e2 : sum2 xs = sumB xs k % 281474976710656 := by unfold sum2; rw [← hk4]
      clear hk4 HH
      generalize sumA xs k = A at *
      generalize sumB xs k = B at *
      rw [HS1.out] at e1
      rw [HS2.out] at e2
      have f1 : A % 18446744073709551616 % 281474976710656 = S1 := by omega
      have f2 : B % 18446744073709551616 % 281474976710656 = S2 := by omega
      rw [f1] at h1
      rw [f2] at h2
      have g1 : S1 < 281474976710656 := by omega
      have g2 : S2 < 281474976710656 := by omega
      clear e1 e2 f1 f2
      generalize A % 18446744073709551616 = A' at *
      generalize B % 18446744073709551616 = B' at *
      have hn : ¬ ((4 * k : Nat) : Int) < (len : Int) := by omega
      go_wp2_with fail
      go_ret2
      exact ⟨rfl, rfl⟩
/-- After t steps of layNumber: the last t of six places have their bytes. -/
def laid (xs : List Nat) (off n : Nat) : Nat → List Nat
  | 0 => xs
  | t + 1 => (laid xs off n t).set (off + (5 - t)) (n / 256 ^ t % 256)
theorem laid_length (xs : List Nat) (off n : Nat) : ∀ t, (laid xs off n t).length = xs.length
  | 0 => rfl
  | t + 1 => by rw [laid, List.length_set, laid_length xs off n t]

set_option maxRecDepth 100000 in
theorem layNumber_any (g off cap n : Nat) (xs : List Nat) (w : World) (h : Own w g xs) (hl : off + 6 ≤ xs.length) (_hn : n < 281474976710656) :
    Calls Tryz.prog 116 #[.slice (some ⟨g, off, none⟩) 6 cap, .int .i64 n] w fun e w' => e = .returned (.tuple #[]) ∧ Own w' g (laid xs off n 6) ∧ Touch (fun k => k = g) w w' := by
  have HH := Lib.hid h
  clear h
  go_enter Tryz.func116, Tryz.ntmps116
  go_wp2_with fail
  go_loopw [1, 4] (fun m i wx => ∃ t : Nat, t ≤ 6 ∧ i = .int .i64 (5 - (t : Int)) ∧ m = .int .i64 ((n / 256 ^ t : Nat) : Int) ∧ Hid (Own wx g (laid xs off n t)) ∧ Hid (Touch (fun k => k = g) w wx)) (fun _ i _ => (intOf i + 1).toNat)
  case atStart => exact ⟨0, by omega, rfl, by simp, HH, Touch.refl _ _⟩
  case round =>
    obtain ⟨t, ht, rfl, rfl, HO, HT⟩ := hrel
    clear HH
    have hle : n / 256 ^ t ≤ n := Nat.div_le_self _ _
    have hnext : n / 256 ^ t / 256 = n / 256 ^ (t + 1) := by rw [Nat.div_div_eq_div_mul, Nat.pow_succ]
    by_cases hlt : t < 6
    · have hidx : (5 - (t : Int)).toNat = 5 - t := by omega
      have h5 : ((5 - t : Nat) : Int) = 5 - (t : Int) := by omega
      have hc := HO.out.cell (off + (5 - t)) (by rw [laid_length]; omega)
      have hf := HO.out.frozen (off + (5 - t))
      have HO' := Lib.hid (HO.out.set (off + (5 - t)) (n / 256 ^ t % 256) (by rw [laid_length]; omega) (Nat.mod_lt _ (by decide)))
      have HL : Hid (laid xs off n (t + 1) = (laid xs off n t).set (off + (5 - t)) (n / 256 ^ t % 256)) := rfl
      clear HO
      generalize hq : n / 256 ^ t = q at *
      clear hq
      rw [← h5]
      go_wp2_with fail
      have hm : ((q : Nat) : Int) % 256 = ((q % 256 : Nat) : Int) := by omega
      rw [hm]
      refine ⟨⟨t + 1, by omega, by congr 1; omega, by rw [← hnext]; rfl, ?_, ?_⟩, by simp only [intOf]; omega⟩
      · rw [HL.out]; exact HO'
      · exact HT.out.setCell (.inl rfl) _
    · obtain rfl : t = 6 := by omega
      clear hnext hlt
      go_wp2_with fail
      go_end0
      exact ⟨rfl, HO.out, HT.out⟩
/-- 'copy' onto a row of one's own. -/
theorem copy_bytes (w : World) (g : Nat) (xs ys : List Nat) (a : Option Addr) (dLen dCap sLen sCap : Nat) (hO : Own w g xs) (hH : Has w a ys) (hd : xs.length = dLen) (hs : ys.length = sLen) :
    ∃ w', (∀ ty, (Builtin.copy_ #[30, 30] ty #[.slice (some ⟨g, 0, none⟩) dLen dCap, .slice a sLen sCap]).run Tryz.prog w = .ok (goInt (min sLen dLen : Nat)) w') ∧ Own w' g (ys.take dLen ++ xs.drop sLen) ∧ Touch (fun k => k = g) w w' := by
  by_cases h0 : min sLen dLen = 0
  · refine ⟨w, fun ty => ?_, ?_, Touch.refl _ _⟩
    · have := run_copy_none (P := Tryz.prog) w 30 30 ty 5 (some ⟨g, 0, none⟩) a dLen dCap sLen sCap Tryz.underlying30 size5 h0
      rw [this, h0]; rfl
    · rcases Nat.eq_zero_or_pos dLen with h1 | h1
      · have : xs = [] := List.eq_nil_of_length_eq_zero (by omega)
        subst this; subst h1; simpa using hO
      · have : ys = [] := List.eq_nil_of_length_eq_zero (by omega)
        subst this; simp at hs; subst hs; simpa using hO
  · obtain ⟨b, off, rfl, _⟩ := hH.cell 0 (by omega)
    obtain ⟨rest, hg⟩ := hO.row
    have hlen : (cells (ys.take dLen)).length = Nat.min sLen dLen := by rw [cells_length, List.length_take, hs, Nat.min_comm]
    have hrun := fun ty => run_copy_row (P := Tryz.prog) w 30 30 ty 5 g 0 dLen dCap ⟨b, off, none⟩ sLen sCap _ 5 (cells (ys.take dLen)) Tryz.underlying30 size5 hg hlen
      (fun j v hj => by
        have hj' : j < (ys.take dLen).length := by
          rcases Nat.lt_or_ge j (cells (ys.take dLen)).length with h | h
          · rwa [cells_length] at h
          · rw [List.getElem?_eq_none h] at hj; cases hj
        rw [cells_get _ _ hj'] at hj
        cases hj
        obtain ⟨b', off', e, hc⟩ := (hH.take dLen).cell j hj'
        cases e
        rw [show (⟨b, off, none⟩ : Addr).add j = ⟨b, off + j, none⟩ by unfold Addr.add; split <;> simp_all]
        exact hc)
      (by rw [hlen]; simp only [List.size_toArray, List.length_append, cells_length]; have : Nat.min sLen dLen ≤ dLen := Nat.min_le_right _ _; omega) (cells_one _)
    refine ⟨_, fun ty => by rw [hrun ty, hlen], ⟨fun x hx => ?_, rest, ?_⟩, (Touch.refl (fun k => k = g) w).setRow (.inl rfl) _⟩
    · rcases List.mem_append.1 hx with h | h
      · exact hH.byte x (List.mem_of_mem_take h)
      · exact hO.byte x (List.mem_of_mem_drop h)
    · rw [setRow_heap w g _ _ 5 (0, 0) hg]
      congr 2
      have hm : Nat.min sLen dLen = min sLen dLen := rfl
      rw [hm, cells_append]
      congr 1
      simp only [List.take_zero, List.nil_append, Nat.zero_add, List.append_assoc]
      congr 1
      rw [List.drop_append_of_le_length (by rw [cells_length]; omega)]
      congr 1
      rcases Nat.le_total sLen dLen with h | h
      · rw [Nat.min_eq_left h]; simp [cells]
      · rw [Nat.min_eq_right h, List.drop_eq_nil_of_le (by rw [cells_length]; omega), List.drop_eq_nil_of_le (by omega)]; rfl

/-- Six bytes, the highest first. -/
def digits (n : Nat) : List Nat := [n / 256 ^ 5 % 256, n / 256 ^ 4 % 256, n / 256 ^ 3 % 256, n / 256 ^ 2 % 256, n / 256 ^ 1 % 256, n / 256 ^ 0 % 256]
theorem digits_byte (n : Nat) : ∀ x ∈ digits n, x < 256 := fun x hx => by
  simp only [digits, List.mem_cons, List.not_mem_nil, or_false] at hx
  rcases hx with h | h | h | h | h | h <;> rw [h] <;> exact Nat.mod_lt _ (by decide)

theorem laid_mid (P Z R : List Nat) (off n : Nat) (hP : P.length = off) (hZ : Z.length = 6) : ∀ t, t ≤ 6 → laid (P ++ (Z ++ R)) off n t = P ++ (laid Z 0 n t ++ R)
  | 0, _ => rfl
  | t + 1, h => by
    have hl : 5 - t < (laid Z 0 n t).length := by rw [laid_length]; omega
    simp only [laid]
    rw [laid_mid P Z R off n hP hZ t (by omega), List.set_append_right _ _ (by omega), show off + (5 - t) - P.length = 5 - t by omega, List.set_append_left _ _ hl, Nat.zero_add]
theorem laid_six (P Z R : List Nat) (off n : Nat) (hP : P.length = off) (hZ : Z.length = 6) : laid (P ++ (Z ++ R)) off n 6 = P ++ (digits n ++ R) := by
  rw [laid_mid P Z R off n hP hZ 6 (by omega)]
  match Z, hZ with
  | [_, _, _, _, _, _], _ => rfl

/-- What lies on a track's first 84 bytes. -/
def body (xs : List Nat) : List Nat := xs ++ zeros (84 - xs.length)
theorem body_length {xs : List Nat} (h : xs.length ≤ 84) : (body xs).length = 84 := by simp [body, zeros_length]; omega
/-- The track of bytes. -/
def track (xs : List Nat) : List Nat := body xs ++ (digits (sum1 (body xs)) ++ digits (sum2 (body xs)))
theorem track_length {xs : List Nat} (h : xs.length ≤ 84) : (track xs).length = 96 := by simp [track, body_length h, digits]

theorem close_long (a : Option Addr) (len cap : Nat) (w : World) (h : 84 < len) :
    Calls Tryz.prog 108 #[.slice a len cap] w fun e w' => e = .returned (.tuple #[.slice none 0 0, .bool false]) ∧ w = w' := by
  go_enter Tryz.func108, Tryz.ntmps108
  go_wp2
  go_ret2
  exact ⟨rfl, rfl⟩

theorem close_any (a : Option Addr) (xs : List Nat) (len cap : Nat) (w : World) (h : Has w a xs) (hlen : xs.length = len) (hl : len ≤ 84) :
    Calls Tryz.prog 108 #[.slice a len cap] w fun e w' => e = .returned (.tuple #[.slice (some ⟨w.heap.size, 0, none⟩) 96 96, .bool true]) ∧ Own w' w.heap.size (track xs) ∧ Old w w' := by
  have hmk : (Instr.makeSlice 30 (.int .i64 96) (.int .i64 96)).run Tryz.prog w = .ok (.slice (some ⟨w.heap.size, 0, none⟩) 96 96) (w.alloc (.cells (cells (zeros 96)).toArray 5)) := make_bytes 96 (by decide) w
  have T1 : Old w (w.alloc (.cells (cells (zeros 96)).toArray 5)) := (Touch.refl _ w).alloc _
  obtain ⟨w2, hcp, O2, T2⟩ := copy_bytes _ _ _ _ a 96 96 len cap (Own.new w (zeros 96) (zeros_byte 96)) (h.old T1) (zeros_length 96) hlen
  have HT2 : Hid (Old w w2) := T1.own T2 (Nat.le_refl _)
  have HO2 : Hid (Own w2 w.heap.size (body xs ++ (zeros 6 ++ zeros 6))) := by
    have e : xs.take 96 ++ (zeros 96).drop len = body xs ++ (zeros 6 ++ zeros 6) := by
      rw [List.take_of_length_le (by omega)]
      unfold body zeros
      rw [List.append_assoc, List.drop_replicate, List.replicate_append_replicate, List.replicate_append_replicate, hlen]
      congr 2
      omega
    rw [← e]; exact O2
  have hB : (body xs).length = 84 := body_length (by omega)
  have HB1 := Lib.hid (sum1_lt (body xs))
  have HB2 := Lib.hid (sum2_lt (body xs))
  unfold track
  clear O2 T2 T1 h hlen
  generalize body xs = B at *
  generalize hS1 : sum1 B = S1 at *
  generalize hS2 : sum2 B = S2 at *
  have HS1 := Lib.hid hS1
  have HS2 := Lib.hid hS2
  have HB := Lib.hid hB
  clear hS1 hS2 hB
  generalize cells (zeros 96) = Z at *
  go_enter Tryz.func108, Tryz.ntmps108
  go_wp2_with fail
  clear hmk hcp
  refine (sums_any _ B 84 96 w2 (by have := HO2.out.has.take 84; rwa [List.take_append_of_le_length (by rw [HB.out]; exact Nat.le_refl _), List.take_of_length_le (by rw [HB.out]; exact Nat.le_refl _)] at this) HB.out (by omega) (by omega)).mono ?_
  rintro e w' ⟨rfl, rfl⟩
  rw [HS1.out, HS2.out]
  clear HS1 HS2
  go_wp2_with fail
  refine (layNumber_any w.heap.size 84 _ S1 _ w2 HO2.out (by simp [HB.out, zeros]) HB1.out).mono ?_
  rintro e w3 ⟨rfl, O3, T3⟩
  rw [laid_six B (zeros 6) (zeros 6) 84 S1 HB.out (zeros_length 6)] at O3
  have HO3 := Lib.hid O3
  have HT3 := Lib.hid T3
  clear O3 T3 HO2
  go_wp2_with fail
  refine (layNumber_any w.heap.size 90 _ S2 _ w3 HO3.out (by simp [HB.out, zeros, digits]) HB2.out).mono ?_
  rintro e w4 ⟨rfl, O4, T4⟩
  have e4 := laid_six (B ++ digits S1) (zeros 6) [] 90 S2 (by simp [HB.out, digits]) (zeros_length 6)
  simp only [List.append_nil, List.append_assoc] at e4
  rw [e4] at O4
  have HO4 := Lib.hid O4
  have HT4 := Lib.hid T4
  clear O4 T4 HO3 e4
  go_wp2_with fail
  go_ret2
  exact ⟨rfl, HO4.out, (HT2.out.own HT3.out (Nat.le_refl _)).own HT4.out (Nat.le_refl _)⟩

theorem track_take {xs : List Nat} (h : xs.length ≤ 84) : (track xs).take 84 = body xs := by
  unfold track
  rw [List.take_append_of_le_length (by rw [body_length h]; exact Nat.le_refl _), List.take_of_length_le (by rw [body_length h]; exact Nat.le_refl _)]
theorem body_byte {xs : List Nat} (h : ∀ x ∈ xs, x < 256) : ∀ x ∈ body xs, x < 256 := fun x hx => by
  rcases List.mem_append.1 hx with h1 | h1
  · exact h x h1
  · exact zeros_byte _ x h1
theorem track_byte {xs : List Nat} (h : ∀ x ∈ xs, x < 256) : ∀ x ∈ track xs, x < 256 := fun x hx => by
  rcases List.mem_append.1 hx with h1 | h1
  · exact body_byte h x h1
  · rcases List.mem_append.1 h1 with h2 | h2
    · exact digits_byte _ x h2
    · exact digits_byte _ x h2
end Go.Proofs.YtjajenkagcdhlaaGreat
