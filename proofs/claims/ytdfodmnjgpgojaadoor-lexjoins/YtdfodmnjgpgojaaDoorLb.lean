/- Words and signs of a text, by bytes: the plain model. -/
import Derived.Test.YtdfodmnjgpgojaaDoorBase
import Derived.PlainAid
import Derived.Lib.Hide
namespace Go.Proofs.YtdfodmnjgpgojaaDoor
open Go.RowKit
open Go.PlainAid
set_option maxRecDepth 100000

def intOf : Value → Int | .int _ q => q | _ => 0
def blankB (c : Int) : Bool := decide (c = 32 ∨ c = 9 ∨ c = 10)
def digitB (c : Int) : Bool := decide (48 ≤ c ∧ c ≤ 57)
def lowerB (c : Int) : Bool := decide ((97 ≤ c ∧ c ≤ 122) ∨ c = 95)
def wordB (c : Int) : Bool := decide (((97 ≤ c ∧ c ≤ 122) ∨ c = 95) ∨ (48 ≤ c ∧ c ≤ 57))
def letterB (c : Int) : Bool := decide (c = 88 ∨ c = 70 ∨ c = 71 ∨ c = 85 ∨ c = 82)

theorem bt_part (s : ByteArray) (a b k : Nat) (h : a + k < b) : bt (s.extract a b) k = bt s (a + k) := by
  unfold bt
  rcases Nat.lt_or_ge (a + k) s.size with q | q
  · rw [dif_pos (by rw [ByteArray.size_extract]; omega), dif_pos q, ByteArray.getElem_extract]
  · rw [dif_neg (by rw [ByteArray.size_extract]; omega), dif_neg (by omega)]

/-- How many bytes from the place n on are such ones. -/
def runAt (p : Int → Bool) (s : ByteArray) : Nat → Nat → Nat
  | 0, _ => 0
  | f + 1, n => if n < s.size ∧ p (bt s n) = true then runAt p s f (n + 1) + 1 else 0
/-- How many bytes are such ones from the first on. -/
def runN (p : Int → Bool) (s : ByteArray) : Nat := runAt p s s.size 0

theorem runAt_spec (p : Int → Bool) (s : ByteArray) : ∀ (f n : Nat), s.size ≤ n + f → n ≤ s.size → n + runAt p s f n ≤ s.size ∧ (∀ k, n ≤ k → k < n + runAt p s f n → p (bt s k) = true) ∧ (n + runAt p s f n < s.size → p (bt s (n + runAt p s f n)) = false)
  | 0, n, h, _ => by
    simp only [runAt, Nat.add_zero]
    exact ⟨by omega, fun k a b => by omega, fun q => by omega⟩
  | f + 1, n, h, hn => by
    unfold runAt
    by_cases q : n < s.size ∧ p (bt s n) = true
    · rw [if_pos q]
      obtain ⟨h1, h2, h3⟩ := runAt_spec p s f (n + 1) (by omega) (by omega)
      refine ⟨by omega, fun k a b => ?_, fun c => ?_⟩
      · rcases Nat.eq_or_lt_of_le a with e | e
        · subst e; exact q.2
        · exact h2 k (by omega) (by omega)
      · have e : n + (runAt p s f (n + 1) + 1) = n + 1 + runAt p s f (n + 1) := by omega
        rw [e] at c ⊢
        exact h3 c
    · rw [if_neg q]
      refine ⟨by omega, fun k a b => by omega, fun c => ?_⟩
      rw [Nat.add_zero] at c ⊢
      rcases Bool.eq_false_or_eq_true (p (bt s n)) with e | e
      · exact absurd ⟨c, e⟩ q
      · exact e
/-- What a run is. -/
structure IsRun (p : Int → Bool) (s : ByteArray) (n : Nat) : Prop where
  le : n ≤ s.size
  all : ∀ k, k < n → p (bt s k) = true
  stop : n < s.size → p (bt s n) = false
theorem runN_is (p : Int → Bool) (s : ByteArray) : IsRun p s (runN p s) := by
  obtain ⟨h1, h2, h3⟩ := runAt_spec p s s.size 0 (by omega) (by omega)
  rw [Nat.zero_add] at h1 h3
  exact ⟨h1, fun k hk => h2 k (by omega) (by rw [Nat.zero_add]; exact hk), h3⟩
theorem IsRun.eq {p : Int → Bool} {s : ByteArray} {n m : Nat} (h : IsRun p s n) (k : IsRun p s m) : n = m := by
  rcases Nat.lt_trichotomy n m with q | q | q
  · have h1 := h.stop (Nat.lt_of_lt_of_le q k.le)
    rw [k.all n q] at h1; cases h1
  · exact q
  · have h1 := k.stop (Nat.lt_of_lt_of_le q h.le)
    rw [h.all m q] at h1; cases h1
theorem runN_eq {p : Int → Bool} {s : ByteArray} {n : Nat} (h : IsRun p s n) : runN p s = n := (runN_is p s).eq h
theorem runN_pos {p : Int → Bool} {s : ByteArray} (h0 : 0 < s.size) (h : p (bt s 0) = true) : 0 < runN p s := by
  rcases Nat.eq_zero_or_pos (runN p s) with q | q
  · have := (runN_is p s).stop (by omega)
    rw [q, h] at this; cases this
  · exact q

/-- How many bytes the longest sign has that begins with c, d (0: none). -/
def signB (c d : Int) : Nat :=
  if (c = 60 ∧ d = 61) ∨ (c = 62 ∧ d = 61) ∨ (c = 61 ∧ d = 61) ∨ (c = 33 ∧ d = 61) ∨ (c = 38 ∧ d = 38) ∨ (c = 124 ∧ d = 124) ∨ (c = 45 ∧ d = 62) then 2
  else if c = 40 ∨ c = 41 ∨ c = 91 ∨ c = 93 ∨ c = 43 ∨ c = 45 ∨ c = 42 ∨ c = 60 ∨ c = 62 ∨ c = 33 ∨ c = 64 ∨ c = 59 ∨ c = 61 then 1 else 0
theorem signB_le (c d : Int) : signB c d ≤ 2 := by
  unfold signB
  split
  · omega
  · split <;> omega
/-- The kind of the first token, and how many bytes it has; kind 0: none begins there. -/
def firstB (s : ByteArray) : Nat × Nat :=
  if digitB (bt s 0) = true then (if runN digitB s > 3 then (0, 0) else (1, runN digitB s))
  else if lowerB (bt s 0) = true then (if runN wordB s > 8 then (0, 0) else (2, runN wordB s))
  else if letterB (bt s 0) = true then (3, 1)
  else if signB (bt s 0) (bt s 1) > 0 then (4, signB (bt s 0) (bt s 1)) else (0, 0)
/-- The number that the first n bytes are. -/
def valN (s : ByteArray) : Nat → Int
  | 0 => 0
  | n + 1 => 10 * valN s n + (bt s n - 48)

structure Tok where
  kind : Nat
  text : ByteArray
  n : Int
  at_ : Nat
def Tok.cells (t : Tok) : List Value := [.int .i64 (t.kind : Int), .string t.text, .int .i64 t.n, .int .i64 (t.at_ : Int)]
def tokAt (s : ByteArray) (k n a : Nat) : Tok := ⟨k, s.extract a (a + n), if k = 1 then valN (s.extract a (a + n)) n else 0, a⟩
def tokEnd (s : ByteArray) : Tok := ⟨5, ByteArray.empty, 0, s.size⟩

/-- The tokens of what begins at a (f: how many bytes there are at most), or where none begins. -/
def restF (s : ByteArray) : Nat → Nat → List Tok × Option Nat
  | 0, _ => ([tokEnd s], none)
  | f + 1, a =>
    if s.size ≤ a then ([tokEnd s], none)
    else if blankB (bt s a) = true then restF s f (a + 1)
    else match firstB (s.extract a s.size) with
      | (0, _) => ([], some a)
      | (k + 1, n) => ((tokAt s (k + 1) n a) :: (restF s f (a + n)).1, (restF s f (a + n)).2)
end Go.Proofs.YtdfodmnjgpgojaaDoor
