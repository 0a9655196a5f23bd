/- Each token's text stands where it says, with blanks alone between; alone it is that token again. -/
import Derived.Test.YtdfodmnjgpgojaaDoorLb2
namespace Go.Proofs.YtdfodmnjgpgojaaDoor
open Go.PlainAid
set_option maxRecDepth 100000

theorem ext_self (s : ByteArray) : s.extract 0 s.size = s := by
  apply ByteArray.ext
  rw [ByteArray.data_extract]
  simp
theorem signB_zero {c d : Int} (h : signB c d = 1) : signB c 0 = 1 := by
  unfold signB at h ⊢
  split at h
  · cases h
  · split at h
    · rename_i q
      rw [if_neg (by omega), if_pos q]
    · cases h
/-- What begins with the same bytes as a token has, and has no others, is that token. -/
theorem firstB_prefix {X Y : ByteArray} {k n : Nat} (h0 : 0 < Y.size) (hX : X.size = n) (hb : ∀ j, j < n → bt X j = bt Y j) (h : firstB Y = (k + 1, n)) : firstB X = (k + 1, n) := by
  obtain ⟨h1, _, _⟩ := firstB_good h0 h
  have e0 : bt X 0 = bt Y 0 := hb 0 (by omega)
  have run : ∀ p, runN p Y = n → runN p X = n := fun p e => by
    have hr := runN_is p Y
    rw [e] at hr
    exact runN_eq ⟨by omega, fun j hj => by rw [hb j hj]; exact hr.all j hj, fun q => by omega⟩
  unfold firstB at h ⊢
  rw [e0]
  split at h
  · rename_i q
    rw [if_pos q]
    split at h
    · cases h
    · rename_i q2
      injection h with ek en
      rw [run _ en, if_neg (by omega)]
      exact Prod.ext ek rfl
  · rename_i q
    rw [if_neg q]
    split at h
    · rename_i q1
      rw [if_pos q1]
      split at h
      · cases h
      · rename_i q2
        injection h with ek en
        rw [run _ en, if_neg (by omega)]
        exact Prod.ext ek rfl
    · rename_i q1
      rw [if_neg q1]
      split at h
      · rename_i q2
        rw [if_pos q2]
        exact h
      · rename_i q2
        rw [if_neg q2]
        split at h
        · rename_i q3
          injection h with ek en
          have hle := signB_le (bt Y 0) (bt Y 1)
          rcases (by omega : n = 1 ∨ n = 2) with rfl | rfl
          · rw [bt_end X (k := 1) (by omega), signB_zero en, if_pos (by decide)]
            exact Prod.ext ek rfl
          · rw [hb 1 (by decide), en, if_pos (by decide)]
            exact Prod.ext ek rfl
        · cases h

/-- Alone it is that token again. -/
def Alone (t : Tok) : Prop := lexE t.text = 0 ∧ ∃ b r, lexL t.text = b :: r ∧ b.kind = t.kind ∧ b.n = t.n ∧ b.text = t.text
def StandsP (s : ByteArray) : Nat → List Tok → Prop
  | e, [] => e = s.size
  | e, t :: r => e ≤ t.at_ ∧ t.at_ + t.text.size ≤ s.size ∧ s.extract t.at_ (t.at_ + t.text.size) = t.text ∧ (t.kind = 5 ↔ r = []) ∧ (∀ k, e ≤ k → k < t.at_ → blankB (bt s k) = true) ∧ Alone t ∧ StandsP s (t.at_ + t.text.size) r
theorem alone_end (s : ByteArray) : Alone (tokEnd s) := by
  have h : rest ByteArray.empty 0 = ([tokEnd ByteArray.empty], none) := rest_end (Nat.le_refl _)
  have hs : ¬ (ByteArray.empty.size > 60000) := by decide
  refine ⟨?_, tokEnd ByteArray.empty, [], ?_, rfl, rfl, rfl⟩
  · show lexE ByteArray.empty = 0
    unfold lexE
    rw [if_neg hs, h]
  · show lexL ByteArray.empty = _
    unfold lexL
    rw [if_neg hs, h]
theorem firstB_kind {s : ByteArray} {k n : Nat} (h : firstB s = (k + 1, n)) : k + 1 < 5 := by
  unfold firstB at h
  split at h
  · split at h
    · cases h
    · injection h with h _; omega
  · split at h
    · split at h
      · cases h
      · injection h with h _; omega
    · split at h
      · injection h with h _; omega
      · split at h
        · injection h with h _; omega
        · cases h
theorem alone_tok {s : ByteArray} {a k n : Nat} (hm : s.size ≤ 60000) (ha : a < s.size) (hb : blankB (bt s a) = false) (hf : firstB (s.extract a s.size) = (k + 1, n)) (hn : a + n ≤ s.size) (h1 : 1 ≤ n) : Alone (tokAt s (k + 1) n a) := by
  obtain ⟨X, hX⟩ : ∃ X, s.extract a (a + n) = X := ⟨_, rfl⟩
  have hsz : X.size = n := by rw [← hX, ByteArray.size_extract]; omega
  have hbt : ∀ j, j < n → bt X j = bt s (a + j) := fun j hj => by rw [← hX]; exact bt_part s a (a + n) j (by omega)
  have hfx : firstB X = (k + 1, n) := firstB_prefix (by rw [ByteArray.size_extract]; omega) hsz (fun j hj => by rw [hbt j hj, bt_part s a s.size j (by omega)]) hf
  have hbx : blankB (bt X 0) = false := by rw [hbt 0 (by omega)]; exact hb
  have e0 : X.extract 0 X.size = X := ext_self X
  have hr : rest X 0 = (tokAt X (k + 1) n 0 :: (rest X (0 + n)).1, (rest X (0 + n)).2) := rest_tok (by omega) hbx (by rw [e0]; exact hfx)
  rw [Nat.zero_add, rest_end (show X.size ≤ n by omega)] at hr
  have hs : ¬ (X.size > 60000) := by omega
  have et : tokAt s (k + 1) n a = ⟨k + 1, X, if k + 1 = 1 then valN X n else 0, a⟩ := by unfold tokAt; rw [hX]
  have ex : tokAt X (k + 1) n 0 = ⟨k + 1, X, if k + 1 = 1 then valN X n else 0, 0⟩ := by unfold tokAt; rw [Nat.zero_add, ← hsz, e0]
  rw [et]
  refine ⟨?_, tokAt X (k + 1) n 0, [tokEnd X], ?_, by rw [ex], by rw [ex], by rw [ex]⟩
  · show lexE X = 0
    unfold lexE
    rw [if_neg hs, hr]
  · show lexL X = _
    unfold lexL
    rw [if_neg hs, hr]
theorem stands_rest {s : ByteArray} (hm : s.size ≤ 60000) : ∀ (f a e : Nat) (l : List Tok), s.size ≤ a + f → a ≤ s.size → e ≤ a → (∀ k, e ≤ k → k < a → blankB (bt s k) = true) → rest s a = (l, none) → StandsP s e l ∧ l ≠ []
  | 0, a, e, l, h1, h2, h3, h4, h5 => by
    obtain rfl : a = s.size := by omega
    rw [rest_end (Nat.le_refl _)] at h5
    injection h5 with h5 _
    subst h5
    refine ⟨⟨h3, Nat.le_refl _, ?_, ⟨fun _ => rfl, fun _ => rfl⟩, h4, alone_end s, rfl⟩, by simp⟩
    show s.extract s.size (s.size + 0) = ByteArray.empty
    apply ByteArray.ext
    rw [ByteArray.data_extract]
    simp
  | f + 1, a, e, l, h1, h2, h3, h4, h5 => by
    rcases Nat.lt_or_ge a s.size with q | q
    · cases hb : blankB (bt s a) with
      | true =>
        rw [rest_blank q hb] at h5
        exact stands_rest hm f (a + 1) e l (by omega) (by omega) (by omega) (fun k k1 k2 => by
          rcases Nat.lt_or_ge k a with c | c
          · exact h4 k k1 c
          · obtain rfl : k = a := by omega
            exact hb) h5
      | false =>
        obtain ⟨⟨k, n⟩, hkn⟩ : ∃ X, firstB (s.extract a s.size) = X := ⟨_, rfl⟩
        cases k with
        | zero =>
          rw [rest_bad q hb hkn] at h5
          cases h5
        | succ k =>
          obtain ⟨g1, g2, _⟩ := firstB_good (by rw [ByteArray.size_extract]; omega) hkn
          rw [ByteArray.size_extract] at g2
          have hn : a + n ≤ s.size := by omega
          rw [rest_tok q hb hkn] at h5
          injection h5 with h5 h6
          subst h5
          have hsz : (tokAt s (k + 1) n a).text.size = n := by show (s.extract a (a + n)).size = n; rw [ByteArray.size_extract]; omega
          obtain ⟨r1, r2⟩ := stands_rest hm f (a + n) (a + n) (rest s (a + n)).1 (by omega) hn (Nat.le_refl _) (fun k k1 k2 => by omega) (by rw [← h6])
          refine ⟨⟨h3, by rw [hsz]; exact hn, by rw [hsz]; rfl, ⟨fun c => ?_, fun c => absurd c r2⟩, h4, alone_tok hm q hb hkn hn g1, by rw [hsz]; exact r1⟩, by simp⟩
          have := firstB_kind hkn
          have c : k + 1 = 5 := c
          omega
    · obtain rfl : a = s.size := by omega
      exact stands_rest hm 0 s.size e l (by omega) (Nat.le_refl _) h3 h4 h5
theorem stands_lex {s : ByteArray} (h : lexE s = 0) : StandsP s 0 (lexL s) ∧ lexL s ≠ [] := by
  unfold lexE at h
  split at h
  · cases h
  · rename_i q
    unfold lexL
    rw [if_neg q]
    match e : (rest s 0).2 with
    | some a => rw [e] at h; cases h
    | none =>
      show StandsP s 0 (rest s 0).1 ∧ _
      exact stands_rest (by omega) s.size 0 0 _ (by omega) (by omega) (Nat.le_refl _) (fun k k1 k2 => by omega) (by rw [← e])
theorem restF_length (s : ByteArray) : ∀ (f a : Nat), (restF s f a).1.length ≤ f + 1
  | 0, _ => Nat.le_refl _
  | f + 1, a => by
    unfold restF
    split
    · simp
    · split
      · have := restF_length s f (a + 1); omega
      · split
        · simp
        · rename_i k n _
          have := restF_length s f (a + n)
          simp
          omega
theorem lexL_length (s : ByteArray) : (lexL s).length ≤ 60002 := by
  unfold lexL
  split
  · exact Nat.zero_le _
  · rename_i q
    split
    · exact Nat.zero_le _
    · have := restF_length s (s.size - 0 + 1) 0
      unfold rest
      omega
theorem lexE_size {s : ByteArray} (h : lexE s = 0) : s.size ≤ 60000 := by
  unfold lexE at h
  split at h
  · cases h
  · omega
end Go.Proofs.YtdfodmnjgpgojaaDoor
