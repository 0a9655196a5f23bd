/- The contract of lex.Lex. -/
import Derived.Test.YtdfodmnjgpgojaaDoorTks
namespace Go.Proofs.YtdfodmnjgpgojaaDoor
open Go.RowKit Go.PlainAid
set_option maxRecDepth 100000

/-- What Lex answers. -/
def LexPost (s : ByteArray) (w : World) (e : Ending) (w' : World) : Prop := ∃ a c, e = .returned (.tuple #[.slice a (lexL s).length c, .int .i64 (lexE s), .int .i64 (lexA s)]) ∧ (lexL s).length ≤ c ∧ HasT w' a (lexL s) ∧ Old w w'
/-- The tokens of what is ahead of a are l. -/
structure Been (s : ByteArray) (w : World) (a : Nat) (l : List Tok) (v : Value) (wx : World) : Prop where
  toks : Toks wx w.heap.size v l
  old : Old w wx
  is : rest s 0 = (l ++ (rest s a).1, (rest s a).2)
  le : l.length ≤ a
theorem Been.zero (s : ByteArray) (w : World) : Been s w 0 [] (.slice none 0 0) w := ⟨Toks.nil _ _, Touch.refl _ _, rfl, Nat.zero_le _⟩
theorem Been.blank {s : ByteArray} {w wx : World} {a : Nat} {l : List Tok} {v : Value} (h : Been s w a l v wx) (ha : a < s.size) (hb : blankB (bt s a) = true) : Been s w (a + 1) l v wx :=
  ⟨h.toks, h.old, by rw [h.is, rest_blank ha hb], by have := h.le; omega⟩
theorem Been.bad {s : ByteArray} {w wx : World} {a n : Nat} {l : List Tok} {v : Value} (h : Been s w a l v wx) (hm : s.size ≤ 60000) (ha : a < s.size) (hb : blankB (bt s a) = false) (hf : firstB (s.extract a s.size) = (0, n)) :
    LexPost s w (.returned (.tuple #[.slice none 0 0, .int .i64 2, .int .i64 (a : Int)])) wx := by
  have e : (rest s 0).2 = some a := by rw [h.is, rest_bad ha hb hf]
  have e1 : lexL s = [] := by unfold lexL; rw [if_neg (by omega), e]
  have e2 : lexE s = 2 := by unfold lexE; rw [if_neg (by omega), e]
  have e3 : lexA s = a := by unfold lexA; rw [if_neg (by omega), e]
  exact ⟨none, 0, by rw [e1, e2, e3]; rfl, by rw [e1]; exact Nat.le_refl _, by rw [e1]; exact ⟨fun i t q => by simp at q⟩, h.old⟩
theorem Been.tok {s : ByteArray} {w wx wy : World} {a k n : Nat} {l : List Tok} {v : Value} (h : Been s w a l v wx) (ha : a < s.size) (hm : s.size ≤ 60000) (hb : blankB (bt s a) = false) (hf : firstB (s.extract a s.size) = (k + 1, n)) (O : Old wx wy) :
    ∃ v' w', (∀ ty, (Builtin.append_ #[23, 23] ty #[v, .slice (some ⟨wy.heap.size, 0, none⟩) 1 1]).run Tryd.prog (wy.alloc (.cells (tokAt s (k + 1) n a).cells.toArray 29)) = .ok v' w') ∧ Been s w (a + n) (l ++ [tokAt s (k + 1) n a]) v' w' := by
  obtain ⟨v', w', h1, h2, h3⟩ := (h.toks.old O).more (h.old.trans O).size (tokAt s (k + 1) n a) (by have := h.le; omega)
  have hn := (firstB_good (by rw [ByteArray.size_extract]; omega) hf).1
  refine ⟨v', w', h1, h2, Touch.above (h.old.trans O) (Nat.le_refl _) (fun k hk => (h.toks.lt k hk).1) h3, ?_, by rw [List.length_append, List.length_singleton]; have := h.le; omega⟩
  rw [h.is, rest_tok ha hb hf, List.append_assoc]
  rfl
theorem Been.done {s : ByteArray} {w wx : World} {a : Nat} {l : List Tok} {v : Value} (h : Been s w a l v wx) (hm : s.size ≤ 60000) (ha : s.size ≤ a) (hl : l.length ≤ 1000000) :
    ∃ v' w', (∀ ty, (Builtin.append_ #[23, 23] ty #[v, .slice (some ⟨wx.heap.size, 0, none⟩) 1 1]).run Tryd.prog (wx.alloc (.cells (tokEnd s).cells.toArray 29)) = .ok v' w') ∧ LexPost s w (.returned (.tuple #[v', .int .i64 0, .int .i64 0])) w' := by
  obtain ⟨v', w', h1, h2, h3⟩ := h.toks.more h.old.size (tokEnd s) hl
  have e : rest s 0 = (l ++ [tokEnd s], none) := by rw [h.is, rest_end ha]
  have e1 : lexL s = l ++ [tokEnd s] := by unfold lexL; rw [if_neg (by omega), e]
  have e2 : lexE s = 0 := by unfold lexE; rw [if_neg (by omega), e]
  have e3 : lexA s = 0 := by unfold lexA; rw [if_neg (by omega), e]
  obtain ⟨x, c, hv, hc, hT⟩ := h2.form
  rw [← e1] at hv hc hT
  exact ⟨v', w', h1, x, c, by rw [e2, e3, hv], hc, hT, Touch.above h.old (Nat.le_refl _) (fun k hk => (h.toks.lt k hk).1) h3⟩
theorem lex_long {s : ByteArray} (w : World) (h : s.size > 60000) : LexPost s w (.returned (.tuple #[.slice none 0 0, .int .i64 14, .int .i64 0])) w := by
  have e1 : lexL s = [] := by unfold lexL; rw [if_pos h]
  have e2 : lexE s = 14 := by unfold lexE; rw [if_pos h]
  have e3 : lexA s = 0 := by unfold lexA; rw [if_pos h]
  exact ⟨none, 0, by rw [e1, e2, e3]; rfl, by rw [e1]; exact Nat.le_refl _, by rw [e1]; exact ⟨fun i t q => by simp at q⟩, Touch.refl _ _⟩

set_option maxHeartbeats 6400000 in
theorem lex_any (s : ByteArray) (hs : s.size ≤ maxLen) (w : World) (hT : Tbl w 3 sgTab) : Calls Tryd.prog 8 #[.string s] w (LexPost s w) := by
  have hb := get_bt s
  have HT := Lib.hid hT
  have HM : Hid (s.size ≤ maxLen) := hs
  have hmx : maxLen = 9223372036854775807 := by decide
  obtain ⟨m, hm⟩ : ∃ m, s.size = m := ⟨_, rfl⟩
  by_cases hlong : m > 60000
  · have HL := Lib.hid (lex_long w (by omega : s.size > 60000))
    have q' : (60000 : Int) < (m : Int) := by omega
    clear hs hT
    go_enter Tryd.func8, Tryd.ntmps8
    go_wp2_with fail
    go_ret3
    exact HL.out
  · have q' : ¬ (60000 : Int) < (m : Int) := by omega
    have HQ : Hid (s.size ≤ 60000) := by show _ ≤ _; omega
    have H0 := Lib.hid (Been.zero s w)
    clear hs hT
    go_enter Tryd.func8, Tryd.ntmps8
    go_wp2_with fail
    go_loopw [5, 6, 7, 8] (fun v at_ _ _ wx => ∃ (a : Nat) (l : List Tok), at_ = .int .i64 (a : Int) ∧ a ≤ m ∧ Hid (Been s w a l v wx)) (fun _ at_ _ _ _ => m - (intOf at_).toNat)
    case atStart => exact ⟨0, [], rfl, Nat.zero_le _, H0⟩
    case round =>
      obtain ⟨a, l, rfl, ha, HB⟩ := hrel
      clear H0
      by_cases q : a < m
      · have q1 : (a : Int) < (m : Int) := by omega
        cases hbl : blankB (bt s a) with
        | true =>
          have HN := Lib.hid (HB.out.blank (by omega) hbl)
          go_wp2_with (with_reducible refine (isBlank_any _ _).mono ?_; rintro e w' ⟨rfl, rfl⟩)
          exact ⟨⟨a + 1, l, by rw [Int.natCast_add]; rfl, by omega, HN⟩, by simp only [intOf]; omega⟩
        | false =>
          have hext : (s.extract a s.size).size = m - a := by rw [ByteArray.size_extract]; omega
          have hpos : 0 < (s.extract a s.size).size := by omega
          have HF := Lib.hid (first_any (s.extract a s.size) (by omega) hpos wr (HT.out.old HB.out.old (fun q => q)))
          have hfg := @firstB_good (s.extract a s.size) hpos
          obtain ⟨⟨k, n⟩, hkn⟩ : ∃ X, firstB (s.extract a s.size) = X := ⟨_, rfl⟩
          rw [hkn, hm] at HF hfg
          cases k with
          | zero =>
            have HX := Lib.hid (HB.out.bad HQ.out (by omega) hbl hkn)
            clear hkn hfg hpos hext
            go_wp2_with (first
              | (with_reducible refine (isBlank_any _ _).mono ?_; rintro e w' ⟨rfl, rfl⟩)
              | (with_reducible refine HF.out.mono ?_; rintro e w' ⟨rfl, rfl⟩))
            go_ret3
            exact HX.out
          | succ k =>
            obtain ⟨hn1, hn2, hn8⟩ := hfg rfl
            have hex2 : (s.extract a m).size = m - a := by rw [ByteArray.size_extract]; omega
            rw [hex2] at hn2
            have hta : tokAt s (k + 1) n a = ⟨k + 1, s.extract a (a + n), if k + 1 = 1 then valN (s.extract a (a + n)) n else 0, a⟩ := rfl
            have hsz : (s.extract a (a + n)).size = n := by rw [ByteArray.size_extract]; omega
            have hdig : k + 1 = 1 → (s.extract a (a + n)).size ≤ 3 ∧ ∀ i, i < (s.extract a (a + n)).size → digitB (bt (s.extract a (a + n)) i) = true := fun e => by
              obtain rfl : k = 0 := by omega
              obtain ⟨_, e2, e3⟩ := tok_digit hkn (by omega)
              exact ⟨by omega, e3⟩
            have htk := fun w => token_any (k + 1) (s.extract a (a + n)) a (by omega) hdig w
            rw [hsz] at htk
            obtain ⟨v, hv⟩ : ∃ v, (if k + 1 = 1 then valN (s.extract a (a + n)) n else 0) = v := ⟨_, rfl⟩
            rw [hv] at htk hta
            have HK := Lib.hid htk
            have hnk : ¬ ((k + 1 : Nat) : Int) = 0 := by omega
            have hA := fun wy (O : Old wr wy) => HB.out.tok (by omega) (by omega) hbl hkn O
            rw [hta] at hA
            have HA := Lib.hid hA
            have hlo : (a : Int) ≤ (a : Int) + (n : Int) := by omega
            have hhi : (a : Int) + (n : Int) ≤ (m : Int) := by omega
            clear hA hta hdig htk hkn hfg hv hn8
            obtain ⟨j, hj⟩ : ∃ j, k + 1 = j := ⟨_, rfl⟩
            rw [hj] at HF HK HA hnk
            clear hj
            go_wp2_with (first
              | (with_reducible refine (isBlank_any _ _).mono ?_; rintro e w' ⟨rfl, rfl⟩)
              | (with_reducible refine HF.out.mono ?_; rintro e w' ⟨rfl, rfl⟩)
              | ((refine (HK.out _).mono ?_); rintro e wy ⟨rfl, O1⟩
                 obtain ⟨v', w', hap, HBn0⟩ := HA.out wy O1
                 have HBn := Lib.hid HBn0
                 clear HBn0)
              | (at_builtin; refine wpList_append_run rfl _ _ 23 23 rfl _ _ rfl rfl _ _ (hap _) ?_))
            exact ⟨⟨a + n, _, by rw [Int.natCast_add], by omega, HBn⟩, by simp only [intOf]; omega⟩
      · obtain rfl : m = a := by omega
        have hl := HB.out.le
        obtain ⟨v', w', hap0, HX0⟩ := HB.out.done HQ.out (by omega) (by omega)
        have hap : ∀ ty, (Builtin.append_ #[23, 23] ty #[u5, .slice (some ⟨wr.heap.size, 0, none⟩) 1 1]).run Tryd.prog (wr.alloc (.cells #[.int .i64 5, .string ⟨#[]⟩, .int .i64 0, .int .i64 (m : Int)] 29)) = .ok v' w' := by rw [← hm]; exact hap0
        have HX := Lib.hid HX0
        clear hap0 HX0 hl
        go_wp2_with (first | (at_builtin; refine wpList_append_run rfl _ _ 23 23 rfl _ _ rfl rfl _ _ (hap _) ?_))
        go_ret3
        exact HX.out
end Go.Proofs.YtdfodmnjgpgojaaDoor
