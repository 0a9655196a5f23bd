/- The law LexKnown's walk. -/
import Derived.Test.YtdfodmnjgpgojaaDoorKn
import Derived.Test.YtdfodmnjgpgojaaDoorTxt
namespace Go.Proofs.YtdfodmnjgpgojaaDoor
open Go.RowKit Go.PlainAid
set_option maxRecDepth 100000

/-- A known text's tokens. -/
theorem lex_const (t : ByteArray) (hs : t.size ≤ maxLen) (n : Nat) (E A : Int) (hl : (lexL t).length = n) (he : lexE t = E) (ha : lexA t = A) (w0 w : World) (h : Tbl w0 3 sgTab) (O : Old w0 w) :
    Calls Tryd.prog 8 #[.string t] w fun e w' => ∃ a c, e = .returned (.tuple #[.slice a n c, .int .i64 E, .int .i64 A]) ∧ n ≤ c ∧ HasT w' a (lexL t) ∧ Old w w' :=
  (lex_any t hs w (h.old O (fun q => q))).mono fun e w' ⟨a, c, h1, h2, h3, h4⟩ => ⟨a, c, by rw [h1, hl, he, ha], by rw [← hl]; exact h2, h3, h4⟩

def tx1 : ByteArray := ⟨#[32, 9, 88, 32, 97, 98, 95, 57, 10, 45, 62, 48, 48, 55, 64, 61, 61]⟩
theorem lexL_tx1 : lexL ⟨#[32, 9, 88, 32, 97, 98, 95, 57, 10, 45, 62, 48, 48, 55, 64, 61, 61]⟩ = [⟨3, ⟨#[88]⟩, 0, 2⟩, ⟨2, ⟨#[97, 98, 95, 57]⟩, 0, 4⟩, ⟨4, ⟨#[45, 62]⟩, 0, 9⟩, ⟨1, ⟨#[48, 48, 55]⟩, 7, 11⟩, ⟨4, ⟨#[64]⟩, 0, 14⟩, ⟨4, ⟨#[61, 61]⟩, 0, 15⟩, ⟨5, ⟨#[]⟩, 0, 17⟩] := by kernel_rfl
theorem isWord_const (t : ByteArray) (hs : t.size ≤ maxLen) (b : Bool) (hb : isWordB t = b) (w0 w : World) (h : Tbl w0 3 sgTab) (O : Old w0 w) :
    Calls Tryd.prog 9 #[.string t] w fun e w' => e = .returned (.bool b) ∧ w' = w := by
  have := isWord_any t hs w (h.old O (fun q => q))
  rw [hb] at this
  exact this

set_option maxHeartbeats 12800000 in
theorem known_law (w : World) (h : Tbl w 3 sgTab) : Calls Tryd.prog 3 #[] w fun e w' => e = .returned (.bool true) ∧ Below w.heap.size w w' := by
  have HT := Lib.hid h
  obtain ⟨Z, hZ⟩ : ∃ Z, (cells (zeros 60001)).toArray = Z := ⟨_, rfl⟩
  obtain ⟨S, hS⟩ : ∃ S, strOf (zeros 60001) = S := ⟨_, rfl⟩
  have hz : S.size = 60001 := by rw [← hS, strOf_size, zeros_length]
  have hmk : ∀ w, (Instr.makeSlice 27 (.int .i64 60001) (.int .i64 60001)).run Tryd.prog w = .ok (.slice (some ⟨w.heap.size, 0, none⟩) 60001 60001) (w.alloc (.cells Z 5)) := fun w => by
    rw [← hZ]
    exact make_bytes 60001 (by decide) w
  have hcv : ∀ w : World, (convert 27 9 (.slice (some ⟨w.heap.size, 0, none⟩) 60001 60001)).run Tryd.prog (w.alloc (.cells Z 5)) = .ok (.string S) (w.alloc (.cells Z 5)) := fun w => by
    rw [← hZ, ← hS]
    exact str_any _ _ _ _ _ (Has.new w _ (zeros_byte _) (0, 0)) (zeros_length _)
  have HZ := Lib.hid (lex_const S (by rw [hz]; decide) 0 14 0 (by unfold lexL; rw [if_pos (by omega)]; rfl) (by unfold lexE; rw [if_pos (by omega)]) (by unfold lexA; rw [if_pos (by omega)]) w)
  clear h hZ hS hz
  have HP : Hid (Old w w) := Touch.refl _ _
  go_enter Tryd.func3, Tryd.ntmps3
  go_wp2_with (first
    | ((with_reducible refine (known_any _ (HT.out.old HP.out (fun q => q))).mono ?_); rintro e w1 ⟨rfl, O⟩
       have hT := HX.out.2.old O
       rw [lexL_tx1] at hT
       obtain ⟨g, rfl, c0, _, _, _⟩ := hT.cell 0 _ rfl
       obtain ⟨g, e, _, c5, _, _⟩ := hT.cell 1 _ rfl
       cases e
       obtain ⟨g, e, _, c9, _, _⟩ := hT.cell 2 _ rfl
       cases e
       obtain ⟨g, e, _, c13, c14, _⟩ := hT.cell 3 _ rfl
       cases e
       obtain ⟨g, e, _, c17, _, _⟩ := hT.cell 4 _ rfl
       cases e
       obtain ⟨g, e, _, c21, _, _⟩ := hT.cell 5 _ rfl
       cases e
       have HP : Hid (Old w w1) := HP.out.trans O
       clear O hT HX
       simp only [Nat.reduceMul, Nat.reduceAdd] at c0 c5 c9 c13 c14 c17 c21)
    | ((with_reducible refine (known_any _ (HT.out.old HP.out (fun q => q))).mono ?_); rintro e w1 ⟨rfl, O⟩
       have HP : Hid (Old w w1) := HP.out.trans O
       clear O)
    | ((with_reducible refine (lex_const ⟨#[32, 9, 88, 32, 97, 98, 95, 57, 10, 45, 62, 48, 48, 55, 64, 61, 61]⟩ (by decide) 7 0 0 (by kernel_rfl) (by kernel_rfl) (by kernel_rfl) w _ HT.out HP.out).mono ?_); rintro e w1 ⟨a1, c1, rfl, hc1, hT1, O⟩
       have HP : Hid (Old w w1) := HP.out.trans O
       have HX : Hid (Old w1 w1 ∧ HasT w1 a1 (lexL ⟨#[32, 9, 88, 32, 97, 98, 95, 57, 10, 45, 62, 48, 48, 55, 64, 61, 61]⟩)) := ⟨Touch.refl _ _, hT1⟩
       clear O hT1)
    | ((with_reducible refine (lex_const ⟨#[97, 32, 49, 50, 51, 52]⟩ (by decide) 0 2 2 (by kernel_rfl) (by kernel_rfl) (by kernel_rfl) w _ HT.out HP.out).mono ?_); rintro e w1 ⟨_, _, rfl, _, _, O⟩
       have HP : Hid (Old w w1) := HP.out.trans O
       have HX : Hid (Old _ w1 ∧ HasT w1 a1 _) := ⟨HX.out.1.trans O, HX.out.2.old O⟩
       clear O)
    | ((with_reducible refine (lex_const ⟨#[97, 98, 99, 100, 101, 102, 103, 104, 105]⟩ (by decide) 0 2 0 (by kernel_rfl) (by kernel_rfl) (by kernel_rfl) w _ HT.out HP.out).mono ?_); rintro e w1 ⟨_, _, rfl, _, _, O⟩
       have HP : Hid (Old w w1) := HP.out.trans O
       have HX : Hid (Old _ w1 ∧ HasT w1 a1 _) := ⟨HX.out.1.trans O, HX.out.2.old O⟩
       clear O)
    | ((with_reducible refine (lex_const ⟨#[120, 32, 35]⟩ (by decide) 0 2 2 (by kernel_rfl) (by kernel_rfl) (by kernel_rfl) w _ HT.out HP.out).mono ?_); rintro e w1 ⟨_, _, rfl, _, _, O⟩
       have HP : Hid (Old w w1) := HP.out.trans O
       have HX : Hid (Old _ w1 ∧ HasT w1 a1 _) := ⟨HX.out.1.trans O, HX.out.2.old O⟩
       clear O)
    | ((with_reducible refine (lex_const ⟨#[120, 32, 61, 32, 65]⟩ (by decide) 0 2 4 (by kernel_rfl) (by kernel_rfl) (by kernel_rfl) w _ HT.out HP.out).mono ?_); rintro e w1 ⟨_, _, rfl, _, _, O⟩
       have HP : Hid (Old w w1) := HP.out.trans O
       have HX : Hid (Old _ w1 ∧ HasT w1 a1 _) := ⟨HX.out.1.trans O, HX.out.2.old O⟩
       clear O)
    | ((with_reducible refine (lex_const ⟨#[]⟩ (by decide) 1 0 0 (by kernel_rfl) (by kernel_rfl) (by kernel_rfl) w _ HT.out HP.out).mono ?_); rintro e w1 ⟨_, _, rfl, _, _, O⟩
       have HP : Hid (Old w w1) := HP.out.trans O
       have HX : Hid (Old _ w1 ∧ HasT w1 a1 _) := ⟨HX.out.1.trans O, HX.out.2.old O⟩
       clear O)
    | ((with_reducible refine (HZ.out _ HT.out (HP.out.alloc _)).mono ?_); rintro e w1 ⟨_, _, rfl, _, _, O⟩
       have O : Old _ w1 := ((Touch.refl _ _).alloc _).trans O
       have HP : Hid (Old w w1) := HP.out.trans O
       have HX : Hid (Old _ w1 ∧ HasT w1 a1 _) := ⟨HX.out.1.trans O, HX.out.2.old O⟩
       clear O)
    | ((with_reducible refine (isWord_const ⟨#[95]⟩ (by decide) true (by kernel_rfl) w _ HT.out HP.out).mono ?_); rintro e w1 ⟨rfl, rfl⟩)
    | ((with_reducible refine (isWord_const ⟨#[97, 32, 98]⟩ (by decide) false (by kernel_rfl) w _ HT.out HP.out).mono ?_); rintro e w1 ⟨rfl, rfl⟩)
    | ((with_reducible refine (isWord_const ⟨#[57, 97]⟩ (by decide) false (by kernel_rfl) w _ HT.out HP.out).mono ?_); rintro e w1 ⟨rfl, rfl⟩)
    | ((with_reducible refine (isWord_const ⟨#[]⟩ (by decide) false (by kernel_rfl) w _ HT.out HP.out).mono ?_); rintro e w1 ⟨rfl, rfl⟩))
  go_ret
  exact ⟨rfl, HP.out.below (Nat.le_refl _) (fun _ _ q => q)⟩
end Go.Proofs.YtdfodmnjgpgojaaDoor
