/- Contracts of package count: a counter, a peak, a budget, a flag. -/
import Derived.Test.YtmgobnbpmjcicaaTurn
namespace Go.Proofs.Ytmgobnbpmjcicaa
open Go.RowKit Go.MuLone

/-- What a number comes to when n is added, up to m. -/
def up (x n m : Int) : Int := x + min (max n 0) (m - x)
/-- The end of all numbers. -/
abbrev most : Int := 4611686018427387904

/-- Is n greater? -/
def above (x n : Int) : Bool := decide (x < n)
/-- May n be taken of x? -/
def can (x n : Int) : Bool := decide (0 ≤ n ∧ n ≤ x)
/-- What is left of x. -/
def taken (x n : Int) : Int := if 0 ≤ n ∧ n ≤ x then x - n else x
/-- What the function of Take tells. -/
def cutBy (x n : Int) : Int := if n ≤ x then x - n else x

/-- A method's answer v, the number behind it. -/
def Did (b : Nat) (z : Int) (y : Option Value) (v : Value) (w : World) (e : Ending) (w' : World) : Prop :=
  e = .returned v ∧ Num b z y w' ∧ Touch (fun k => k = b) w w'

/-- '(*Counter).Add'. -/
theorem add_any (b : Nat) (x n : Int) (y : Option Value) (h0 : 0 ≤ x) (h1 : x ≤ most) (w : World) (K : Num b x y w) :
    Calls Try.prog 9 #[.pointer (some ⟨b, 0, none⟩), .int .i64 n] w (Did b (up x n most) y (.int .i64 (up x n most)) w) := by
  have hm := make_func
  have K1 := Lib.hid (K.alloc (.cells #[.int .i64 n] 3))
  have V1 := Lib.hid (Var.new w (.int .i64 n) 3)
  have H0 := Lib.hid h0
  have H1 := Lib.hid h1
  clear K h0 h1
  go_enter Try.func9, Try.ntmps9
  go_wp2_with fail
  refine (turn_one b 22 _ x (up x n most) y _ enters22 K1.out (add_fn _ x n H0.out H1.out _ V1.out)).mono ?_
  rintro e w' ⟨rfl, K2, T2⟩
  have K3 := Lib.hid K2
  have T3 : Hid (Touch (fun k => k = b) w w') := ((Touch.refl _ _).alloc _).trans T2
  clear K2 T2
  go_wp2_with fail
  go_ret
  exact ⟨rfl, K3.out, T3.out⟩

/-- '(*Peak).Note'. -/
theorem note_any (b : Nat) (x n : Int) (y : Option Value) (w : World) (K : Num b x y w) :
    Calls Try.prog 10 #[.pointer (some ⟨b, 0, none⟩), .int .i64 n] w (Did b (max x n) y (.bool (above x n)) w) := by
  have hm := make_func
  have K1 := Lib.hid (K.alloc (.cells #[.int .i64 n] 3))
  have V1 := Lib.hid (Var.new w (.int .i64 n) 3)
  clear K
  go_enter Try.func10, Try.ntmps10
  go_wp2_with fail
  refine (turn_one b 24 _ x (max x n) y _ enters24 K1.out (note_fn _ x n _ V1.out)).mono ?_
  rintro e w' ⟨rfl, K2, T2⟩
  have K3 := Lib.hid K2
  have T3 : Hid (Touch (fun k => k = b) w w') := ((Touch.refl _ _).alloc _).trans T2
  clear K2 T2
  go_wp2_with fail
  go_ret
  refine ⟨?_, K3.out, T3.out⟩
  show Ending.returned (.bool (decide (x < max x n))) = _
  have e : decide (x < max x n) = above x n := by unfold above; simp only [decide_eq_decide]; omega
  rw [e]

/-- '(*Budget).Take'. -/
theorem take_any (b : Nat) (x n : Int) (y : Option Value) (h0 : 0 ≤ x) (h1 : x ≤ most) (w : World) (K : Num b x y w) :
    Calls Try.prog 12 #[.pointer (some ⟨b, 0, none⟩), .int .i64 n] w (Did b (taken x n) y (.bool (can x n)) w) := by
  have hm := make_func
  by_cases hneg : n < 0
  · have HK := Lib.hid K
    clear K
    go_enter Try.func12, Try.ntmps12
    go_wp2_with fail
    go_ret
    have hf : ¬ (0 ≤ n ∧ n ≤ x) := by omega
    have e1 : can x n = false := by unfold can; simp only [decide_eq_false_iff_not]; exact hf
    have e2 : taken x n = x := if_neg hf
    rw [e1, e2]
    exact ⟨rfl, HK.out, Touch.refl _ _⟩
  · have K1 := Lib.hid (K.alloc (.cells #[.int .i64 n] 2))
    have V1 := Lib.hid (Var.new w (.int .i64 n) 2)
    have H0 := Lib.hid h0
    have H1 := Lib.hid h1
    have T1 : Hid (Touch (fun k => k = b) w (w.alloc (.cells #[.int .i64 n] 2))) := (Touch.refl _ _).alloc _
    have hlt := Lib.hid K.lt
    clear K h0 h1
    go_enter Try.func12, Try.ntmps12
    go_wp2_with fail
    refine (turn_one b 26 _ x (cutBy x n) y _ enters26 K1.out (take_fn _ x n H0.out H1.out (by omega) _ V1.out)).mono ?_
    rintro e w' ⟨rfl, K2, T2⟩
    have V2 := V1.out.touch T2 (by have := hlt.out; omega)
    have hc := V2.c
    have K3 := Lib.hid K2
    have T3 : Hid (Touch (fun k => k = b) w w') := T1.out.trans T2
    clear K2 T2 V2
    by_cases h : n ≤ x
    · have hy : 0 ≤ n ∧ n ≤ x := by omega
      have e1 : can x n = true := by unfold can; simp only [decide_eq_true_eq]; exact hy
      have e2 : taken x n = x - n := if_pos hy
      have e3 : cutBy x n = x - n := if_pos h
      have hx : x ≤ 4611686018427387904 := H1.out
      have hw : IntKind.i64.wrap (x - (x - n)) = n := by rw [show x - (x - n) = n from by omega]; exact wrap_fits ⟨by omega, by omega⟩
      rw [e3] at K3
      rw [e3]
      have E1 := Lib.hid e1
      have E2 := Lib.hid e2
      clear h hy e1 e2 e3 hneg hx
      go_wp2_with fail
      go_ret
      rw [E1.out, E2.out]
      exact ⟨rfl, K3.out, T3.out⟩
    · have hy : ¬ (0 ≤ n ∧ n ≤ x) := by omega
      have e1 : can x n = false := by unfold can; simp only [decide_eq_false_iff_not]; exact hy
      have e2 : taken x n = x := if_neg hy
      have e3 : cutBy x n = x := if_neg h
      rw [e3] at K3
      rw [e3]
      have hw : IntKind.i64.wrap (x - x) = 0 := by rw [wrap_fits ⟨by omega, by omega⟩]; omega
      have hn0 : ((0 : Int) == n) = false := by have := H0.out; simp only [beq_eq_false_iff_ne]; omega
      have E1 := Lib.hid e1
      have E2 := Lib.hid e2
      clear h hy e1 e2 e3 hneg
      go_wp2_with fail
      go_ret
      rw [E1.out, E2.out]
      exact ⟨rfl, K3.out, T3.out⟩

/-- '(*Budget).Give'. -/
theorem give_any (b : Nat) (x n m : Int) (h0 : 0 ≤ x) (h1 : x ≤ m) (h2 : m ≤ most) (w : World) (K : Num b x (some (.int .i64 m)) w) :
    Calls Try.prog 13 #[.pointer (some ⟨b, 0, none⟩), .int .i64 n] w (Did b (up x n m) (some (.int .i64 m)) (.tuple #[]) w) := by
  have hm := make_func
  have K1 := Lib.hid ((K.alloc (.cells #[.pointer (some ⟨b, 0, none⟩)] 37)).alloc (.cells #[.int .i64 n] 3))
  have U1 := (Var.new w (.pointer (some ⟨b, 0, none⟩)) 37).alloc (.cells #[.int .i64 n] 3)
  have V1 := Var.new (w.alloc (.cells #[.pointer (some ⟨b, 0, none⟩)] 37)) (.int .i64 n) 3
  rw [World.size_alloc] at V1
  have hd := U1.c
  have HU := Lib.hid U1
  have HV := Lib.hid V1
  have H0 := Lib.hid h0
  have H1 := Lib.hid h1
  have H2 := Lib.hid h2
  clear K h0 h1 h2 U1 V1
  go_enter Try.func13, Try.ntmps13
  go_wp2_with fail
  refine (turn_two b 27 _ _ x (up x n m) _ _ enters27 K1.out (give_fn b _ _ x n m H0.out H1.out H2.out _ HV.out HU.out K1.out)).mono ?_
  rintro e w' ⟨rfl, K2, T2⟩
  have K3 := Lib.hid K2
  have T3 : Hid (Touch (fun k => k = b) w w') := (((Touch.refl _ _).alloc _).alloc _).trans T2
  clear K2 T2
  go_wp2_with fail
  go_end0
  exact ⟨rfl, K3.out, T3.out⟩

/-- The three that tell a number. -/
theorem counter_load (b : Nat) (x : Int) (y : Option Value) (w : World) (K : Num b x y w) :
    Calls Try.prog 14 #[.pointer (some ⟨b, 0, none⟩)] w fun e w' => e = .returned (.int .i64 x) ∧ w = w' := by
  have HK := Lib.hid K
  clear K
  go_enter Try.func14, Try.ntmps14
  go_wp2_with fail
  refine (int_load b x y _ HK.out).mono ?_
  rintro e w' ⟨rfl, rfl⟩
  go_wp2_with fail
  go_ret
  exact ⟨rfl, rfl⟩
theorem peak_load (b : Nat) (x : Int) (y : Option Value) (w : World) (K : Num b x y w) :
    Calls Try.prog 15 #[.pointer (some ⟨b, 0, none⟩)] w fun e w' => e = .returned (.int .i64 x) ∧ w = w' := by
  have HK := Lib.hid K
  clear K
  go_enter Try.func15, Try.ntmps15
  go_wp2_with fail
  refine (int_load b x y _ HK.out).mono ?_
  rintro e w' ⟨rfl, rfl⟩
  go_wp2_with fail
  go_ret
  exact ⟨rfl, rfl⟩
theorem budget_left (b : Nat) (x : Int) (y : Option Value) (w : World) (K : Num b x y w) :
    Calls Try.prog 17 #[.pointer (some ⟨b, 0, none⟩)] w fun e w' => e = .returned (.int .i64 x) ∧ w = w' := by
  have HK := Lib.hid K
  clear K
  go_enter Try.func17, Try.ntmps17
  go_wp2_with fail
  refine (int_load b x y _ HK.out).mono ?_
  rintro e w' ⟨rfl, rfl⟩
  go_wp2_with fail
  go_ret
  exact ⟨rfl, rfl⟩

/-- '(*Flag).Raised'. -/
theorem flag_raised (b : Nat) (x : Bool) (w : World) (K : Var b (.int .u32 (bit x)) w) :
    Calls Try.prog 16 #[.pointer (some ⟨b, 0, none⟩)] w fun e w' => e = .returned (.bool x) ∧ w = w' := by
  have HK := Lib.hid K
  clear K
  go_enter Try.func16, Try.ntmps16
  go_wp2_with fail
  refine (bool_load b x _ HK.out).mono ?_
  rintro e w' ⟨rfl, rfl⟩
  go_wp2_with fail
  go_ret
  exact ⟨rfl, rfl⟩

theorem bool_cas_up (b : Nat) (w : World) (K : Var b (.int .u32 1) w) :
    Calls Try.prog 25 #[.pointer (some ⟨b, 0, none⟩), .bool false, .bool true] w fun e w' => e = .returned (.bool false) ∧ w' = w.drew := by
  have hc' : w.drew.cell? ⟨b, 0, none⟩ = some (.int .u32 1) := K.drew.c
  have hz' : w.drew.frozen? ⟨b, 0, none⟩ = false := K.drew.f
  have hl := run_call_cas_miss (P := Try.prog) Try.func32 (by kernel_rfl) (by kernel_rfl) (by kernel_rfl) .u32 (by kernel_rfl) (o := 0) (y := 1) hc' hz' (by omega)
  clear K
  go_enter Try.func25, Try.ntmps25
  go_wp2_with fail
  go_region_calls
  all_goals (go_wp2_with fail; go_ret; exact ⟨rfl, rfl⟩)

theorem bool_cas_down (b : Nat) (w : World) (K : Var b (.int .u32 0) w) :
    Calls Try.prog 25 #[.pointer (some ⟨b, 0, none⟩), .bool false, .bool true] w fun e w' => e = .returned (.bool true) ∧ w' = w.drew.setCell ⟨b, 0, none⟩ (.int .u32 1) := by
  have hc' : w.drew.cell? ⟨b, 0, none⟩ = some (.int .u32 0) := K.drew.c
  have hz' : w.drew.frozen? ⟨b, 0, none⟩ = false := K.drew.f
  have hl := run_call_cas_hit (P := Try.prog) Try.func32 (by kernel_rfl) (by kernel_rfl) (by kernel_rfl) .u32 (by kernel_rfl) (y := 1) hc' hz'
  clear K
  go_enter Try.func25, Try.ntmps25
  go_wp2_with fail
  go_region_calls
  all_goals (go_wp2_with fail; go_ret; exact ⟨rfl, rfl⟩)

/-- '(*Flag).Raise'. -/
theorem raise_any (b : Nat) (x : Bool) (w : World) (K : Var b (.int .u32 (bit x)) w) :
    Calls Try.prog 11 #[.pointer (some ⟨b, 0, none⟩)] w fun e w' => e = .returned (.bool (!x)) ∧ Var b (.int .u32 1) w' ∧ Touch (fun k => k = b) w w' := by
  have HK := Lib.hid K
  clear K
  cases x
  · go_enter Try.func11, Try.ntmps11
    go_wp2_with fail
    refine (bool_cas_down b _ HK.out).mono ?_
    rintro e w' ⟨rfl, rfl⟩
    go_wp2_with fail
    go_ret
    exact ⟨rfl, ⟨World.cell?_setCell_same _ _ _ HK.out.drew.c, by simp [HK.out.f]⟩, (Touch.refl (fun k => k = b) w).drew.setCell (p := ⟨b, 0, none⟩) (Or.inl rfl) _⟩
  · go_enter Try.func11, Try.ntmps11
    go_wp2_with fail
    refine (bool_cas_up b _ HK.out).mono ?_
    rintro e w' ⟨rfl, rfl⟩
    go_wp2_with fail
    go_ret
    exact ⟨rfl, HK.out.drew, (Touch.refl (fun k => k = b) w).drew⟩

/-- What a budget of n begins with. -/
def begins (n : Int) : Int := min (max n 0) most

/-- 'NewBudget'. -/
theorem new_budget (n : Int) (w : World) :
    Calls Try.prog 8 #[.int .i64 n] w fun e w' => e = .returned (.pointer (some ⟨w.heap.size, 0, none⟩)) ∧ Num w.heap.size (begins n) (some (.int .i64 (begins n))) w' ∧ Touch (fun _ => False) w w' := by
  have K : Num w.heap.size 0 (some (.int .i64 (begins n))) (w.alloc (.cells #[.int .i64 0, .int .i64 (begins n)] 52)) :=
    ⟨by rw [World.cell_new]; rfl, by rw [World.cell_new]; rfl, World.frozen_new _ _ _ _⟩
  have hd := K.d
  have HK := Lib.hid K.drew
  have hT : Hid (Touch (fun _ => False) w (w.alloc (.cells #[.int .i64 0, .int .i64 (begins n)] 52)).drew) := ((Touch.refl _ _).alloc _).drew
  have hb : min (max n 0) 4611686018427387904 = begins n := rfl
  have K2 : Num w.heap.size (begins n) (some (.int .i64 (begins n))) (w.alloc (.cells #[.int .i64 (begins n), .int .i64 (begins n)] 52)) :=
    ⟨by rw [World.cell_new]; rfl, by rw [World.cell_new]; rfl, World.frozen_new _ _ _ _⟩
  have H2 := Lib.hid K2.drew
  have hT2 : Hid (Touch (fun _ => False) w (w.alloc (.cells #[.int .i64 (begins n), .int .i64 (begins n)] 52)).drew) := ((Touch.refl _ _).alloc _).drew
  clear K K2
  go_enter Try.func8, Try.ntmps8
  go_wp2_with fail
  go_region_held3 (fun w' => w'.cell? ⟨w.heap.size, 1, none⟩ = some (.int .i64 (begins n))) (first | exact hd | exact H2.out.d)
    (first | (go_at_call 20; refine (int_store w.heap.size 0 (begins n) _ _ HK.out).mono ?_; rintro e w7 ⟨rfl, rfl⟩))
  go_wp2_with fail
  go_ret
  exact ⟨rfl, H2.out, hT2.out⟩
end Go.Proofs.Ytmgobnbpmjcicaa
