/- Contracts of package count: a counter that lies in a block, a budget, a flag; lariathand.Pick. -/
import Derived.Test.YtjajenkagcdhlaaGreatOwn
import Derived.Laws.LoneSync
import Derived.Conc.MuLone
import Derived.RegionCalls
import Derived.Lib.MinMax
import Derived.Deep.RegionHeld3
namespace Go.Proofs.YtjajenkagcdhlaaGreat
open Go.RowKit Go.MuLone
set_option maxRecDepth 100000

theorem hnot (x : Bool) (w : World) : (Op.unary .not (.bool x)).run Tryz.prog w = .ok (.bool (!x)) w := rfl
theorem make_func (fn : Fn) (first cap : Array Value) (w : World) : (Instr.makeFunc fn first cap).run Tryz.prog w = .ok (.func fn first cap) w := rfl

/-- The end of all numbers. -/
abbrev most : Int := 4611686018427387904

/-- '(*atomic.Int64).Load'. -/
theorem int_load (b o : Nat) (x : Int) (w : World) (hc : w.cell? ⟨b, o, none⟩ = some (.int .i64 x)) :
    Calls Tryz.prog 88 #[.pointer (some ⟨b, o, none⟩)] w fun e w' => e = .returned (.int .i64 x) ∧ w = w' := by
  have hl := run_call_load (P := Tryz.prog) Tryz.func106 (by kernel_rfl) (by kernel_rfl) (by kernel_rfl) .i64 (by kernel_rfl) hc
  go_enter Tryz.func88, Tryz.ntmps88
  go_wp2
  go_ret
  exact ⟨rfl, rfl⟩

/-- '(*atomic.Int64).CompareAndSwap', where it holds the old one. -/
theorem int_cas (b o : Nat) (x z : Int) (w : World) (hc : w.cell? ⟨b, o, none⟩ = some (.int .i64 x)) (hf : w.frozen? ⟨b, o, none⟩ = false) :
    Calls Tryz.prog 95 #[.pointer (some ⟨b, o, none⟩), .int .i64 x, .int .i64 z] w fun e w' => e = .returned (.bool true) ∧ w' = w.setCell ⟨b, o, none⟩ (.int .i64 z) := by
  have hl := run_call_cas_hit (P := Tryz.prog) Tryz.func109 (by kernel_rfl) (by kernel_rfl) (by kernel_rfl) .i64 (by kernel_rfl) (y := z) hc hf
  go_enter Tryz.func95, Tryz.ntmps95
  go_wp2
  go_ret
  exact ⟨rfl, rfl⟩

/-- '(*atomic.Int64).Store'. -/
theorem int_store (b o : Nat) (x z : Int) (w : World) (hc : w.cell? ⟨b, o, none⟩ = some (.int .i64 x)) (hf : w.frozen? ⟨b, o, none⟩ = false) :
    Calls Tryz.prog 83 #[.pointer (some ⟨b, o, none⟩), .int .i64 z] w fun e w' => e = .returned (.tuple #[]) ∧ w' = w.setCell ⟨b, o, none⟩ (.int .i64 z) := by
  have hl := run_call_store (P := Tryz.prog) Tryz.func102 (by kernel_rfl) (by kernel_rfl) (by kernel_rfl) (by kernel_rfl) (k := .i64) (y := z) hc hf
  go_enter Tryz.func83, Tryz.ntmps83
  go_wp2
  go_end0
  exact ⟨rfl, rfl⟩

/-- A flag as a number. -/
def bit (x : Bool) : Int := if x then 1 else 0

/-- '(*atomic.Bool).Load'. -/
theorem bool_load (b : Nat) (x : Bool) (w : World) (hc : w.cell? ⟨b, 0, none⟩ = some (.int .u32 (bit x))) :
    Calls Tryz.prog 84 #[.pointer (some ⟨b, 0, none⟩)] w fun e w' => e = .returned (.bool x) ∧ w = w' := by
  have hl := run_call_load (P := Tryz.prog) Tryz.func103 (by kernel_rfl) (by kernel_rfl) (by kernel_rfl) .u32 (by kernel_rfl) hc
  clear hc
  cases x
  all_goals
    simp only [bit] at hl
    go_enter Tryz.func84, Tryz.ntmps84
    go_wp2
    go_ret
    exact ⟨rfl, rfl⟩

theorem pick_any (n m : Int) (hm0 : 0 < m) (hm1 : m ≤ 1000) (w : World) : Calls Tryz.prog 11 #[.int .i64 n, .int .i64 m] w fun e w' => ∃ k : Nat, (k : Int) < m ∧ e = .returned (.int .i64 k) ∧ w = w' := by
  have h1 : n.tmod m < m := Int.tmod_lt_of_pos n hm0
  have h2 : -m < n.tmod m := by
    have := Int.tmod_lt_of_pos (-n) hm0
    rw [Int.neg_tmod] at this
    omega
  have hz : ¬ m = 0 := by omega
  by_cases hneg : n.tmod m < 0
  · go_enter Tryz.func11, Tryz.ntmps11
    go_wp2
    go_ret
    exact ⟨(n.tmod m + m).toNat, by omega, by rw [Int.toNat_of_nonneg (by omega)]; rfl, rfl⟩
  · go_enter Tryz.func11, Tryz.ntmps11
    go_wp2
    go_ret
    exact ⟨(n.tmod m).toNat, by omega, by rw [Int.toNat_of_nonneg (by omega)]; rfl, rfl⟩

/-- 'raised' of a number that is not beyond its limit. -/
theorem raised_any (x n m : Int) (h0 : 0 ≤ x) (h1 : x ≤ m) (h2 : m ≤ 4611686018427387904) (w : World) :
    Calls Tryz.prog 67 #[.int .i64 x, .int .i64 n, .int .i64 m] w fun e w' => e = .returned (.int .i64 (x + min (max n 0) (m - x))) ∧ w = w' := by
  have hs : IntKind.i64.wrap (m - x) = m - x := wrap_fits ⟨by omega, by omega⟩
  have ht : IntKind.i64.wrap (x + min (max n 0) (m - x)) = x + min (max n 0) (m - x) := wrap_fits ⟨by omega, by omega⟩
  go_enter Tryz.func67, Tryz.ntmps67
  go_wp2
  go_ret
  exact ⟨rfl, rfl⟩

theorem enters105 (args : Array Value) (w : World) : (callFunc 105 args).run Tryz.prog w = .ok (.enter 105 args) w := run_callFunc_enter Tryz.func105 (by kernel_rfl) rfl args w
theorem enters82 (args : Array Value) (w : World) : (callFunc 82 args).run Tryz.prog w = .ok (.enter 82 args) w := run_callFunc_enter Tryz.func82 (by kernel_rfl) rfl args w

/-- What a function that is handed to turn does: it answers z, and nothing that was there turns. -/
def Tells (z : Int) (w : World) (e : Ending) (w' : World) : Prop := e = .returned (.int .i64 z) ∧ Old w w'

/-- What turn does: it tells both, and the number is z. -/
def Turned (b o : Nat) (t : TypeId) (cs : List Value) (x z : Int) (w : World) (e : Ending) (w' : World) : Prop :=
  e = .returned (.tuple #[.int .i64 x, .int .i64 z]) ∧ Blk w' b t (cs.set o (.int .i64 z)) ∧ Touch (fun k => k = b) w w'

theorem set_same {cs : List Value} {o : Nat} {v : Value} (h : cs[o]? = some v) : cs.set o v = cs := by
  obtain ⟨hl, rfl⟩ := List.getElem?_eq_some_iff.1 h
  exact List.set_getElem_self hl

theorem turn_one (b o : Nat) (t : TypeId) (cs : List Value) (k : FuncId) (p : Value) (x z : Int) (w : World)
    (hk : ∀ args w, (callFunc k args).run Tryz.prog w = .ok (.enter k args) w) (K : Blk w b t cs) (hx : cs[o]? = some (.int .i64 x))
    (h : Calls Tryz.prog k #[.int .i64 x, p] w (Tells z w)) :
    Calls Tryz.prog 65 #[.pointer (some ⟨b, o, none⟩), .func (.func k) #[] #[p]] w (Turned b o t cs x z w) := by
  have H := Lib.hid h
  have HK := Lib.hid K
  have Hx := Lib.hid hx
  clear h K hx
  go_enter Tryz.func65, Tryz.ntmps65
  go_wp2_with fail
  go_loopw [4, 5] (fun a c wx => a = .int .i64 0 ∧ c = .int .i64 0 ∧ wx = w) (fun _ _ _ => 0)
  case atStart => exact ⟨rfl, rfl, rfl⟩
  case round =>
    obtain ⟨rfl, rfl, rfl⟩ := hrel
    go_wp2_with fail
    refine (int_load b o x _ ((HK.out.cell o).trans Hx.out)).mono ?_
    rintro e w' ⟨rfl, rfl⟩
    go_wp2_with fail
    refine H.out.mono ?_
    rintro e w1 ⟨rfl, T1⟩
    have K1 := Lib.hid (HK.out.touch T1 (fun h => h))
    have HT := Lib.hid T1
    clear T1
    by_cases hz : z = x
    · go_wp2_with fail
      go_ret2
      subst hz
      exact ⟨rfl, by rw [set_same Hx.out]; exact K1.out, Touch.of_old HT.out⟩
    · go_wp2_with fail
      refine (int_cas b o x z _ ((K1.out.cell o).trans Hx.out) (K1.out.frozen o)).mono ?_
      rintro e w' ⟨rfl, rfl⟩
      go_wp2_with fail
      go_ret2
      exact ⟨rfl, K1.out.set o _, (Touch.of_old HT.out).trans (Touch.one ⟨b, o, none⟩ _)⟩

/-- The function that Add hands over. -/
theorem add_fn (c : Nat) (x n : Int) (h0 : 0 ≤ x) (h1 : x ≤ 4611686018427387904) (w : World) (V : Var c (.int .i64 n) w) :
    Calls Tryz.prog 105 #[.int .i64 x, .pointer (some ⟨c, 0, none⟩)] w (Tells (x + min (max n 0) (4611686018427387904 - x)) w) := by
  have hc := V.c
  clear V
  have H0 := Lib.hid h0
  have H1 := Lib.hid h1
  clear h0 h1
  go_enter Tryz.func105, Tryz.ntmps105
  go_wp2_with fail
  refine (raised_any x n 4611686018427387904 H0.out H1.out (by omega) _).mono ?_
  rintro e w' ⟨rfl, rfl⟩
  go_wp2_with fail
  go_ret
  exact ⟨rfl, Touch.refl _ _⟩

/-- The function that Take hands over. -/
theorem take_fn (c : Nat) (x n : Int) (h0 : 0 ≤ x) (h1 : x ≤ 4611686018427387904) (hn : 0 ≤ n) (w : World) (V : Var c (.int .i64 n) w) :
    Calls Tryz.prog 82 #[.int .i64 x, .pointer (some ⟨c, 0, none⟩)] w (Tells (if n ≤ x then x - n else x) w) := by
  have hc := V.c
  clear V
  by_cases h : n ≤ x
  · have hs : IntKind.i64.wrap (x - n) = x - n := wrap_fits ⟨by omega, by omega⟩
    rw [if_pos h]
    go_enter Tryz.func82, Tryz.ntmps82
    go_wp2_with fail
    go_ret
    exact ⟨rfl, Touch.refl _ _⟩
  · rw [if_neg h]
    go_enter Tryz.func82, Tryz.ntmps82
    go_wp2_with fail
    go_ret
    exact ⟨rfl, Touch.refl _ _⟩

/-- A method's answer v, the number behind it. -/
def Did (b o : Nat) (t : TypeId) (cs : List Value) (z : Int) (v : Value) (w : World) (e : Ending) (w' : World) : Prop :=
  e = .returned v ∧ Blk w' b t (cs.set o (.int .i64 z)) ∧ Touch (fun k => k = b) w w'

/-- '(*Counter).Add(1)', below the end. -/
theorem add_one (b o : Nat) (t : TypeId) (cs : List Value) (x : Int) (h0 : 0 ≤ x) (h1 : x < most) (w : World) (K : Blk w b t cs) (hx : cs[o]? = some (.int .i64 x)) :
    Calls Tryz.prog 87 #[.pointer (some ⟨b, o, none⟩), .int .i64 1] w (Did b o t cs (x + 1) (.int .i64 (x + 1)) w) := by
  have hm := make_func
  have T1 : Old w (w.alloc (.cells #[.int .i64 1] 3)) := (Touch.refl _ _).alloc _
  have K1 := Lib.hid (K.touch T1 (fun h => h))
  have V1 := Lib.hid (Var.new w (.int .i64 1) 3)
  have Hx := Lib.hid hx
  have hf : Hid (Calls Tryz.prog 105 #[.int .i64 x, .pointer (some ⟨w.heap.size, 0, none⟩)] (w.alloc (.cells #[.int .i64 1] 3)) (Tells (x + 1) (w.alloc (.cells #[.int .i64 1] 3)))) := by
    have := add_fn w.heap.size x 1 h0 (by unfold most at h1; omega) _ V1.out
    rwa [show x + min (max 1 0) (4611686018427387904 - x) = x + 1 by unfold most at h1; omega] at this
  have HT := Lib.hid (Touch.of_old (S := fun k => k = b) T1)
  clear K h0 h1 hx T1
  go_enter Tryz.func87, Tryz.ntmps87
  go_wp2_with fail
  refine (turn_one b o t cs 105 _ x (x + 1) _ enters105 K1.out Hx.out hf.out).mono ?_
  rintro e w' ⟨rfl, K2, T2⟩
  have K3 := Lib.hid K2
  have T3 := Lib.hid (HT.out.trans T2)
  clear K2 T2
  go_wp2_with fail
  go_ret
  exact ⟨rfl, K3.out, T3.out⟩

/-- '(*Budget).Take(1)', where there is one. -/
theorem take_yes (b : Nat) (t : TypeId) (cs : List Value) (x : Int) (h0 : 1 ≤ x) (h1 : x ≤ most) (w : World) (K : Blk w b t cs) (hx : cs[0]? = some (.int .i64 x)) :
    Calls Tryz.prog 54 #[.pointer (some ⟨b, 0, none⟩), .int .i64 1] w (Did b 0 t cs (x - 1) (.bool true) w) := by
  have hm := make_func
  have T1 : Old w (w.alloc (.cells #[.int .i64 1] 2)) := (Touch.refl _ _).alloc _
  have K1 := Lib.hid (K.touch T1 (fun h => h))
  have V1 := Lib.hid (Var.new w (.int .i64 1) 2)
  have Hx := Lib.hid hx
  have hf : Hid (Calls Tryz.prog 82 #[.int .i64 x, .pointer (some ⟨w.heap.size, 0, none⟩)] (w.alloc (.cells #[.int .i64 1] 2)) (Tells (x - 1) (w.alloc (.cells #[.int .i64 1] 2)))) := by
    have := take_fn w.heap.size x 1 (by omega) (by unfold most at h1; omega) (by omega) _ V1.out
    rwa [if_pos h0] at this
  have HT := Lib.hid (Touch.of_old (S := fun k => k = b) T1)
  have hlt := Lib.hid K.lt
  have hx2 : x ≤ 4611686018427387904 := h1
  have hw : IntKind.i64.wrap (x - (x - 1)) = 1 := by rw [show x - (x - 1) = 1 from by omega]; exact wrap_fits ⟨by omega, by omega⟩
  clear K h0 h1 hx T1 hx2
  go_enter Tryz.func54, Tryz.ntmps54
  go_wp2_with fail
  refine (turn_one b 0 t cs 82 _ x (x - 1) _ enters82 K1.out Hx.out hf.out).mono ?_
  rintro e w' ⟨rfl, K2, T2⟩
  have hc := (V1.out.touch T2 (by have := hlt.out; omega)).c
  have K3 := Lib.hid K2
  have T3 := Lib.hid (HT.out.trans T2)
  clear K2 T2
  go_wp2_with fail
  go_ret
  exact ⟨rfl, K3.out, T3.out⟩

/-- '(*Budget).Take(1)', where there is none left. -/
theorem take_no (b : Nat) (t : TypeId) (cs : List Value) (w : World) (K : Blk w b t cs) (hx : cs[0]? = some (.int .i64 0)) :
    Calls Tryz.prog 54 #[.pointer (some ⟨b, 0, none⟩), .int .i64 1] w (Did b 0 t cs 0 (.bool false) w) := by
  have hm := make_func
  have T1 : Old w (w.alloc (.cells #[.int .i64 1] 2)) := (Touch.refl _ _).alloc _
  have K1 := Lib.hid (K.touch T1 (fun h => h))
  have V1 := Lib.hid (Var.new w (.int .i64 1) 2)
  have Hx := Lib.hid hx
  have hf : Hid (Calls Tryz.prog 82 #[.int .i64 0, .pointer (some ⟨w.heap.size, 0, none⟩)] (w.alloc (.cells #[.int .i64 1] 2)) (Tells 0 (w.alloc (.cells #[.int .i64 1] 2)))) := by
    have := take_fn w.heap.size 0 1 (by omega) (by omega) (by omega) _ V1.out
    rwa [if_neg (by omega)] at this
  have HT := Lib.hid (Touch.of_old (S := fun k => k = b) T1)
  have hlt := Lib.hid K.lt
  clear K hx T1
  go_enter Tryz.func54, Tryz.ntmps54
  go_wp2_with fail
  refine (turn_one b 0 t cs 82 _ 0 0 _ enters82 K1.out Hx.out hf.out).mono ?_
  rintro e w' ⟨rfl, K2, T2⟩
  have hc := (V1.out.touch T2 (by have := hlt.out; omega)).c
  have K3 := Lib.hid K2
  have T3 := Lib.hid (HT.out.trans T2)
  clear K2 T2
  go_wp2_with fail
  go_ret
  exact ⟨rfl, K3.out, T3.out⟩

/-- '(*Flag).Raised'. -/
theorem flag_raised (b : Nat) (x : Bool) (w : World) (hc : w.cell? ⟨b, 0, none⟩ = some (.int .u32 (bit x))) :
    Calls Tryz.prog 56 #[.pointer (some ⟨b, 0, none⟩)] w fun e w' => e = .returned (.bool x) ∧ w = w' := by
  have HK := Lib.hid hc
  clear hc
  go_enter Tryz.func56, Tryz.ntmps56
  go_wp2_with fail
  refine (bool_load b x _ HK.out).mono ?_
  rintro e w' ⟨rfl, rfl⟩
  go_wp2_with fail
  go_ret
  exact ⟨rfl, rfl⟩

theorem b32_any (x : Bool) (w : World) : Calls Tryz.prog 114 #[.bool x] w fun e w' => e = .returned (.int .u32 (bit x)) ∧ w = w' := by
  cases x
  all_goals
    go_enter Tryz.func114, Tryz.ntmps114
    go_wp2
    go_ret
    exact ⟨rfl, rfl⟩

theorem bool_cas_down (b : Nat) (w : World) (hc : w.cell? ⟨b, 0, none⟩ = some (.int .u32 0)) (hz : w.frozen? ⟨b, 0, none⟩ = false) :
    Calls Tryz.prog 104 #[.pointer (some ⟨b, 0, none⟩), .bool false, .bool true] w fun e w' => e = .returned (.bool true) ∧ w' = w.drew.setCell ⟨b, 0, none⟩ (.int .u32 1) := by
  have hc' : w.drew.cell? ⟨b, 0, none⟩ = some (.int .u32 0) := hc
  have hz' : w.drew.frozen? ⟨b, 0, none⟩ = false := hz
  have hl := run_call_cas_hit (P := Tryz.prog) Tryz.func113 (by kernel_rfl) (by kernel_rfl) (by kernel_rfl) .u32 (by kernel_rfl) (y := 1) hc' hz'
  clear hc hz
  go_enter Tryz.func104, Tryz.ntmps104
  go_wp2_with fail
  go_region_calls
  all_goals (go_wp2_with fail; go_ret; exact ⟨rfl, rfl⟩)

/-- '(*Flag).Raise' of one that is not raised. -/
theorem raise_down (b : Nat) (t : TypeId) (w : World) (K : Blk w b t [.int .u32 (bit false)]) :
    Calls Tryz.prog 86 #[.pointer (some ⟨b, 0, none⟩)] w fun e w' => e = .returned (.bool true) ∧ Blk w' b t [.int .u32 (bit true)] ∧ Touch (fun k => k = b) w w' := by
  have HK := Lib.hid K
  have hc := Lib.hid (K.cell 0)
  have hf := Lib.hid (K.frozen 0)
  clear K
  go_enter Tryz.func86, Tryz.ntmps86
  go_wp2_with fail
  refine (bool_cas_down b _ hc.out hf.out).mono ?_
  rintro e w' ⟨rfl, rfl⟩
  go_wp2_with fail
  go_ret
  exact ⟨rfl, Blk.set (w := w.drew) HK.out 0 _, (Touch.refl (fun k => k = b) w).drew.setCell (p := ⟨b, 0, none⟩) (Or.inl rfl) _⟩

/-- 'NewBudget' of a number in its bounds. -/
theorem new_budget (n : Nat) (hn : (n : Int) ≤ most) (w : World) :
    Calls Tryz.prog 55 #[.int .i64 n] w fun e w' => e = .returned (.pointer (some ⟨w.heap.size, 0, none⟩)) ∧ Blk w' w.heap.size 120 [.int .i64 n, .int .i64 n] ∧ Old w w' := by
  have hn' : (n : Int) ≤ 4611686018427387904 := hn
  have K := Blk.new w 120 [.int .i64 0, .int .i64 n]
  have hd : (w.alloc (.cells #[.int .i64 0, .int .i64 n] 120)).cell? ⟨w.heap.size, 1, none⟩ = some (.int .i64 n) := K.cell 1
  have HK0 : Hid ((w.alloc (.cells #[.int .i64 0, .int .i64 n] 120)).drew.cell? ⟨w.heap.size, 0, none⟩ = some (.int .i64 0)) := K.cell 0
  have HF0 : Hid ((w.alloc (.cells #[.int .i64 0, .int .i64 n] 120)).drew.frozen? ⟨w.heap.size, 0, none⟩ = false) := K.frozen 0
  have K2 := Blk.new w 120 [.int .i64 n, .int .i64 n]
  have hd2 : Hid ((w.alloc (.cells #[.int .i64 n, .int .i64 n] 120)).drew.cell? ⟨w.heap.size, 1, none⟩ = some (.int .i64 n)) := K2.cell 1
  have H2 : Hid (Blk (w.alloc (.cells #[.int .i64 n, .int .i64 n] 120)).drew w.heap.size 120 [.int .i64 n, .int .i64 n]) := K2
  have hT2 : Hid (Old w (w.alloc (.cells #[.int .i64 n, .int .i64 n] 120)).drew) := ((Touch.refl _ _).alloc _).drew
  have hb : min (max (n : Int) 0) 4611686018427387904 = (n : Int) := by omega
  have hb2 : min (n : Int) 4611686018427387904 = (n : Int) := by omega
  clear K K2 hn hn'
  go_enter Tryz.func55, Tryz.ntmps55
  go_wp2_with fail
  go_region_held3 (fun w' => w'.cell? ⟨w.heap.size, 1, none⟩ = some (.int .i64 n)) (first | exact hd | exact hd2.out)
    (first | (go_at_call 83; refine (int_store w.heap.size 0 0 n _ HK0.out HF0.out).mono ?_; rintro e w7 ⟨rfl, rfl⟩))
  go_wp2_with fail
  go_ret
  exact ⟨rfl, H2.out, hT2.out⟩
end Go.Proofs.YtjajenkagcdhlaaGreat
