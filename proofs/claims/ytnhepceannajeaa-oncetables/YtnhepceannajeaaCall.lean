/- Contracts of once.call, (*Cell).fill, (*sync.Once).doSlow and Do, (*Cell).Get: over whatever the function of the cell does. -/
import Derived.Test.YtnhepceannajeaaLeaf
import Derived.Lib.Hide
namespace Go.Proofs.Ytnhepceannajeaa
open Go.RowKit Go.MuLone Go.Conc.Locks

/-- What a make does: it answers an integer v and leaves a world of which R speaks. -/
def Answers (R : Int → World → Prop) (e : Ending) (w' : World) : Prop := ∃ v : Int, e = .returned (.int .i64 v) ∧ R v w'

theorem eql_func_nil (f : Fn) (a c : Array Value) (w : World) : (binOp .eql 28 (.func f a c) .nilFunc).run Try.prog w = .ok (.bool false) w := by kernel_rfl
theorem eql_nil_nil (w : World) : (binOp .eql 28 .nilFunc .nilFunc).run Try.prog w = .ok (.bool true) w := by kernel_rfl
theorem make_func (fn : Fn) (first cap : Array Value) (w : World) : (Instr.makeFunc fn first cap).run Try.prog w = .ok (.func fn first cap) w := rfl
theorem enters35 (args : Array Value) (w : World) : (callFunc 35 args).run Try.prog w = .ok (.enter 35 args) w := run_callFunc_enter Try.func35 (by kernel_rfl) rfl args w

theorem call_mk (k : FuncId) (cap : Array Value) (w : World) (R : Int → World → Prop)
    (hk : ∀ args w, (callFunc k args).run Try.prog w = .ok (.enter k args) w)
    (h : Calls Try.prog k cap w (Answers R)) :
    Calls Try.prog 42 #[.func (.func k) #[] cap] w (Answers R) := by
  have H := Lib.hid h
  clear h
  have he := eql_func_nil
  go_enter_defers Try.func42, Try.ntmps42
  go_wp2_with fail
  refine H.out.mono ?_
  rintro e w' ⟨v, rfl, hR⟩
  have HR := Lib.hid hR
  clear hR
  go_wp2_with fail
  refine leaves_cons (f := 55) (args := #[]) (by simp) (by simp [go_sem]) ?_
  refine (catch_idle _).mono ?_
  rintro e u' w'' ⟨rfl, rfl, rfl⟩
  exact ⟨_, results_tmp rfl _ _ _, v, rfl, HR.out⟩

theorem call_nil (w : World) : Calls Try.prog 42 #[.nilFunc] w (fun e w' => e = .returned (.int .i64 0) ∧ w = w') := by
  have he := eql_nil_nil
  go_enter_defers Try.func42, Try.ntmps42
  go_wp2_with fail
  exact ⟨_, results_tmp rfl _ _ _, rfl, rfl⟩

/-- What a make must leave of its own cell b: not done, the lock held, the value's and the flag's places there, nothing frozen. -/
structure Keeps (b : Nat) (w : World) : Prop where
  c0 : w.cell? ⟨b, 0, none⟩ = some (.int .u32 0)
  c1 : w.cell? ⟨b, 1, none⟩ = some (.int .i32 1)
  c4 : ∃ x, w.cell? ⟨b, 4, none⟩ = some x
  c5 : ∃ x, w.cell? ⟨b, 5, none⟩ = some x
  fz : ∀ o, w.frozen? ⟨b, o, none⟩ = false

def Filled (b : Nat) (R : Int → World → Prop) (e : Ending) (w' : World) : Prop :=
  ∃ v w1, R v w1 ∧ e = .returned (.tuple #[]) ∧ w' = w1.setCell ⟨b, 4, none⟩ (.int .i64 v)

theorem fill_mk (b : Nat) (mk : Value) (w : World) (R : Int → World → Prop)
    (c3 : w.cell? ⟨b, 3, none⟩ = some mk) (f3 : w.frozen? ⟨b, 3, none⟩ = false)
    (h : Calls Try.prog 42 #[mk] (w.setCell ⟨b, 3, none⟩ .nilFunc) (Answers R)) (hR : ∀ v w', R v w' → Keeps b w') :
    Calls Try.prog 35 #[.pointer (some ⟨b, 0, none⟩)] w (Filled b R) := by
  have H := Lib.hid h
  have HR := Lib.hid hR
  clear h hR
  go_enter Try.func35, Try.ntmps35
  go_wp2_with fail
  refine H.out.mono ?_
  rintro e w' ⟨v, rfl, hR⟩
  have Hv := Lib.hid hR
  have K := HR.out _ _ hR
  obtain ⟨x4, c4⟩ := K.c4
  have f4 := K.fz 4
  clear hR K
  go_wp2_with fail
  go_end0
  exact ⟨v, w', Hv.out, rfl, rfl⟩

def Slowed (b : Nat) (R : Int → World → Prop) (e : Ending) (w' : World) : Prop :=
  ∃ v w1, R v w1 ∧ e = .returned (.tuple #[]) ∧ w' = (((w1.setCell ⟨b, 4, none⟩ (.int .i64 v)).setCell ⟨b, 0, none⟩ (.int .u32 1)).drew).setCell ⟨b, 1, none⟩ (.int .i32 0)

theorem cell_ne {b o o' : Nat} (w : World) (v : Value) (h : ¬ o = o') : (w.setCell ⟨b, o, none⟩ v).cell? ⟨b, o', none⟩ = w.cell? ⟨b, o', none⟩ :=
  World.cell?_setCell_other w ⟨b, o, none⟩ ⟨b, o', none⟩ v (fun e => h (congrArg Addr.off e))

set_option maxHeartbeats 800000 in
theorem slow_mk (b : Nat) (mk : Value) (w : World) (R : Int → World → Prop)
    (c0 : w.cell? ⟨b, 0, none⟩ = some (.int .u32 0)) (c1 : w.cell? ⟨b, 1, none⟩ = some (.int .i32 0))
    (c3 : w.cell? ⟨b, 3, none⟩ = some mk) (fz : ∀ o, w.frozen? ⟨b, o, none⟩ = false)
    (h : Calls Try.prog 42 #[mk] ((w.setCell ⟨b, 1, none⟩ (.int .i32 1)).setCell ⟨b, 3, none⟩ .nilFunc) (Answers R)) (hR : ∀ v w', R v w' → Keeps b w') :
    Calls Try.prog 41 #[.pointer (some ⟨b, 0, none⟩), .func (.func 35) #[.pointer (some ⟨b, 0, none⟩)] #[]] w (Slowed b R) := by
  have H := Lib.hid h
  have HR := Lib.hid hR
  have HF := Lib.hid fz
  clear h hR fz
  have h35 := enters35
  have hn := hnot
  go_enter_defers Try.func41, Try.ntmps41
  go_wp2_with fail
  refine (lock_free muLib ⟨b, 1, none⟩ _ c1 (HF.out 1)).mono ?_
  rintro e w' ⟨rfl, rfl⟩
  go_wp2_with fail
  refine (load_down ⟨b, 0, none⟩ _ ((cell_ne w _ (by omega)).trans c0)).mono ?_
  rintro e w' ⟨rfl, rfl⟩
  go_wp2_with fail
  refine (fill_mk b mk _ R ((cell_ne w _ (by omega)).trans c3) (by simp [HF.out 3]) H.out HR.out).mono ?_
  rintro e w' ⟨v, w1, hR, rfl, rfl⟩
  have K := HR.out _ _ hR
  go_wp2_with fail
  refine leaves_cons (f := 36) (args := #[.pointer (some ⟨b, 0, none⟩), .bool true]) (by simp) (by simp [go_sem]) ?_
  refine (store_up_deferred ⟨b, 0, none⟩ (.int .u32 0) .returning _ ((cell_ne w1 _ (by omega)).trans K.c0) (by simp [K.fz 0])).mono ?_
  rintro e u' w'' ⟨rfl, rfl, rfl⟩
  refine leaves_cons (f := 33) (args := #[.pointer (some ⟨b, 1, none⟩)]) (by simp [settle]) (by simp [go_sem]) ?_
  refine (unlock_deferred muLib ⟨b, 1, none⟩ _ _ ?_ (by simp [K.fz 1])).mono ?_
  · rw [World.cell?_drew]
    exact (cell_ne _ _ (by omega)).trans ((cell_ne w1 _ (by omega)).trans K.c1)
  rintro e u' w'' ⟨rfl, rfl, rfl⟩
  simp only [Leaves, settle]
  exact ⟨_, results_none rfl _ _ _, v, w1, hR, rfl, rfl⟩

/-- '(*sync.Once).Do', the first time. -/
theorem do_mk (b : Nat) (mk : Value) (w : World) (R : Int → World → Prop)
    (c0 : w.cell? ⟨b, 0, none⟩ = some (.int .u32 0)) (c1 : w.cell? ⟨b, 1, none⟩ = some (.int .i32 0))
    (c3 : w.cell? ⟨b, 3, none⟩ = some mk) (fz : ∀ o, w.frozen? ⟨b, o, none⟩ = false)
    (h : Calls Try.prog 42 #[mk] ((w.setCell ⟨b, 1, none⟩ (.int .i32 1)).setCell ⟨b, 3, none⟩ .nilFunc) (Answers R)) (hR : ∀ v w', R v w' → Keeps b w') :
    Calls Try.prog 34 #[.pointer (some ⟨b, 0, none⟩), .func (.func 35) #[.pointer (some ⟨b, 0, none⟩)] #[]] w (Slowed b R) := by
  have H := Lib.hid h
  have HR := Lib.hid hR
  have HF := Lib.hid fz
  have C1 := Lib.hid c1
  have C3 := Lib.hid c3
  clear h hR fz c1 c3
  have hn := hnot
  go_enter Try.func34, Try.ntmps34
  go_wp2_with fail
  refine (load_down ⟨b, 0, none⟩ _ c0).mono ?_
  rintro e w' ⟨rfl, rfl⟩
  go_wp2_with fail
  refine (slow_mk b mk _ R c0 C1.out C3.out HF.out H.out HR.out).mono ?_
  rintro e w' ⟨v, w1, hR, rfl, hw⟩
  have Hw := Lib.hid hw
  clear hw
  go_wp2_with fail
  go_end0
  exact ⟨v, w1, hR, rfl, Hw.out⟩

/-- '(*sync.Once).Do', done already. -/
theorem do_done (b : Nat) (fv : Value) (w : World) (c0 : w.cell? ⟨b, 0, none⟩ = some (.int .u32 1)) :
    Calls Try.prog 34 #[.pointer (some ⟨b, 0, none⟩), fv] w fun e w' => e = .returned (.tuple #[]) ∧ w = w' := by
  have hn := hnot
  go_enter Try.func34, Try.ntmps34
  go_wp2_with fail
  refine (load_up ⟨b, 0, none⟩ _ c0).mono ?_
  rintro e w' ⟨rfl, rfl⟩
  go_wp2_with fail
  go_end0
  exact ⟨rfl, rfl⟩

/-- The world behind a cell's first Get, out of the world that its make left. -/
def doneBy (b : Nat) (v : Int) (w : World) : World :=
  (((((w.setCell ⟨b, 4, none⟩ (.int .i64 v)).setCell ⟨b, 0, none⟩ (.int .u32 1)).drew).setCell ⟨b, 1, none⟩ (.int .i32 0)).setCell ⟨b, 5, none⟩ (.int .u32 1)).drew

def Got (b : Nat) (R : Int → World → Prop) (e : Ending) (w' : World) : Prop :=
  ∃ v w1, R v w1 ∧ e = .returned (.int .i64 v) ∧ w' = doneBy b v w1

/-- '(*Cell).Get', the first one. -/
theorem get_first (b : Nat) (mk : Value) (w : World) (R : Int → World → Prop)
    (c0 : w.cell? ⟨b, 0, none⟩ = some (.int .u32 0)) (c1 : w.cell? ⟨b, 1, none⟩ = some (.int .i32 0))
    (c3 : w.cell? ⟨b, 3, none⟩ = some mk) (fz : ∀ o, w.frozen? ⟨b, o, none⟩ = false)
    (h : Calls Try.prog 42 #[mk] ((w.setCell ⟨b, 1, none⟩ (.int .i32 1)).setCell ⟨b, 3, none⟩ .nilFunc) (Answers R)) (hR : ∀ v w', R v w' → Keeps b w') :
    Calls Try.prog 19 #[.pointer (some ⟨b, 0, none⟩)] w (Got b R) := by
  have H := Lib.hid h
  have HR := Lib.hid hR
  have HF := Lib.hid fz
  have C1 := Lib.hid c1
  have C3 := Lib.hid c3
  clear h hR fz c1 c3
  have hm := make_func
  go_enter Try.func19, Try.ntmps19
  go_wp2_with fail
  refine (do_mk b mk _ R c0 C1.out C3.out HF.out H.out HR.out).mono ?_
  rintro e w' ⟨v, w1, hR, rfl, rfl⟩
  have K := HR.out _ _ hR
  obtain ⟨x4, c4⟩ := K.c4
  obtain ⟨x5, c5⟩ := K.c5
  have e5 : ((((w1.setCell ⟨b, 4, none⟩ (.int .i64 v)).setCell ⟨b, 0, none⟩ (.int .u32 1)).drew).setCell ⟨b, 1, none⟩ (.int .i32 0)).cell? ⟨b, 5, none⟩ = some x5 := by
    rw [cell_ne _ _ (by omega), World.cell?_drew, cell_ne _ _ (by omega), cell_ne _ _ (by omega)]; exact c5
  have z5 := K.fz 5
  have e4 : (((((w1.setCell ⟨b, 4, none⟩ (.int .i64 v)).setCell ⟨b, 0, none⟩ (.int .u32 1)).drew).setCell ⟨b, 1, none⟩ (.int .i32 0)).setCell ⟨b, 5, none⟩ (.int .u32 1)).drew.cell? ⟨b, 4, none⟩ = some (.int .i64 v) := by
    rw [World.cell?_drew, cell_ne _ _ (by omega), cell_ne _ _ (by omega), World.cell?_drew, cell_ne _ _ (by omega)]
    exact World.cell?_setCell_same _ _ _ c4
  have HRv := Lib.hid hR
  clear hR K c4 c5
  generalize hw2 : ((((w1.setCell ⟨b, 4, none⟩ (.int .i64 v)).setCell ⟨b, 0, none⟩ (.int .u32 1)).drew).setCell ⟨b, 1, none⟩ (.int .i32 0)) = w2 at e4 e5 ⊢
  have z5' : w2.frozen? ⟨b, 5, none⟩ = false := by rw [← hw2]; simp [z5]
  have HW := Lib.hid hw2
  clear hw2 z5
  go_wp2_with fail
  refine (store_up ⟨b, 5, none⟩ x5 _ e5 z5').mono ?_
  rintro e w' ⟨rfl, rfl⟩
  go_wp2_with fail
  go_ret
  exact ⟨v, w1, HRv.out, rfl, by rw [← HW.out]; rfl⟩

/-- '(*Cell).Get', a later one. -/
theorem get_again (b : Nat) (v : Int) (x5 : Value) (w : World)
    (c0 : w.cell? ⟨b, 0, none⟩ = some (.int .u32 1)) (c4 : w.cell? ⟨b, 4, none⟩ = some (.int .i64 v)) (c5 : w.cell? ⟨b, 5, none⟩ = some x5) (f5 : w.frozen? ⟨b, 5, none⟩ = false) :
    Calls Try.prog 19 #[.pointer (some ⟨b, 0, none⟩)] w fun e w' => e = .returned (.int .i64 v) ∧ w' = (w.setCell ⟨b, 5, none⟩ (.int .u32 1)).drew := by
  have hm := make_func
  have e4 : (w.setCell ⟨b, 5, none⟩ (.int .u32 1)).drew.cell? ⟨b, 4, none⟩ = some (.int .i64 v) := by
    rw [World.cell?_drew, cell_ne _ _ (by omega)]; exact c4
  clear c4
  go_enter Try.func19, Try.ntmps19
  go_wp2_with fail
  refine (do_done b _ _ c0).mono ?_
  rintro e w' ⟨rfl, rfl⟩
  go_wp2_with fail
  refine (store_up ⟨b, 5, none⟩ x5 _ c5 f5).mono ?_
  rintro e w' ⟨rfl, rfl⟩
  go_wp2_with fail
  go_ret
  exact ⟨rfl, rfl⟩
end Go.Proofs.Ytnhepceannajeaa
