/- The contract of lex.token. -/
import Derived.Test.YtdfodmnjgpgojaaDoorCln
import Derived.Test.YtdfodmnjgpgojaaDoorOwn
namespace Go.Proofs.YtdfodmnjgpgojaaDoor
open Go.RowKit Go.PlainAid
set_option maxRecDepth 100000

theorem results_cell {fn : Func} {p : Tmp} {ty : TypeId} (h : fn.results = #[.cell p ty]) (tmps : Array Value) (P : Program) (w : World) :
    (results fn tmps).run P w = ((asAddr (tmps.getD p undef)).run P w).andThen fun a w₁ => (loadVar ty a).run P w₁ := by
  simp only [results, h]
  simp [Sem.run_bind, Result.andThen]
theorem Blk.range {w : World} {g : Nat} {t : TypeId} {cs : List Value} (h : Blk w g t cs) : w.rangeAt g 0 cs := fun j v hv => by
  rw [Nat.zero_add, h.cell]
  exact hv

set_option maxHeartbeats 3200000 in
theorem token_any (k : Nat) (t : ByteArray) (a : Nat) (hs : t.size ≤ 8) (hd : k = 1 → t.size ≤ 3 ∧ ∀ i, i < t.size → digitB (bt t i) = true) (w : World) :
    Calls Tryd.prog 16 #[.int .i64 (k : Int), .string t, .int .i64 (a : Int)] w fun e w' => e = .returned (.agg #[.int .i64 (k : Int), .string t, .int .i64 (if k = 1 then valN t t.size else 0), .int .i64 (a : Int)]) ∧ Old w w' := by
  by_cases q : k = 1
  · obtain ⟨h3, hdig⟩ := hd q
    subst q
    have HV := Lib.hid (fun w => value_any t hdig h3 w)
    rw [if_pos rfl]
    generalize valN t t.size = v at *
    have HC := Lib.hid (fun w => clone_any t w (by omega))
    clear hd hdig h3
    go_enter Tryd.func16, Tryd.ntmps16
    go_wp2_with (first
      | ((with_reducible refine (HC.out _).mono ?_); rintro e w1 ⟨rfl, hb⟩
         have K0 : Blk w1 w.heap.size 29 [.int .i64 0, .string ⟨#[]⟩, .int .i64 0, .int .i64 0] := (Blk.new w 29 [.int .i64 0, .string ⟨#[]⟩, .int .i64 0, .int .i64 0]).touch (Touch.of_below hb) (fun q => q)
         have HO : Hid (Old w w1) := ((Touch.refl _ w).alloc _).trans (Touch.of_below hb)
         have HK0 := Lib.hid K0
         have c0 := K0.cell 0
         have c1 := K0.cell 1
         have c2 := K0.cell 2
         have c3 := K0.cell 3
         have f0 := K0.frozen 0
         have f1 := K0.frozen 1
         have f2 := K0.frozen 2
         have f3 := K0.frozen 3
         have hlt : w.heap.size < w1.heap.size := K0.lt
         have HS : Hid (∀ w2, Old w w2 → ∀ (o : Nat) (u : Value), Old w (w2.setCell ⟨w.heap.size, o, none⟩ u)) := fun _ h o u => h.setCell (.inr (Nat.le_refl _)) u
         clear hb K0
         generalize w.heap.size = g at *)
      | ((with_reducible refine (HV.out _).mono ?_); rintro e w' ⟨rfl, rfl⟩))
    have K9 := ((((HK0.out.set 0 (.int .i64 1)).set 1 (.string t)).set 2 (.int .i64 v)).set 3 (.int .i64 (a : Int))).touch ((Touch.refl (fun _ => False) _).alloc (.cells #[.int .i64 1, .string t, .int .i64 v, .int .i64 (a : Int)] 29)) (fun q => q)
    have hld := run_loadVar_mid (P := Tryd.prog) _ g 0 29 [.int .i64 1, .string t, .int .i64 v, .int .i64 (a : Int)] _ K9.range Tryd.underlying29 rfl (by kernel_rfl)
    have O9 : Old w _ := (HS.out _ (HS.out _ (HS.out _ (HS.out _ HO.out 0 (.int .i64 1)) 1 (.string t)) 2 (.int .i64 v)) 3 (.int .i64 (a : Int))).alloc (.cells #[.int .i64 1, .string t, .int .i64 v, .int .i64 (a : Int)] 29)
    refine ⟨rfl, .agg #[.int .i64 1, .string t, .int .i64 v, .int .i64 (a : Int)], ?_, rfl, O9⟩
    rw [results_cell (p := 6) (ty := 29) rfl]
    exact hld
  · have hk : ¬ (k : Int) = 1 := by omega
    rw [if_neg q]
    have HC := Lib.hid (fun w => clone_any t w (by omega))
    clear hd q
    go_enter Tryd.func16, Tryd.ntmps16
    go_wp2_with (first
      | ((with_reducible refine (HC.out _).mono ?_); rintro e w1 ⟨rfl, hb⟩
         have K0 : Blk w1 w.heap.size 29 [.int .i64 0, .string ⟨#[]⟩, .int .i64 0, .int .i64 0] := (Blk.new w 29 [.int .i64 0, .string ⟨#[]⟩, .int .i64 0, .int .i64 0]).touch (Touch.of_below hb) (fun q => q)
         have HO : Hid (Old w w1) := ((Touch.refl _ w).alloc _).trans (Touch.of_below hb)
         have HK0 := Lib.hid K0
         have c0 := K0.cell 0
         have c1 := K0.cell 1
         have c2 := K0.cell 2
         have c3 := K0.cell 3
         have f0 := K0.frozen 0
         have f1 := K0.frozen 1
         have f2 := K0.frozen 2
         have f3 := K0.frozen 3
         have hlt : w.heap.size < w1.heap.size := K0.lt
         have HS : Hid (∀ w2, Old w w2 → ∀ (o : Nat) (u : Value), Old w (w2.setCell ⟨w.heap.size, o, none⟩ u)) := fun _ h o u => h.setCell (.inr (Nat.le_refl _)) u
         clear hb K0
         generalize w.heap.size = g at *))
    have K9 := ((((HK0.out.set 0 (.int .i64 (k : Int))).set 1 (.string t)).set 2 (.int .i64 0)).set 3 (.int .i64 (a : Int))).touch ((Touch.refl (fun _ => False) _).alloc (.cells #[.int .i64 (k : Int), .string t, .int .i64 0, .int .i64 (a : Int)] 29)) (fun q => q)
    have hld := run_loadVar_mid (P := Tryd.prog) _ g 0 29 [.int .i64 (k : Int), .string t, .int .i64 0, .int .i64 (a : Int)] _ K9.range Tryd.underlying29 rfl (by kernel_rfl)
    have O9 : Old w _ := (HS.out _ (HS.out _ (HS.out _ (HS.out _ HO.out 0 (.int .i64 (k : Int))) 1 (.string t)) 2 (.int .i64 0)) 3 (.int .i64 (a : Int))).alloc (.cells #[.int .i64 (k : Int), .string t, .int .i64 0, .int .i64 (a : Int)] 29)
    refine ⟨rfl, .agg #[.int .i64 (k : Int), .string t, .int .i64 0, .int .i64 (a : Int)], ?_, rfl, O9⟩
    rw [results_cell (p := 6) (ty := 29) rfl]
    exact hld
end Go.Proofs.YtdfodmnjgpgojaaDoor
