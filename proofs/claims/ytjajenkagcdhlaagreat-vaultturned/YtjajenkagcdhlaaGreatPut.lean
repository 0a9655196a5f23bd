/- Contracts of ledger.put, number, closed, layCover, Leaves, fits. -/
import Derived.Test.YtjajenkagcdhlaaGreatBuf
namespace Go.Proofs.YtjajenkagcdhlaaGreat
open Go.RowKit
set_option maxRecDepth 100000

theorem Put.refl {w : World} {B : Nat} {v : Value} {xs : List Nat} (h : Mine w B v xs) : Put w B v xs v w := ⟨h, Touch.refl _ _, fun _ h => .inl h⟩
theorem Put.trans {w w1 w2 : World} {B : Nat} {v v1 v2 : Value} {xs ys : List Nat} (h : Put w B v xs v1 w1) (k : Put w1 B v1 ys v2 w2) : Put w B v ys v2 w2 :=
  ⟨k.mine, ⟨k.touch.os.trans h.touch.os, k.touch.tape.trans h.touch.tape, k.touch.output.trans h.touch.output, Nat.le_trans h.touch.size k.touch.size, fun i hi hn => (k.touch.block i (Nat.lt_of_lt_of_le hi h.touch.size) (fun q => by
      rcases h.same i q with h1 | h1
      · exact hn h1
      · omega)).trans (h.touch.block i hi hn)⟩, fun i hi => by
    rcases k.same i hi with h1 | h1
    · exact h.same i h1
    · exact .inr (Nat.le_trans h.touch.size h1)⟩
theorem Put.ahead {w w0 w1 : World} {B : Nat} {v v1 : Value} {xs : List Nat} (o : Old w w0) (k : Put w0 B v xs v1 w1) : Put w B v xs v1 w1 :=
  ⟨k.mine, (Touch.of_old o).trans k.touch, fun i hi => by
    rcases k.same i hi with h1 | h1
    · exact .inl h1
    · exact .inr (Nat.le_trans o.size h1)⟩
theorem Put.behind {w w1 w2 : World} {B : Nat} {v v1 : Value} {xs : List Nat} (k : Put w B v xs v1 w1) (o : Old w1 w2) : Put w B v xs v1 w2 :=
  ⟨k.mine.old o, k.touch.trans (Touch.of_old o), k.same⟩
theorem Put.size {w w1 : World} {B : Nat} {v v1 : Value} {xs : List Nat} (k : Put w B v xs v1 w1) (hB : B ≤ w.heap.size) : B ≤ w1.heap.size := Nat.le_trans hB k.touch.size
/-- What came of nil turned nothing old. -/
theorem Put.of_nil {w w1 : World} {B : Nat} {v1 : Value} {xs : List Nat} (k : Put w B (.slice none 0 0) xs v1 w1) : Old w w1 := k.touch.mono (fun i _ hi => by cases hi)
theorem Put.fresh {w w1 : World} {B : Nat} {v1 : Value} {xs : List Nat} (k : Put w B (.slice none 0 0) xs v1 w1) : Mine w1 w.heap.size v1 xs := by
  have h := k.same
  rcases k.mine with h1 | ⟨g, c, e, hb, G⟩
  · exact .inl h1
  · refine .inr ⟨g, c, e, ?_, G⟩
    rcases h g (by rw [e]; rfl) with q | q
    · cases q
    · exact q

/-- One more byte. -/
theorem mine_more (w : World) (B : Nat) (v : Value) (xs : List Nat) (x : Nat) (h : Mine w B v xs) (hB : B ≤ w.heap.size) (hx : x < 256) (hl : xs.length ≤ 100000000) :
    ∃ v' w', (∀ ty, (Builtin.append_ #[30, 30] ty #[v, .slice (some ⟨w.heap.size, 0, none⟩) 1 1]).run Tryz.prog (w.alloc (.cells #[.int .u8 (x : Int)] 5)) = .ok v' w') ∧ Put w B v (xs ++ [x]) v' w' := by
  have T1 : Old w (w.alloc (.cells #[.int .u8 (x : Int)] 5)) := (Touch.refl _ w).alloc _
  have hH : Has (w.alloc (.cells #[.int .u8 (x : Int)] 5)) (some ⟨w.heap.size, 0, none⟩) [x] := Has.new w [x] (fun y hy => by simp at hy; omega) (0, 0)
  obtain ⟨v', w', hr, P⟩ := mine_append _ B v xs [x] _ 1 1 (h.old T1) (Nat.le_trans hB T1.size) hH rfl (by omega)
  exact ⟨v', w', hr, P.ahead T1⟩

set_option maxHeartbeats 1600000 in
theorem put_any (v : Value) (xs : List Nat) (n s B : Nat) (w : World) (h : Mine w B v xs) (hB : B ≤ w.heap.size) (hs : s ≤ 4) (_hn : n ≤ 140737488355328) (hl : xs.length ≤ 10000000) :
    Calls Tryz.prog 110 #[v, .int .i64 n, .int .i64 s] w fun e w' => ∃ v', e = .returned v' ∧ Put w B v (xs ++ high n s) v' w' := by
  have H0 : Hid (Put w B v (xs ++ (high n s).take (s - s)) v w) := by rw [Nat.sub_self, List.take_zero, List.append_nil]; exact Put.refl h
  clear h
  go_enter Tryz.func110, Tryz.ntmps110
  go_wp2_with fail
  go_loopw [0, 7] (fun a i wx => ∃ m : Nat, m ≤ s ∧ i = .int .i64 ((m : Int) - 1) ∧ Hid (Put w B v (xs ++ (high n s).take (s - m)) a wx)) (fun _ i _ => (intOf i + 1).toNat)
  case atStart => exact ⟨s, Nat.le_refl _, rfl, H0⟩
  case round =>
    obtain ⟨m, hm, rfl, HP⟩ := hrel
    clear H0
    have hB' := Lib.hid (HP.out.size hB)
    match m, hm with
    | 0, _ =>
      go_wp2_with fail
      go_ret
      refine ⟨_, rfl, ?_⟩
      have := HP.out
      rw [Nat.sub_zero, List.take_of_length_le (by rw [high_length]; exact Nat.le_refl _)] at this
      exact this
    | j + 1, hm =>
      obtain ⟨v', w', hap, P⟩ := mine_more wr B u0 _ (n / 256 ^ j % 256) HP.out.mine hB'.out (Nat.mod_lt _ (by decide)) (by rw [List.length_append, List.length_take, high_length]; omega)
      have hst := high_step n s (s - (j + 1)) (by omega)
      rw [show s - 1 - (s - (j + 1)) = j by omega, show s - (j + 1) + 1 = s - j by omega] at hst
      rw [List.append_assoc, ← hst] at P
      have HP' := Lib.hid (HP.out.trans P)
      clear P hst HP hB'
      have hj : j = 0 ∨ j = 1 ∨ j = 2 ∨ j = 3 := by omega
      rcases hj with rfl | rfl | rfl | rfl
      all_goals
        simp only [Nat.pow_zero, Nat.div_one, Nat.reducePow, Int.natCast_emod, Int.natCast_ediv, Int.cast_ofNat_Int] at hap
        go_wp2_with (first | (at_builtin; refine wpList_append_run rfl _ _ 30 30 rfl _ _ rfl rfl _ _ (hap _) ?_))
        exact ⟨⟨_, by omega, by rfl, HP'⟩, by simp [intOf]⟩
end Go.Proofs.YtjajenkagcdhlaaGreat
