/- The contract of lariatlaw1.known: it answers true, and nothing that was there turns. -/
import Derived.Test.YtnhepceannajeaaNew
namespace Go.Proofs.Ytnhepceannajeaa
open Go.RowKit Go.MuLone Go.Conc.Locks

theorem enters30 (args : Array Value) (w : World) : (callFunc 30 args).run Try.prog w = .ok (.enter 30 args) w := run_callFunc_enter Try.func30 (by kernel_rfl) rfl args w

theorem known_make (c : Nat) (w : World) (hc : w.cell? ⟨c, 0, none⟩ = some (.int .i64 0)) (hz : w.frozen? ⟨c, 0, none⟩ = false) :
    Calls Try.prog 30 #[.pointer (some ⟨c, 0, none⟩)] w (Answers fun v w' => v = 7 ∧ w' = w.setCell ⟨c, 0, none⟩ (.int .i64 1)) := by
  go_enter Try.func30, Try.ntmps30
  go_wp2
  go_ret
  exact ⟨7, rfl, rfl, rfl⟩

set_option maxHeartbeats 800000 in
theorem known_any (w : World) : Calls Try.prog 8 #[] w fun e w' => e = .returned (.bool true) ∧ Below w.heap.size w w' := by
  have hm := make_func
  have hn := hnot
  go_enter Try.func8, Try.ntmps8
  go_wp2_with fail
  refine (new_mk _ _ _ _).mono ?_
  rintro e w' ⟨rfl, rfl⟩
  go_wp2_with fail
  obtain ⟨w1, hw1⟩ : ∃ w1, w1 = ((w.alloc (.cells #[.int .i64 0] 3)).alloc (fresh (.func (.func 30) #[] #[.pointer (some ⟨w.heap.size, 0, none⟩)]))) := ⟨_, rfl⟩
  rw [← hw1]
  have U : Unmade (w.heap.size + 1) (.func (.func 30) #[] #[.pointer (some ⟨w.heap.size, 0, none⟩)]) w1 := by
    rw [hw1]; simpa using unmade_fresh (.func (.func 30) #[] #[.pointer (some ⟨w.heap.size, 0, none⟩)]) (w.alloc (.cells #[.int .i64 0] 3))
  have cc : w1.cell? ⟨w.heap.size, 0, none⟩ = some (.int .i64 0) := by
    rw [hw1, World.cell?_alloc_past _ _ _ (by simp), World.cell_new]; rfl
  have cz : w1.frozen? ⟨w.heap.size, 0, none⟩ = false := by
    rw [hw1, World.frozen?_alloc_old _ _ _ (by simp)]; exact World.frozen_new _ _ _ _
  have hs : w1.heap.size = w.heap.size + 2 := by rw [hw1]; simp
  have T : Touch (fun _ => False) w w1 := by rw [hw1]; exact ((Touch.refl _ _).alloc _).alloc _
  have HS := Lib.hid hs
  clear hw1 hs
  have Uc5 := U.c5
  refine (made_no _ _ U.c5).mono ?_
  rintro e w' ⟨rfl, rfl⟩
  go_wp2_with fail
  have hne : ¬ w.heap.size = w.heap.size + 1 := by omega
  have hcs : ∀ o, (atMake (w.heap.size + 1) w1).cell? ⟨w.heap.size, o, none⟩ = w1.cell? ⟨w.heap.size, o, none⟩ := fun o => by
    rw [World.cell?_setCell_other _ _ _ _ (by simp), World.cell?_setCell_other _ _ _ _ (by simp)]
  refine (get_unmade _ _ _ (fun v w' => v = 7 ∧ w' = (atMake (w.heap.size + 1) w1).setCell ⟨w.heap.size, 0, none⟩ (.int .i64 1)) U
    (call_mk 30 _ _ _ enters30 (known_make w.heap.size _ ((hcs 0).trans cc) (by simp [cz]))) ?_).mono ?_
  · rintro v w' ⟨rfl, rfl⟩
    exact (keeps_atMake U).touch (S := fun k => k = w.heap.size) ((Touch.refl (fun k => k = w.heap.size) (atMake (w.heap.size + 1) w1)).setCell (p := ⟨w.heap.size, 0, none⟩) (Or.inl rfl) _) (by omega)
  rintro e w' ⟨v, w2, ⟨rfl, hw2⟩, rfl, rfl⟩
  have K2 : Keeps (w.heap.size + 1) w2 := by
    rw [hw2]; exact (keeps_atMake U).touch (S := fun k => k = w.heap.size) ((Touch.refl (fun k => k = w.heap.size) (atMake (w.heap.size + 1) w1)).setCell (p := ⟨w.heap.size, 0, none⟩) (Or.inl rfl) _) (by omega)
  have M3 := made_done 7 K2
  have T3 : Touch (fun k => w.heap.size ≤ k) w (doneBy (w.heap.size + 1) 7 w2) := by
    refine touch_done (b := w.heap.size + 1) ?_ (Or.inr (by omega)) 7
    rw [hw2]
    refine Touch.setCell ?_ (Or.inr (Nat.le_refl _)) _
    exact Touch.trans (T.mono (fun _ _ h => h.elim)) (touch_atMake (by simp))
  have c3 : (doneBy (w.heap.size + 1) 7 w2).cell? ⟨w.heap.size, 0, none⟩ = some (.int .i64 1) := by
    have e3 := (touch_done (S := fun k => k = w.heap.size + 1) (Touch.refl _ w2) (b := w.heap.size + 1) (Or.inl rfl) 7).cell (p := ⟨w.heap.size, 0, none⟩) (by rw [hw2]; simp [HS.out]) (by simp)
    rw [e3, hw2]
    exact World.cell?_setCell_same _ _ _ ((hcs 0).trans cc)
  generalize doneBy (w.heap.size + 1) 7 w2 = w3 at M3 T3 c3 ⊢
  clear hcs K2 hw2 w2 U Uc5 cc cz T HS w1
  go_wp2_with fail
  refine (get_made _ 7 _ M3).mono ?_
  rintro e w' ⟨rfl, rfl⟩
  have M4 := made_again M3
  have T4 : Touch (fun k => w.heap.size ≤ k) w (againBy (w.heap.size + 1) w3) := touch_again T3 (Or.inl (by simp))
  have c4 : (againBy (w.heap.size + 1) w3).cell? ⟨w.heap.size, 0, none⟩ = some (.int .i64 1) :=
    ((touch_again (S := fun k => k = w.heap.size + 1) (Touch.refl _ w3) (b := w.heap.size + 1) (Or.inl rfl)).cell (p := ⟨w.heap.size, 0, none⟩) (lt_of_cell? c3) (by simp)).trans c3
  generalize againBy (w.heap.size + 1) w3 = w4 at M4 T4 c4 ⊢
  clear M3 T3 c3 w3
  go_wp2_with fail
  refine (made_yes _ _ M4.c5).mono ?_
  rintro e w' ⟨rfl, rfl⟩
  go_wp2_with fail
  go_ret
  exact ⟨rfl, T4.below (Nat.le_refl _) (fun k hk h => by omega)⟩
end Go.Proofs.Ytnhepceannajeaa
