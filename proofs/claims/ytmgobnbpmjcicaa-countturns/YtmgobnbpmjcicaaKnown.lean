/- The contract of lariatlaw2.known: it answers true, and nothing that was there turns. -/
import Derived.Test.YtmgobnbpmjcicaaMeth
namespace Go.Proofs.Ytmgobnbpmjcicaa
open Go.RowKit Go.MuLone

theorem known_any (w : World) : Calls Try.prog 7 #[] w fun e w' => e = .returned (.bool true) ∧ Touch (fun _ => False) w w' := by
  have hn := hnot
  go_enter Try.func7, Try.ntmps7
  go_wp2_with fail
  refine (new_budget 3 _).mono ?_
  rintro e w1 ⟨rfl, K1, T1⟩
  have HK1 : Hid (Num w.heap.size 3 (some (.int .i64 3)) w1) := K1
  have HT1 := Lib.hid T1
  clear K1 T1
  go_wp2_with fail
  refine (take_any _ 3 2 _ (by decide) (by decide) _ HK1.out).mono ?_
  rintro e w2 ⟨rfl, K2, T2⟩
  have HK2 : Hid (Num w.heap.size 1 (some (.int .i64 3)) w2) := K2
  have HT2 : Hid (Touch (fun k => w.heap.size ≤ k) w w2) := (HT1.out.mono (fun _ _ h => h.elim)).trans (T2.mono (fun k _ h => Nat.le_of_eq h.symm))
  have c1 : can 3 2 = true := rfl
  clear K2 T2 HK1 HT1
  go_wp2_with fail
  refine (take_any _ 1 2 _ (by decide) (by decide) _ HK2.out).mono ?_
  rintro e w3 ⟨rfl, K3, T3⟩
  have HK3 : Hid (Num w.heap.size 1 (some (.int .i64 3)) w3) := K3
  have HT3 : Hid (Touch (fun k => w.heap.size ≤ k) w w3) := HT2.out.trans (T3.mono (fun k _ h => Nat.le_of_eq h.symm))
  have c2 : can 1 2 = false := rfl
  clear K3 T3 HK2 HT2
  go_wp2_with fail
  refine (budget_left _ 1 _ _ HK3.out).mono ?_
  rintro e w4 ⟨rfl, rfl⟩
  go_wp2_with fail
  go_ret
  refine ⟨rfl, HT3.out.os, HT3.out.tape, HT3.out.output, HT3.out.size, fun k hk _ => HT3.out.block k hk (by omega)⟩
end Go.Proofs.Ytmgobnbpmjcicaa
