/- The contract of the reference's sign: the walk. -/
import Derived.Test.YtdfodmnjgpgojaaDoorRSg
namespace Go.Proofs.YtdfodmnjgpgojaaDoor
open Go.RowKit Go.PlainAid
set_option maxRecDepth 100000

set_option maxHeartbeats 6400000 in
theorem refSign_any (s : ByteArray) (h0 : 0 < s.size) (w : World) : Calls Tryd.prog 23 #[.string s] w fun e w' => ∃ t : ByteArray, e = .returned (.string t) ∧ t.size = signB (bt s 0) (bt s 1) ∧ Old w w' := by
  obtain ⟨m, hm⟩ : ∃ m, s.size = m := ⟨_, rfl⟩
  have H0 := Lib.hid h0
  have K0 : Blk (w.alloc (.cells (strCells twoTab).toArray 61)) w.heap.size 61 (strCells twoTab) := Blk.new w _ _
  have HI : Hid (Old w (w.alloc (.cells (strCells twoTab).toArray 61)) ∧ Blk (w.alloc (.cells (strCells twoTab).toArray 61)) w.heap.size 61 (strCells twoTab)) := ⟨(Touch.refl _ _).alloc _, K0⟩
  have hlit : (strCells twoTab).toArray = #[.string ⟨#[60, 61]⟩, .string ⟨#[62, 61]⟩, .string ⟨#[61, 61]⟩, .string ⟨#[33, 61]⟩, .string ⟨#[38, 38]⟩, .string ⟨#[124, 124]⟩, .string ⟨#[45, 62]⟩, .string ⟨#[]⟩, .string ⟨#[]⟩] := rfl
  rw [hlit] at HI
  clear K0 hlit
  obtain ⟨S, hS⟩ : ∃ S, signB (bt s 0) (bt s 1) = S := ⟨_, rfl⟩
  rw [hS]
  have H2 : Hid (∀ k, k < 7 → 1 < s.size → twoB s k = true → (twoTab.getD k ByteArray.empty).size = S) := fun k hk h1 ht => by
    obtain ⟨e1, e2⟩ := sign_two h1 hk ht
    rw [← hS, e1, e2]
  have H1 : Hid ((∀ k, k < 7 → 1 < s.size → twoB s k = false) → ∀ k, k < 13 → oneB s k = true → 1 = S) := fun h k hk ht => by rw [← hS, sign_one h0 h hk ht]
  have HN : Hid ((∀ k, k < 7 → 1 < s.size → twoB s k = false) → (∀ k, k < 13 → oneB s k = false) → 0 = S) := fun h h1 => by rw [← hS, sign_none h0 h h1]
  rw [hm] at h0
  clear hS
  go_enter Tryd.func23, Tryd.ntmps23
  go_wp2_with fail
  generalize w.alloc (.cells #[.string ⟨#[60, 61]⟩, .string ⟨#[62, 61]⟩, .string ⟨#[61, 61]⟩, .string ⟨#[33, 61]⟩, .string ⟨#[38, 38]⟩, .string ⟨#[124, 124]⟩, .string ⟨#[45, 62]⟩, .string ⟨#[]⟩, .string ⟨#[]⟩] 61) = w1 at *
  generalize w.heap.size = g at *
  go_loopw [4] (fun iv wx => ∃ k : Nat, k ≤ 7 ∧ iv = .int .i64 (k : Int) ∧ Hid (∀ j, j < k → 1 < s.size → twoB s j = false) ∧ Hid (Old w wx ∧ Blk wx g 61 (strCells twoTab))) (fun iv _ => 7 - (intOf iv).toNat)
  case atStart => exact ⟨0, by omega, rfl, fun j hj => absurd hj (Nat.not_lt_zero _), HI⟩
  case round =>
    obtain ⟨k, hk, rfl, HF, HW⟩ := hrel
    clear HI
    by_cases q : k < 7
    · have q' : (k : Int) < 7 := by omega
      have q9 : (k : Int) < 9 := by omega
      have hcl : ∀ nd, (wr.drewN nd).cell? ⟨g, k, none⟩ = some (.string (twoTab.getD k ByteArray.empty)) := fun nd => by
        have := HW.out.2.cell k
        rw [strCells_get twoTab k (by show k < 9; omega)] at this
        exact this
      have hT : ((s.extract 0 2).toList == (twoTab.getD k ByteArray.empty).toList) = twoB s k := rfl
      have H2k : Hid (1 < s.size → twoB s k = true → (twoTab.getD k ByteArray.empty).size = S) := H2.out k q
      generalize twoTab.getD k ByteArray.empty = T at *
      go_upto_region 5 with fail
      by_cases hs : 1 < m
      · have hs' : (1 : Int) < (m : Int) := by omega
        have hs2 : (2 : Int) ≤ (m : Int) := by omega
        have hs3 : decide (1 < m) = true := decide_eq_true hs
        cases ht : twoB s k with
        | true =>
          rw [ht] at hT
          go_quiet (fail)
          have hc0 := hcl nq
          go_wp2_with fail
          go_ret
          exact ⟨T, rfl, H2k.out (by omega) ht, HW.out.1.drewN _⟩
        | false =>
          rw [ht] at hT
          go_quiet (fail)
          go_wp2_with fail
          refine ⟨⟨k + 1, by omega, by rw [Int.natCast_add]; rfl, fun j hj h1 => ?_, HW.out.1.drewN _, HW.out.2⟩, by simp only [intOf]; omega⟩
          rcases Nat.lt_or_ge j k with c | c
          · exact HF.out j c h1
          · obtain rfl : j = k := by omega
            exact ht
      · have hs' : ¬ (1 : Int) < (m : Int) := by omega
        have hs3 : decide (1 < m) = false := decide_eq_false hs
        go_quiet (fail)
        go_wp2_with fail
        exact ⟨⟨k + 1, by omega, by rw [Int.natCast_add]; rfl, fun j hj h1 => absurd h1 (by omega), HW.out.1.drewN _, HW.out.2⟩, by simp only [intOf]; omega⟩
    · obtain rfl : k = 7 := by omega
      clear H2
      go_wp2_with fail
      have HO0 := Lib.hid HW.out.1
      clear HW
      go_loopw [6] (fun iv wx => ∃ k : Nat, k ≤ 13 ∧ iv = .int .i64 (k : Int) ∧ Hid (∀ j, j < k → oneB s j = false) ∧ Hid (Old w wx)) (fun iv _ => 13 - (intOf iv).toNat)
      case atStart => exact ⟨0, by omega, rfl, fun j hj => absurd hj (Nat.not_lt_zero _), HO0⟩
      case round =>
        obtain ⟨k, hk, rfl, HG, HO⟩ := hrel
        clear HO0
        by_cases q : k < 13
        · have q' : (k : Int) < 13 := by omega
          have h1 : (1 : Int) ≤ (m : Int) := by omega
          have ek : IntKind.i64.wrap ((k : Int) + 1) = (k : Int) + 1 := wrap_fits ⟨by omega, by omega⟩
          have hk1 : (k : Int) ≤ (k : Int) + 1 := by omega
          have hk2 : (k : Int) + 1 ≤ 13 := by omega
          have hk3 : k ≤ k + 1 := by omega
          have hT : ((s.extract 0 1).toList == (oneStr.extract k (k + 1)).toList) = oneB s k := rfl
          have ho : oneStr = ⟨#[40, 41, 91, 93, 43, 45, 42, 60, 62, 33, 64, 59, 61]⟩ := rfl
          rw [ho] at hT
          have hsz : (s.extract 0 1).size = 1 := by rw [ByteArray.size_extract]; omega
          go_upto_region 11 with fail
          cases ht : oneB s k with
          | true =>
            rw [ht] at hT
            go_quiet (fail)
            go_wp2_with fail
            go_ret
            exact ⟨_, rfl, by rw [hsz]; exact H1.out HF.out k q ht, HO.out.drewN _⟩
          | false =>
            rw [ht] at hT
            go_quiet (fail)
            go_wp2_with fail
            refine ⟨⟨k + 1, by omega, by rw [Int.natCast_add]; rfl, fun j hj => ?_, HO.out.drewN _⟩, by simp only [intOf]; omega⟩
            rcases Nat.lt_or_ge j k with c | c
            · exact HG.out j c
            · obtain rfl : j = k := by omega
              exact ht
        · obtain rfl : k = 13 := by omega
          go_wp2_with fail
          go_ret
          exact ⟨_, rfl, HN.out HF.out HG.out, HO.out⟩
end Go.Proofs.YtdfodmnjgpgojaaDoor
