/- The contract of lariathand.Bent. -/
import Derived.Test.YtdfodmnjgpgojaaDoorFrm
namespace Go.Proofs.YtdfodmnjgpgojaaDoor
open Go.RowKit Go.PlainAid
set_option maxRecDepth 100000

set_option maxHeartbeats 12800000 in
theorem bent_any (s : ByteArray) (a : Option Addr) (n c : Nat) (w : World) (hs : s.size ≤ 1000000) (hG : ∃ ys : List Int, ys.length = n ∧ HasI w a ys) (_hn : n ≤ maxLen) :
    Calls Tryd.prog 17 #[.string s, .slice a n c] w fun e w' => ∃ t : ByteArray, e = .returned (.string t) ∧ t.size ≤ s.size + 4 ∧ Old w w' := by
  obtain ⟨ys, hy, hI⟩ := hG
  have HI := Lib.hid hI
  have HY := Lib.hid hy
  obtain ⟨m, hm⟩ : ∃ m, s.size = m := ⟨_, rfl⟩
  have hmx : maxLen = 9223372036854775807 := by decide
  have H0 : Hid (Old w w) := Touch.refl _ _
  have HS : Hid (s.size ≤ m) := by show _ ≤ _; omega
  rw [hm] at hs ⊢
  clear hI hy hm
  go_enter Tryd.func17, Tryd.ntmps17
  go_wp2_with fail
  go_loopw [0, 5, 6, 7] (fun sv iv _ _ wx => ∃ (i : Nat) (t : ByteArray), i ≤ 2 ∧ iv = .int .i64 (i : Int) ∧ sv = .string t ∧ Hid (t.size ≤ m + 2 * i) ∧ Hid (Old w wx)) (fun _ iv _ _ _ => 2 - (intOf iv).toNat)
  case atStart => exact ⟨0, s, by omega, rfl, rfl, HS, H0⟩
  case round =>
    obtain ⟨i, t, hi, rfl, rfl, HT, HO⟩ := hrel
    clear H0 HS
    obtain ⟨q, hq⟩ : ∃ q, t.size = q := ⟨_, rfl⟩
    have hqs : q ≤ m + 2 * i := by rw [← hq]; exact HT.out
    clear HT
    obtain ⟨go, hgo⟩ : ∃ go, decide (i < n ∧ i < 2 ∧ 0 < q) = go := ⟨_, rfl⟩
    go_upto_region 2 with fail
    go_cut [20] (fun v wx => v = .bool go ∧ wr = wx)
    case first =>
      by_cases h1 : i < n
      · have i1 : (i : Int) < (n : Int) := by omega
        by_cases h2 : i < 2
        · have i2 : (i : Int) < 2 := by omega
          by_cases h3 : 0 < q
          · have i3 : (0 : Int) < (q : Int) := by omega
            have e : go = true := by rw [← hgo]; exact decide_eq_true ⟨h1, h2, h3⟩
            subst e
            clear hgo
            go_wp2_with fail
            go_meet
            exact ⟨rfl, rfl⟩
          · have i3 : ¬ (0 : Int) < (q : Int) := by omega
            have e : go = false := by rw [← hgo]; exact decide_eq_false (fun z => h3 z.2.2)
            subst e
            clear hgo
            go_wp2_with fail
            go_meet
            exact ⟨rfl, rfl⟩
        · have i2 : ¬ (i : Int) < 2 := by omega
          have e : go = false := by rw [← hgo]; exact decide_eq_false (fun z => h2 z.2.1)
          subst e
          clear hgo
          go_wp2_with fail
          go_meet
          exact ⟨rfl, rfl⟩
      · have i1 : ¬ (i : Int) < (n : Int) := by omega
        have e : go = false := by rw [← hgo]; exact decide_eq_false (fun z => h1 z.1)
        subst e
        clear hgo
        go_wp2_with fail
        go_meet
        exact ⟨rfl, rfl⟩
    case rest =>
      obtain ⟨rfl, rfl⟩ := hcut
      cases go with
      | true =>
        obtain ⟨h1, h2, h3⟩ := of_decide_eq_true hgo
        have i1 : (i : Int) < (n : Int) := by omega
        obtain ⟨b, o, rfl, hc⟩ := (HI.out.old HO.out).cell i (by rw [HY.out]; exact h1)
        generalize ys.getD i 0 = y at *
        have HP1 : Hid (∀ w, Calls Tryd.prog 13 #[.int .i64 (wrap64 (y.tdiv 17)), .int .i64 (q : Int)] w fun e w' => e = .returned (.int .i64 (pickN (wrap64 (y.tdiv 17)) q : Int)) ∧ w' = w) := fun w => (pick_at _ _ (by omega) (by omega) w).mono fun _ _ ⟨x, y⟩ => ⟨x, y.symm⟩
        have hp1 : (pickN (wrap64 (y.tdiv 17)) q : Int) < q := pickN_lt (by omega)
        have HP2 : Hid (∀ w, Calls Tryd.prog 13 #[.int .i64 y, .int .i64 17] w fun e w' => e = .returned (.int .i64 (pickN y 17 : Int)) ∧ w' = w) := fun w => (pick_at _ _ (by omega) (by omega) w).mono fun _ _ ⟨x, y⟩ => ⟨x, y.symm⟩
        have hp2 : (pickN y 17 : Int) < 17 := pickN_lt (by omega)
        have HP3 : Hid (∀ w, Calls Tryd.prog 13 #[.int .i64 (wrap64 (y.tdiv 7)), .int .i64 2] w fun e w' => e = .returned (.int .i64 (pickN (wrap64 (y.tdiv 7)) 2 : Int)) ∧ w' = w) := fun w => (pick_at _ _ (by omega) (by omega) w).mono fun _ _ ⟨x, y⟩ => ⟨x, y.symm⟩
        have hp3 : (pickN (wrap64 (y.tdiv 7)) 2 : Int) < 2 := pickN_lt (by omega)
        generalize pickN (wrap64 (y.tdiv 17)) q = p1 at *
        generalize pickN y 17 = p2 at *
        generalize pickN (wrap64 (y.tdiv 7)) 2 = p3 at *
        have hix : ∀ w, (Instr.index 50 (.agg #[.string ((⟨#[32]⟩ : ByteArray)), .string ((⟨#[40]⟩ : ByteArray)), .string ((⟨#[41]⟩ : ByteArray)), .string ((⟨#[91]⟩ : ByteArray)), .string ((⟨#[93]⟩ : ByteArray)), .string ((⟨#[85]⟩ : ByteArray)), .string ((⟨#[88]⟩ : ByteArray)), .string ((⟨#[33]⟩ : ByteArray)), .string ((⟨#[45]⟩ : ByteArray)), .string ((⟨#[57]⟩ : ByteArray)), .string ((⟨#[61]⟩ : ByteArray)), .string ((⟨#[60]⟩ : ByteArray)), .string ((⟨#[64]⟩ : ByteArray)), .string ((⟨#[119]⟩ : ByteArray)), .string ((⟨#[]⟩ : ByteArray)), .string ((⟨#[38, 38]⟩ : ByteArray)), .string ((⟨#[82]⟩ : ByteArray))]) (.int .i64 (p2 : Int))).run Tryd.prog w = .ok (.string (([(⟨#[32]⟩ : ByteArray), (⟨#[40]⟩ : ByteArray), (⟨#[41]⟩ : ByteArray), (⟨#[91]⟩ : ByteArray), (⟨#[93]⟩ : ByteArray), (⟨#[85]⟩ : ByteArray), (⟨#[88]⟩ : ByteArray), (⟨#[33]⟩ : ByteArray), (⟨#[45]⟩ : ByteArray), (⟨#[57]⟩ : ByteArray), (⟨#[61]⟩ : ByteArray), (⟨#[60]⟩ : ByteArray), (⟨#[64]⟩ : ByteArray), (⟨#[119]⟩ : ByteArray), (⟨#[]⟩ : ByteArray), (⟨#[38, 38]⟩ : ByteArray), (⟨#[82]⟩ : ByteArray)] : List ByteArray).getD p2 ByteArray.empty)) w := fun w => run_index_strs Tryd.underlying50 [(⟨#[32]⟩ : ByteArray), (⟨#[40]⟩ : ByteArray), (⟨#[41]⟩ : ByteArray), (⟨#[91]⟩ : ByteArray), (⟨#[93]⟩ : ByteArray), (⟨#[85]⟩ : ByteArray), (⟨#[88]⟩ : ByteArray), (⟨#[33]⟩ : ByteArray), (⟨#[45]⟩ : ByteArray), (⟨#[57]⟩ : ByteArray), (⟨#[61]⟩ : ByteArray), (⟨#[60]⟩ : ByteArray), (⟨#[64]⟩ : ByteArray), (⟨#[119]⟩ : ByteArray), (⟨#[]⟩ : ByteArray), (⟨#[38, 38]⟩ : ByteArray), (⟨#[82]⟩ : ByteArray)] p2 (by omega) rfl w
        have hsz : (([(⟨#[32]⟩ : ByteArray), (⟨#[40]⟩ : ByteArray), (⟨#[41]⟩ : ByteArray), (⟨#[91]⟩ : ByteArray), (⟨#[93]⟩ : ByteArray), (⟨#[85]⟩ : ByteArray), (⟨#[88]⟩ : ByteArray), (⟨#[33]⟩ : ByteArray), (⟨#[45]⟩ : ByteArray), (⟨#[57]⟩ : ByteArray), (⟨#[61]⟩ : ByteArray), (⟨#[60]⟩ : ByteArray), (⟨#[64]⟩ : ByteArray), (⟨#[119]⟩ : ByteArray), (⟨#[]⟩ : ByteArray), (⟨#[38, 38]⟩ : ByteArray), (⟨#[82]⟩ : ByteArray)] : List ByteArray).getD p2 ByteArray.empty).size ≤ 2 := one_of _ _ (by decide) p2
        obtain ⟨g, hg⟩ : ∃ g, ([(⟨#[32]⟩ : ByteArray), (⟨#[40]⟩ : ByteArray), (⟨#[41]⟩ : ByteArray), (⟨#[91]⟩ : ByteArray), (⟨#[93]⟩ : ByteArray), (⟨#[85]⟩ : ByteArray), (⟨#[88]⟩ : ByteArray), (⟨#[33]⟩ : ByteArray), (⟨#[45]⟩ : ByteArray), (⟨#[57]⟩ : ByteArray), (⟨#[61]⟩ : ByteArray), (⟨#[60]⟩ : ByteArray), (⟨#[64]⟩ : ByteArray), (⟨#[119]⟩ : ByteArray), (⟨#[]⟩ : ByteArray), (⟨#[38, 38]⟩ : ByteArray), (⟨#[82]⟩ : ByteArray)] : List ByteArray).getD p2 ByteArray.empty = g := ⟨_, rfl⟩
        rw [hg] at hsz
        simp only [hg] at hix
        have cy : ∀ nd, (wr.drewN nd).cell? ⟨b, o + i, none⟩ = some (.int .i64 y) := fun nd => hc
        have e1 : (t.extract 0 p1).size = p1 := by rw [ByteArray.size_extract]; omega
        have e2 : (t.extract (p1 + p3) q).size = q - (p1 + p3) := by rw [ByteArray.size_extract]; omega
        clear hg hgo
        go_upto_region 6 with (first
          | (with_reducible refine (HP1.out _).mono ?_; rintro e w' ⟨rfl, rfl⟩)
          | (with_reducible refine (HP2.out _).mono ?_; rintro e w' ⟨rfl, rfl⟩))
        go_quiet (first | (go_at_call_of 13 (Value.int .i64 2); with_reducible refine Calls.quiet_of_same (HP3.out _)))
        go_wp2_with fail
        refine ⟨⟨i + 1, _, by omega, by rw [Int.natCast_add]; rfl, rfl, ?_, HO.out.drewN _⟩, by simp only [intOf]; omega⟩
        show _ ≤ _
        rw [ByteArray.size_append, ByteArray.size_append, e1, e2]
        omega
      | false =>
        go_wp2_with fail
        go_ret
        exact ⟨t, rfl, by rw [hq]; omega, HO.out⟩
end Go.Proofs.YtdfodmnjgpgojaaDoor
