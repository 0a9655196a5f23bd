/- The contract of the feed's expr. -/
import Derived.Test.YtdfodmnjgpgojaaDoorSml
import Derived.Deep.DeepCutAuto
namespace Go.Proofs.YtdfodmnjgpgojaaDoor
open Go.RowKit Go.PlainAid
set_option maxRecDepth 100000

/-- How many numbers an expression takes at most, i levels above the leaves; how long its text is. -/
def needE : Nat → Nat
  | 0 => 3
  | i + 1 => 2 * needE i + 3
def longE : Nat → Nat
  | 0 => 3
  | i + 1 => 2 * longE i + 6
def ExprC (w0 : World) (f : Nat) (a : Option Addr) (n c i : Nat) : Prop := ∀ (d : Nat) (di : Int) (k : Nat) (w : World), di = (d : Int) → d + i = 4 → k + needE i ≤ 500000 → Feed w0 f a n c k w →
  Calls Tryd.prog 34 #[.pointer (some ⟨f, 0, none⟩), .int .i64 di] w (Told w0 f a n c k (needE i) (longE i))
theorem dplus (d : Nat) : (d : Int) + 1 = ((d + 1 : Nat) : Int) := by omega
theorem bsz1 (x : UInt8) : (⟨#[x]⟩ : ByteArray).size = 1 := rfl
theorem bsz2 (x y : UInt8) : (⟨#[x, y]⟩ : ByteArray).size = 2 := rfl
theorem bsz3 (x y z : UInt8) : (⟨#[x, y, z]⟩ : ByteArray).size = 3 := rfl
theorem bsz4 (x y z u : UInt8) : (⟨#[x, y, z, u]⟩ : ByteArray).size = 4 := rfl
theorem needE_pos : ∀ i, 3 ≤ needE i
  | 0 => Nat.le_refl _
  | i + 1 => by show 3 ≤ 2 * needE i + 3; omega
theorem longE_pos : ∀ i, 3 ≤ longE i
  | 0 => Nat.le_refl _
  | i + 1 => by have := longE_pos i; show 3 ≤ 2 * longE i + 6; omega
theorem needE_le : ∀ i, i ≤ 4 → needE i ≤ 93 := by decide
theorem longE_le : ∀ i, i ≤ 4 → longE i ≤ 138 := by decide

set_option maxHeartbeats 12800000 in
theorem expr_step {w0 : World} {f n c : Nat} {a : Option Addr} (i : Nat) (hi : i ≤ 4) (IH : ∀ j, j + 1 = i → ExprC w0 f a n c j) : ExprC w0 f a n c i := by
  intro d di k w hdi hd hk h
  subst hdi
  have HH := Lib.hid h
  have HN := Lib.hid (nexts w0 f a n c)
  have HI := Lib.hid IH
  have hnp := needE_pos i
  have hlp := longE_pos i
  clear h IH
  go_enter Tryd.func34, Tryd.ntmps34
  go_upto_region 2 with (first
    | (go_at_call_of 35 (Value.int .i64 20); refine (HN.out 20 20 k _ rfl (by decide) (by decide) (by omega) HH.out).mono ?_; rintro e w1 ⟨x1, k1, rfl, hx1, hk1, F1⟩
       have HF := Lib.hid F1
       have c1 := F1.is.cell 1
       clear F1))
  go_cut [11, 12, 13, 14, 15, 16, 17, 18, 19] (fun _ _ _ _ _ _ _ _ v wx => ∃ b : Bool, v = .bool b ∧ (3 < d → b = true) ∧ w1 = wx)
  case first =>
    by_cases q : 3 < d
    · have q' : (3 : Int) < (d : Int) := by omega
      go_wp2_with fail
      go_meet
      exact ⟨true, rfl, fun _ => rfl, rfl⟩
    · have q' : ¬ (3 : Int) < (d : Int) := by omega
      cases q2 : decide ((14 : Int) < (k1 : Int)) with
      | true =>
        have q3 : (14 : Int) < (k1 : Int) := of_decide_eq_true q2
        go_wp2_with fail
        go_meet
        exact ⟨true, rfl, fun _ => rfl, rfl⟩
      | false =>
        have q3 : ¬ (14 : Int) < (k1 : Int) := of_decide_eq_false q2
        go_wp2_with fail
        go_meet
        exact ⟨false, rfl, fun e => absurd e q, rfl⟩
  case rest =>
    obtain ⟨b, rfl, hb, rfl⟩ := hcut
    have HB := Lib.hid hb
    clear hb c1
    go_step
    go_cut [5] (fun v wx => ∃ y : Nat, v = .int .i64 (y : Int) ∧ y < 20 ∧ (3 < d → 14 ≤ y) ∧ w1 = wx)
    case first =>
      cases b with
      | true =>
        have e1 : (x1 : Int).tmod 6 = ((x1 % 6 : Nat) : Int) := rfl
        have hr : x1 % 6 < 6 := Nat.mod_lt _ (by decide)
        generalize x1 % 6 = r at *
        go_wp2_with fail
        go_meet
        exact ⟨14 + r, by rw [Int.natCast_add]; rfl, by omega, fun _ => by omega, rfl⟩
      | false =>
        go_wp2_with fail
        go_meet
        exact ⟨x1, rfl, hx1, fun e => (by have := HB.out e; cases this), rfl⟩
    case rest =>
      obtain ⟨y, rfl, hy, hy3, rfl⟩ := hcut
      clear HB
      obtain ⟨kk, hkk⟩ : ∃ kk, kk = k1 := ⟨_, rfl⟩
      rw [← hkk] at HF hk1
      clear hkk
      by_cases h10 : y < 10
      · have z10 : (y : Int) < 10 := by omega
        obtain ⟨j, rfl⟩ : ∃ j, i = j + 1 := ⟨i - 1, by omega⟩
        have HE := Lib.hid (HI.out j rfl)
        have hNi : needE (j + 1) = 2 * needE j + 3 := rfl
        have hLi : longE (j + 1) = 2 * longE j + 6 := rfl
        have hLj := longE_le j (by omega)
        have hNj := needE_le j (by omega)
        go_wp2_with (first
          | (go_at_call 34; refine (HE.out _ _ kk _ (dplus d) (by omega) (by omega) HF.out).mono ?_; rintro e w2 ⟨s, kk, rfl, hs, hk', F⟩
             have HF := Lib.hid F
             clear F)
          | (go_at_call_of 35 (Value.int .i64 11); refine (HN.out 11 11 kk _ rfl (by decide) (by decide) (by omega) HF.out).mono ?_; rintro e w2 ⟨x, kk, rfl, hx, hk', F⟩
             have HF := Lib.hid F
             have hix : ∀ w, (Instr.index 66 (.agg #[.string ((⟨#[43]⟩ : ByteArray)), .string ((⟨#[45]⟩ : ByteArray)), .string ((⟨#[42]⟩ : ByteArray)), .string ((⟨#[60]⟩ : ByteArray)), .string ((⟨#[60, 61]⟩ : ByteArray)), .string ((⟨#[61, 61]⟩ : ByteArray)), .string ((⟨#[33, 61]⟩ : ByteArray)), .string ((⟨#[38, 38]⟩ : ByteArray)), .string ((⟨#[124, 124]⟩ : ByteArray)), .string ((⟨#[62]⟩ : ByteArray)), .string ((⟨#[62, 61]⟩ : ByteArray))]) (.int .i64 (x : Int))).run Tryd.prog w = .ok (.string (([(⟨#[43]⟩ : ByteArray), (⟨#[45]⟩ : ByteArray), (⟨#[42]⟩ : ByteArray), (⟨#[60]⟩ : ByteArray), (⟨#[60, 61]⟩ : ByteArray), (⟨#[61, 61]⟩ : ByteArray), (⟨#[33, 61]⟩ : ByteArray), (⟨#[38, 38]⟩ : ByteArray), (⟨#[124, 124]⟩ : ByteArray), (⟨#[62]⟩ : ByteArray), (⟨#[62, 61]⟩ : ByteArray)] : List ByteArray).getD x ByteArray.empty)) w := fun w => run_index_strs Tryd.underlying66 [(⟨#[43]⟩ : ByteArray), (⟨#[45]⟩ : ByteArray), (⟨#[42]⟩ : ByteArray), (⟨#[60]⟩ : ByteArray), (⟨#[60, 61]⟩ : ByteArray), (⟨#[61, 61]⟩ : ByteArray), (⟨#[33, 61]⟩ : ByteArray), (⟨#[38, 38]⟩ : ByteArray), (⟨#[124, 124]⟩ : ByteArray), (⟨#[62]⟩ : ByteArray), (⟨#[62, 61]⟩ : ByteArray)] x hx rfl w
             have hsz : (([(⟨#[43]⟩ : ByteArray), (⟨#[45]⟩ : ByteArray), (⟨#[42]⟩ : ByteArray), (⟨#[60]⟩ : ByteArray), (⟨#[60, 61]⟩ : ByteArray), (⟨#[61, 61]⟩ : ByteArray), (⟨#[33, 61]⟩ : ByteArray), (⟨#[38, 38]⟩ : ByteArray), (⟨#[124, 124]⟩ : ByteArray), (⟨#[62]⟩ : ByteArray), (⟨#[62, 61]⟩ : ByteArray)] : List ByteArray).getD x ByteArray.empty).size ≤ 2 := one_of _ _ (by decide) x
             obtain ⟨sg, hS⟩ : ∃ sg, ([(⟨#[43]⟩ : ByteArray), (⟨#[45]⟩ : ByteArray), (⟨#[42]⟩ : ByteArray), (⟨#[60]⟩ : ByteArray), (⟨#[60, 61]⟩ : ByteArray), (⟨#[61, 61]⟩ : ByteArray), (⟨#[33, 61]⟩ : ByteArray), (⟨#[38, 38]⟩ : ByteArray), (⟨#[124, 124]⟩ : ByteArray), (⟨#[62]⟩ : ByteArray), (⟨#[62, 61]⟩ : ByteArray)] : List ByteArray).getD x ByteArray.empty = sg := ⟨_, rfl⟩
             rw [hS] at hsz
             simp only [hS] at hix
             clear F)
          | (go_at_call_of 35 (Value.int .i64 2); refine (HN.out 2 2 kk _ rfl (by decide) (by decide) (by omega) HF.out).mono ?_; rintro e w2 ⟨x, kk, rfl, hx, hk', F⟩
             have HF := Lib.hid F
             clear F))
        all_goals (go_ret; refine ⟨_, _, rfl, ?_, by omega, HF.out⟩; simp only [ByteArray.size_append, bsz1]; omega)
      have z10 : ¬ (y : Int) < 10 := by omega
      by_cases h10 : y = 10
      · subst h10
        obtain ⟨j, rfl⟩ : ∃ j, i = j + 1 := ⟨i - 1, by omega⟩
        have HE := Lib.hid (HI.out j rfl)
        have hNi : needE (j + 1) = 2 * needE j + 3 := rfl
        have hLi : longE (j + 1) = 2 * longE j + 6 := rfl
        have hLj := longE_le j (by omega)
        have hNj := needE_le j (by omega)
        go_wp2_with (first
          | (go_at_call 34; refine (HE.out _ _ kk _ (dplus d) (by omega) (by omega) HF.out).mono ?_; rintro e w2 ⟨s, kk, rfl, hs, hk', F⟩
             have HF := Lib.hid F
             clear F))
        go_ret
        refine ⟨_, _, rfl, ?_, by omega, HF.out⟩
        simp only [ByteArray.size_append, bsz1, bsz2]
        omega
      have z10 : ¬ (y : Int) = 10 := by omega
      by_cases h11 : y = 11
      · subst h11
        obtain ⟨j, rfl⟩ : ∃ j, i = j + 1 := ⟨i - 1, by omega⟩
        have HE := Lib.hid (HI.out j rfl)
        have hNi : needE (j + 1) = 2 * needE j + 3 := rfl
        have hLi : longE (j + 1) = 2 * longE j + 6 := rfl
        have hLj := longE_le j (by omega)
        have hNj := needE_le j (by omega)
        go_wp2_with (first
          | (go_at_call 34; refine (HE.out _ _ kk _ (dplus d) (by omega) (by omega) HF.out).mono ?_; rintro e w2 ⟨s, kk, rfl, hs, hk', F⟩
             have HF := Lib.hid F
             clear F))
        go_ret
        refine ⟨_, _, rfl, ?_, by omega, HF.out⟩
        simp only [ByteArray.size_append, bsz1, bsz2]
        omega
      have z11 : ¬ (y : Int) = 11 := by omega
      by_cases h12 : y = 12
      · subst h12
        obtain ⟨j, rfl⟩ : ∃ j, i = j + 1 := ⟨i - 1, by omega⟩
        have HE := Lib.hid (HI.out j rfl)
        have hNi : needE (j + 1) = 2 * needE j + 3 := rfl
        have hLi : longE (j + 1) = 2 * longE j + 6 := rfl
        have hLj := longE_le j (by omega)
        have hNj := needE_le j (by omega)
        go_wp2_with (first
          | (go_at_call 34; refine (HE.out _ _ kk _ (dplus d) (by omega) (by omega) HF.out).mono ?_; rintro e w2 ⟨s, kk, rfl, hs, hk', F⟩
             have HF := Lib.hid F
             clear F))
        go_ret
        refine ⟨_, _, rfl, ?_, by omega, HF.out⟩
        simp only [ByteArray.size_append, bsz1]
        omega
      have z12 : ¬ (y : Int) = 12 := by omega
      by_cases h13 : y = 13
      · subst h13
        obtain ⟨j, rfl⟩ : ∃ j, i = j + 1 := ⟨i - 1, by omega⟩
        have HE := Lib.hid (HI.out j rfl)
        have hNi : needE (j + 1) = 2 * needE j + 3 := rfl
        have hLi : longE (j + 1) = 2 * longE j + 6 := rfl
        have hLj := longE_le j (by omega)
        have hNj := needE_le j (by omega)
        go_wp2_with (first
          | (go_at_call 34; refine (HE.out _ _ kk _ (dplus d) (by omega) (by omega) HF.out).mono ?_; rintro e w2 ⟨s, kk, rfl, hs, hk', F⟩
             have HF := Lib.hid F
             clear F))
        go_ret
        refine ⟨_, _, rfl, ?_, by omega, HF.out⟩
        simp only [ByteArray.size_append, bsz2]
        omega
      have z13 : ¬ (y : Int) = 13 := by omega
      by_cases h14 : y = 14
      · subst h14
        go_wp2_with (first
          | (go_at_call_of 35 (Value.int .i64 4); refine (HN.out 4 4 kk _ rfl (by decide) (by decide) (by omega) HF.out).mono ?_; rintro e w2 ⟨x, kk, rfl, hx, hk', F⟩
             have HF := Lib.hid F
             have hix : ∀ w, (Instr.index 57 (.agg #[.string ((⟨#[48]⟩ : ByteArray)), .string ((⟨#[49]⟩ : ByteArray)), .string ((⟨#[50]⟩ : ByteArray)), .string ((⟨#[48, 48, 55]⟩ : ByteArray))]) (.int .i64 (x : Int))).run Tryd.prog w = .ok (.string (([(⟨#[48]⟩ : ByteArray), (⟨#[49]⟩ : ByteArray), (⟨#[50]⟩ : ByteArray), (⟨#[48, 48, 55]⟩ : ByteArray)] : List ByteArray).getD x ByteArray.empty)) w := fun w => run_index_strs Tryd.underlying57 [(⟨#[48]⟩ : ByteArray), (⟨#[49]⟩ : ByteArray), (⟨#[50]⟩ : ByteArray), (⟨#[48, 48, 55]⟩ : ByteArray)] x hx rfl w
             have hsz : (([(⟨#[48]⟩ : ByteArray), (⟨#[49]⟩ : ByteArray), (⟨#[50]⟩ : ByteArray), (⟨#[48, 48, 55]⟩ : ByteArray)] : List ByteArray).getD x ByteArray.empty).size ≤ 3 := one_of _ _ (by decide) x
             obtain ⟨sg, hS⟩ : ∃ sg, ([(⟨#[48]⟩ : ByteArray), (⟨#[49]⟩ : ByteArray), (⟨#[50]⟩ : ByteArray), (⟨#[48, 48, 55]⟩ : ByteArray)] : List ByteArray).getD x ByteArray.empty = sg := ⟨_, rfl⟩
             rw [hS] at hsz
             simp only [hS] at hix
             clear F))
        go_ret
        exact ⟨_, _, rfl, by omega, by omega, HF.out⟩
      have z14 : ¬ (y : Int) = 14 := by omega
      by_cases h15 : y = 15
      · subst h15
        go_wp2_with (first
          | (go_at_call_of 35 (Value.int .i64 4); refine (HN.out 4 4 kk _ rfl (by decide) (by decide) (by omega) HF.out).mono ?_; rintro e w2 ⟨x, kk, rfl, hx, hk', F⟩
             have HF := Lib.hid F
             have hix : ∀ w, (Instr.index 57 (.agg #[.string ((⟨#[48]⟩ : ByteArray)), .string ((⟨#[49]⟩ : ByteArray)), .string ((⟨#[50]⟩ : ByteArray)), .string ((⟨#[48, 48, 55]⟩ : ByteArray))]) (.int .i64 (x : Int))).run Tryd.prog w = .ok (.string (([(⟨#[48]⟩ : ByteArray), (⟨#[49]⟩ : ByteArray), (⟨#[50]⟩ : ByteArray), (⟨#[48, 48, 55]⟩ : ByteArray)] : List ByteArray).getD x ByteArray.empty)) w := fun w => run_index_strs Tryd.underlying57 [(⟨#[48]⟩ : ByteArray), (⟨#[49]⟩ : ByteArray), (⟨#[50]⟩ : ByteArray), (⟨#[48, 48, 55]⟩ : ByteArray)] x hx rfl w
             have hsz : (([(⟨#[48]⟩ : ByteArray), (⟨#[49]⟩ : ByteArray), (⟨#[50]⟩ : ByteArray), (⟨#[48, 48, 55]⟩ : ByteArray)] : List ByteArray).getD x ByteArray.empty).size ≤ 3 := one_of _ _ (by decide) x
             obtain ⟨sg, hS⟩ : ∃ sg, ([(⟨#[48]⟩ : ByteArray), (⟨#[49]⟩ : ByteArray), (⟨#[50]⟩ : ByteArray), (⟨#[48, 48, 55]⟩ : ByteArray)] : List ByteArray).getD x ByteArray.empty = sg := ⟨_, rfl⟩
             rw [hS] at hsz
             simp only [hS] at hix
             clear F))
        go_ret
        exact ⟨_, _, rfl, by omega, by omega, HF.out⟩
      have z15 : ¬ (y : Int) = 15 := by omega
      by_cases h16 : y = 16
      · subst h16
        go_upto_region 24 with fail
        refine wp_region_G (R := RO w0) (by kernel_rfl) ?_
        refine wpG_take (RO.pre w0) (i := 0) (oi := ⟨some 103, _, _, _, _, _⟩) (v := ?rv0) rfl (by kernel_rfl) (by kernel_rfl) (by kernel_rfl) (fun _ _ _ h => h) (by kernel_rfl) ?ry0 ?rr0
        case ry0 =>
          intro wt hO
          go_simp
          try with_reducible rfl
        try simp only [Act.put, List.setIfInBounds_toArray, List.set_cons_zero, List.set_cons_succ]
        refine wpG_take (RO.pre w0) (i := 5) (oi := ⟨some 108, _, _, _, _, _⟩) (v := ?rv5) rfl (by kernel_rfl) (by kernel_rfl) (by kernel_rfl) (fun _ _ _ h => h) (by kernel_rfl) ?ry5 ?rr5
        case ry5 =>
          intro wt hO
          go_simp
          try with_reducible rfl
        try simp only [Act.put, List.setIfInBounds_toArray, List.set_cons_zero, List.set_cons_succ]
        refine wpG_call (RO.pre w0) (i := 1) (o := ⟨some 104, _, _, _, _, _⟩) rfl (by kernel_rfl) (by kernel_rfl) (fun K hK => ?_)
        go_simp
        refine (HN.out 2 2 kk _ rfl (by decide) (by decide) (by omega) HF.out.drew).mono ?_
        rintro ye w2 ⟨x2, k2, rfl, hx2, hk2, F2⟩
        have HF2 := Lib.hid F2
        obtain ⟨u, ue⟩ : ∃ u, procTab.getD x2 ByteArray.empty = u := ⟨_, rfl⟩
        have us : u.size ≤ 1 := by rw [← ue]; exact proc_size x2
        have Hu : Hid (∀ wt, Old w0 wt → wt.cell? ⟨0, x2, none⟩ = some (.string u)) := fun wt hO => by rw [← ue]; exact (F2.grd.old hO).procs x2 (by simpa [procTab] using (by omega : x2 < 3))
        have x2' : (x2 : Int) < 3 := by omega
        refine hK.out _ _ (fun _ => F2.old) ?_
        clear hK F2
        try simp only [Act.put, List.setIfInBounds_toArray, List.set_cons_zero, List.set_cons_succ]
        refine wpG_take (RO.pre w0) (i := 2) (oi := ⟨some 105, _, _, _, _, _⟩) (v := ?rv2) rfl (by kernel_rfl) (by kernel_rfl) (by kernel_rfl) (fun _ _ _ h => h) (by kernel_rfl) ?ry2 ?rr2
        case ry2 =>
          intro wt hO
          go_simp
          try with_reducible rfl
        try simp only [Act.put, List.setIfInBounds_toArray, List.set_cons_zero, List.set_cons_succ]
        refine wpG_take (RO.pre w0) (i := 3) (oi := ⟨some 106, _, _, _, _, _⟩) (v := ?rv3) rfl (by kernel_rfl) (by kernel_rfl) (by kernel_rfl) (fun _ _ _ h => h) (by kernel_rfl) ?ry3 ?rr3
        case ry3 =>
          intro wt hO
          have f0 := Hu.out wt (hO HF2.out.old)
          go_simp
          try with_reducible rfl
        try simp only [Act.put, List.setIfInBounds_toArray, List.set_cons_zero, List.set_cons_succ]
        refine wpG_take (RO.pre w0) (i := 4) (oi := ⟨some 107, _, _, _, _, _⟩) (v := ?rv4) rfl (by kernel_rfl) (by kernel_rfl) (by kernel_rfl) (fun _ _ _ h => h) (by kernel_rfl) ?ry4 ?rr4
        case ry4 =>
          intro wt hO
          go_simp
          rw [if_neg (by omega)]
          try with_reducible rfl
        try simp only [Act.put, List.setIfInBounds_toArray, List.set_cons_zero, List.set_cons_succ]
        refine wpG_call (RO.pre w0) (i := 6) (o := ⟨some 109, _, _, _, _, _⟩) rfl (by kernel_rfl) (by kernel_rfl) (fun K hK => ?_)
        go_simp
        refine (HN.out 3 3 k2 _ rfl (by decide) (by decide) (by omega) HF2.out).mono ?_
        rintro ye w3 ⟨x3, k3, rfl, hx3, hk3, F3⟩
        have HF3 := Lib.hid F3
        obtain ⟨v, ve⟩ : ∃ v, locTab.getD x3 ByteArray.empty = v := ⟨_, rfl⟩
        have vs : v.size ≤ 1 := by rw [← ve]; exact loc_size x3
        have Hv : Hid (∀ wt, Old w0 wt → wt.cell? ⟨1, x3, none⟩ = some (.string v)) := fun wt hO => by rw [← ve]; exact (F3.grd.old hO).locs x3 (by simpa [locTab] using (by omega : x3 < 4))
        have x3' : (x3 : Int) < 4 := by omega
        refine hK.out _ _ (fun _ => F3.old) ?_
        clear hK F3
        try simp only [Act.put, List.setIfInBounds_toArray, List.set_cons_zero, List.set_cons_succ]
        refine wpG_take (RO.pre w0) (i := 7) (oi := ⟨some 110, _, _, _, _, _⟩) (v := ?rv7) rfl (by kernel_rfl) (by kernel_rfl) (by kernel_rfl) (fun _ _ _ h => h) (by kernel_rfl) ?ry7 ?rr7
        case ry7 =>
          intro wt hO
          go_simp
          try with_reducible rfl
        try simp only [Act.put, List.setIfInBounds_toArray, List.set_cons_zero, List.set_cons_succ]
        refine wpG_take (RO.pre w0) (i := 8) (oi := ⟨some 111, _, _, _, _, _⟩) (v := ?rv8) rfl (by kernel_rfl) (by kernel_rfl) (by kernel_rfl) (fun _ _ _ h => h) (by kernel_rfl) ?ry8 ?rr8
        case ry8 =>
          intro wt hO
          have f0 := Hv.out wt (hO HF3.out.old)
          go_simp
          try with_reducible rfl
        try simp only [Act.put, List.setIfInBounds_toArray, List.set_cons_zero, List.set_cons_succ]
        refine wpG_take (RO.pre w0) (i := 9) (oi := ⟨some 112, _, _, _, _, _⟩) (v := ?rv9) rfl (by kernel_rfl) (by kernel_rfl) (by kernel_rfl) (fun _ _ _ h => h) (by kernel_rfl) ?ry9 ?rr9
        case ry9 =>
          intro wt hO
          go_simp
          rw [if_neg (by omega)]
          try with_reducible rfl
        try simp only [Act.put, List.setIfInBounds_toArray, List.set_cons_zero, List.set_cons_succ]
        refine wpG_take (RO.pre w0) (i := 10) (oi := ⟨some 4, _, _, _, _, _⟩) (v := ?rv10) rfl (by kernel_rfl) (by kernel_rfl) (by kernel_rfl) (fun _ _ _ h => h) (by kernel_rfl) ?ry10 ?rr10
        case ry10 =>
          intro wt hO
          go_simp
          try with_reducible rfl
        try simp only [Act.put, List.setIfInBounds_toArray, List.set_cons_zero, List.set_cons_succ]
        refine wpG_done (by kernel_rfl) ?_ _
        go_wp2_with fail
        go_ret
        refine ⟨_, _, rfl, ?_, by omega, HF3.out⟩
        simp only [ByteArray.size_append, bsz1]
        omega
      have z16 : ¬ (y : Int) = 16 := by omega
      go_wp2_with (first
        | (go_at_call_of 35 (Value.int .i64 2); refine (HN.out 2 2 kk _ rfl (by decide) (by decide) (by omega) HF.out).mono ?_; rintro e w2 ⟨x, kk, rfl, hx, hk', F⟩
           have HF := Lib.hid F
           have hv := HF.out.grd'.vars x (by simpa [varTab] using (by omega : x < 3))
           have hx' : (x : Int) < 3 := by omega
           obtain ⟨v, hve⟩ : ∃ v, varTab.getD x ByteArray.empty = v := ⟨_, rfl⟩
           have hvs : v.size ≤ 1 := by rw [← hve]; exact var_size x
           rw [hve] at hv
           clear F))
      go_ret
      exact ⟨_, _, rfl, by omega, by omega, HF.out⟩
theorem expr_any (w0 : World) (f n c : Nat) (a : Option Addr) : ∀ i, i ≤ 4 → ExprC w0 f a n c i
  | 0, h => expr_step 0 h (fun j e => by omega)
  | i + 1, h => expr_step (i + 1) h (fun j e => by
    obtain rfl : j = i := by omega
    exact expr_any w0 f n c a j (by omega))
end Go.Proofs.YtdfodmnjgpgojaaDoor
