/- The contract of the feed's formula. -/
import Derived.Test.YtdfodmnjgpgojaaDoorExp
namespace Go.Proofs.YtdfodmnjgpgojaaDoor
open Go.RowKit Go.PlainAid
set_option maxRecDepth 100000

/-- How many numbers a formula takes at most, i levels above the leaves; how long its text is. -/
def needF : Nat → Nat
  | 0 => 3
  | i + 1 => 2 * needF i + 3
def longF : Nat → Nat
  | 0 => 10
  | i + 1 => 2 * longF i + 6
def FormC (w0 : World) (f : Nat) (a : Option Addr) (n c i : Nat) : Prop := ∀ (d : Nat) (di : Int) (k : Nat) (w : World), di = (d : Int) → d + i = 3 → k + needF i ≤ 500000 → Feed w0 f a n c k w →
  Calls Tryd.prog 33 #[.pointer (some ⟨f, 0, none⟩), .int .i64 di] w (Told w0 f a n c k (needF i) (longF i))
theorem needF_pos : ∀ i, 3 ≤ needF i
  | 0 => Nat.le_refl _
  | i + 1 => by show 3 ≤ 2 * needF i + 3; omega
theorem longF_pos : ∀ i, 10 ≤ longF i
  | 0 => Nat.le_refl _
  | i + 1 => by have := longF_pos i; show 10 ≤ 2 * longF i + 6; omega
theorem needF_le : ∀ i, i ≤ 3 → needF i ≤ 93 := by decide
theorem longF_le : ∀ i, i ≤ 3 → longF i ≤ 138 := by decide

set_option maxHeartbeats 12800000 in
theorem form_step {w0 : World} {f n c : Nat} {a : Option Addr} (i : Nat) (hi : i ≤ 3) (IH : ∀ j, j + 1 = i → FormC w0 f a n c j) : FormC w0 f a n c i := by
  intro d di k w hdi hd hk h
  subst hdi
  have HH := Lib.hid h
  have HN := Lib.hid (nexts w0 f a n c)
  have HI := Lib.hid IH
  have hnp := needF_pos i
  have hlp := longF_pos i
  clear h IH
  go_enter Tryd.func33, Tryd.ntmps33
  go_upto_region 2 with (first
    | (go_at_call_of 35 (Value.int .i64 22); refine (HN.out 22 22 k _ rfl (by decide) (by decide) (by omega) HH.out).mono ?_; rintro e w1 ⟨x1, k1, rfl, hx1, hk1, F1⟩
       have HF := Lib.hid F1
       have c1 := F1.is.cell 1
       clear F1))
  go_cut [8, 9, 10, 11, 12, 13, 14, 15, 16] (fun _ _ _ _ _ _ _ _ v wx => ∃ b : Bool, v = .bool b ∧ (2 < d → b = true) ∧ w1 = wx)
  case first =>
    by_cases q : 2 < d
    · have q' : (2 : Int) < (d : Int) := by omega
      go_wp2_with fail
      go_meet
      exact ⟨true, rfl, fun _ => rfl, rfl⟩
    · have q' : ¬ (2 : Int) < (d : Int) := by omega
      cases q2 : decide ((9 : Int) < (k1 : Int)) with
      | true =>
        have q3 : (9 : Int) < (k1 : Int) := of_decide_eq_true q2
        go_wp2_with fail
        go_meet
        exact ⟨true, rfl, fun _ => rfl, rfl⟩
      | false =>
        have q3 : ¬ (9 : Int) < (k1 : Int) := of_decide_eq_false q2
        go_wp2_with fail
        go_meet
        exact ⟨false, rfl, fun e => absurd e q, rfl⟩
  case rest =>
    obtain ⟨b, rfl, hb, rfl⟩ := hcut
    have HB := Lib.hid hb
    clear hb c1
    go_step
    go_cut [5] (fun v wx => ∃ y : Nat, v = .int .i64 (y : Int) ∧ y < 22 ∧ (2 < d → 18 ≤ y) ∧ w1 = wx)
    case first =>
      cases b with
      | true =>
        have e1 : (x1 : Int).tmod 4 = ((x1 % 4 : Nat) : Int) := rfl
        have hr : x1 % 4 < 4 := Nat.mod_lt _ (by decide)
        generalize x1 % 4 = r at *
        go_wp2_with fail
        go_meet
        exact ⟨18 + r, by rw [Int.natCast_add]; rfl, by omega, fun _ => by omega, rfl⟩
      | false =>
        go_wp2_with fail
        go_meet
        exact ⟨x1, rfl, hx1, fun e => (by have := HB.out e; cases this), rfl⟩
    case rest =>
      obtain ⟨y, rfl, hy, hy3, rfl⟩ := hcut
      clear HB
      obtain ⟨kk, hkk⟩ : ∃ kk, kk = k1 := ⟨_, rfl⟩
      rw [← hkk] at HF hk1
      clear hkk
      by_cases h3 : y < 3
      · have z3 : (y : Int) < 3 := by omega
        obtain ⟨j, rfl⟩ : ∃ j, i = j + 1 := ⟨i - 1, by omega⟩
        have HE := Lib.hid (HI.out j rfl)
        have hNi : needF (j + 1) = 2 * needF j + 3 := rfl
        have hLi : longF (j + 1) = 2 * longF j + 6 := rfl
        have hLj := longF_le j (by omega)
        have hNj := needF_le j (by omega)
        go_wp2_with (first
          | (go_at_call 33; refine (HE.out _ _ kk _ (dplus d) (by omega) (by omega) HF.out).mono ?_; rintro e w2 ⟨s, kk, rfl, hs, hk', F⟩
             have HF := Lib.hid F
             clear F))
        go_ret
        refine ⟨_, _, rfl, ?_, by omega, HF.out⟩
        simp only [ByteArray.size_append, bsz1, bsz3]
        omega
      have z3 : ¬ (y : Int) < 3 := by omega
      by_cases h6 : y < 6
      · have z6 : (y : Int) < 6 := by omega
        obtain ⟨j, rfl⟩ : ∃ j, i = j + 1 := ⟨i - 1, by omega⟩
        have HE := Lib.hid (HI.out j rfl)
        have hNi : needF (j + 1) = 2 * needF j + 3 := rfl
        have hLi : longF (j + 1) = 2 * longF j + 6 := rfl
        have hLj := longF_le j (by omega)
        have hNj := needF_le j (by omega)
        go_wp2_with (first
          | (go_at_call 33; refine (HE.out _ _ kk _ (dplus d) (by omega) (by omega) HF.out).mono ?_; rintro e w2 ⟨s, kk, rfl, hs, hk', F⟩
             have HF := Lib.hid F
             clear F))
        go_ret
        refine ⟨_, _, rfl, ?_, by omega, HF.out⟩
        simp only [ByteArray.size_append, bsz1, bsz3]
        omega
      have z6 : ¬ (y : Int) < 6 := by omega
      by_cases h8 : y < 8
      · have z8 : (y : Int) < 8 := by omega
        obtain ⟨j, rfl⟩ : ∃ j, i = j + 1 := ⟨i - 1, by omega⟩
        have HE := Lib.hid (HI.out j rfl)
        have hNi : needF (j + 1) = 2 * needF j + 3 := rfl
        have hLi : longF (j + 1) = 2 * longF j + 6 := rfl
        have hLj := longF_le j (by omega)
        have hNj := needF_le j (by omega)
        go_wp2_with (first
          | (go_at_call 33; refine (HE.out _ _ kk _ (dplus d) (by omega) (by omega) HF.out).mono ?_; rintro e w2 ⟨s, kk, rfl, hs, hk', F⟩
             have HF := Lib.hid F
             clear F))
        go_ret
        refine ⟨_, _, rfl, ?_, by omega, HF.out⟩
        simp only [ByteArray.size_append, bsz2]
        omega
      have z8 : ¬ (y : Int) < 8 := by omega
      by_cases h11 : y < 11
      · have z11 : (y : Int) < 11 := by omega
        obtain ⟨j, rfl⟩ : ∃ j, i = j + 1 := ⟨i - 1, by omega⟩
        have HE := Lib.hid (HI.out j rfl)
        have hNi : needF (j + 1) = 2 * needF j + 3 := rfl
        have hLi : longF (j + 1) = 2 * longF j + 6 := rfl
        have hLj := longF_le j (by omega)
        have hNj := needF_le j (by omega)
        go_upto_region 11 with fail
        refine wp_region_G (R := RO w0) (by kernel_rfl) ?_
        refine wpG_take (RO.pre w0) (i := 0) (oi := ⟨some 49, _, _, _, _, _⟩) (v := ?uv0) rfl (by kernel_rfl) (by kernel_rfl) (by kernel_rfl) (fun _ _ _ h => h) (by kernel_rfl) ?uy0 ?ur0
        case uy0 =>
          intro wt hO
          go_simp
          try with_reducible rfl
        try simp only [Act.put, List.setIfInBounds_toArray, List.set_cons_zero, List.set_cons_succ]
        refine wpG_take (RO.pre w0) (i := 1) (oi := ⟨some 50, _, _, _, _, _⟩) (v := ?uv1) rfl (by kernel_rfl) (by kernel_rfl) (by kernel_rfl) (fun _ _ _ h => h) (by kernel_rfl) ?uy1 ?ur1
        case uy1 =>
          intro wt hO
          go_simp
          try with_reducible rfl
        try simp only [Act.put, List.setIfInBounds_toArray, List.set_cons_zero, List.set_cons_succ]
        refine wpG_take (RO.pre w0) (i := 2) (oi := ⟨some 51, _, _, _, _, _⟩) (v := ?uv2) rfl (by kernel_rfl) (by kernel_rfl) (by kernel_rfl) (fun _ _ _ h => h) (by kernel_rfl) ?uy2 ?ur2
        case uy2 =>
          intro wt hO
          have ew : IntKind.i64.wrap ((d : Int) + 1) = (d : Int) + 1 := wrap_fits ⟨by omega, by omega⟩
          go_simp
          try with_reducible rfl
        try simp only [Act.put, List.setIfInBounds_toArray, List.set_cons_zero, List.set_cons_succ]
        refine wpG_take (RO.pre w0) (i := 5) (oi := ⟨some 54, _, _, _, _, _⟩) (v := ?uv5) rfl (by kernel_rfl) (by kernel_rfl) (by kernel_rfl) (fun _ _ _ h => h) (by kernel_rfl) ?uy5 ?ur5
        case uy5 =>
          intro wt hO
          go_simp
          try with_reducible rfl
        try simp only [Act.put, List.setIfInBounds_toArray, List.set_cons_zero, List.set_cons_succ]
        refine wpG_take (RO.pre w0) (i := 6) (oi := ⟨some 55, _, _, _, _, _⟩) (v := ?uv6) rfl (by kernel_rfl) (by kernel_rfl) (by kernel_rfl) (fun _ _ _ h => h) (by kernel_rfl) ?uy6 ?ur6
        case uy6 =>
          intro wt hO
          go_simp
          try with_reducible rfl
        try simp only [Act.put, List.setIfInBounds_toArray, List.set_cons_zero, List.set_cons_succ]
        refine wpG_take (RO.pre w0) (i := 10) (oi := ⟨some 59, _, _, _, _, _⟩) (v := ?uv10) rfl (by kernel_rfl) (by kernel_rfl) (by kernel_rfl) (fun _ _ _ h => h) (by kernel_rfl) ?uy10 ?ur10
        case uy10 =>
          intro wt hO
          go_simp
          try with_reducible rfl
        try simp only [Act.put, List.setIfInBounds_toArray, List.set_cons_zero, List.set_cons_succ]
        refine wpG_take (RO.pre w0) (i := 11) (oi := ⟨some 60, _, _, _, _, _⟩) (v := ?uv11) rfl (by kernel_rfl) (by kernel_rfl) (by kernel_rfl) (fun _ _ _ h => h) (by kernel_rfl) ?uy11 ?ur11
        case uy11 =>
          intro wt hO
          go_simp
          try with_reducible rfl
        try simp only [Act.put, List.setIfInBounds_toArray, List.set_cons_zero, List.set_cons_succ]
        refine wpG_take (RO.pre w0) (i := 12) (oi := ⟨some 61, _, _, _, _, _⟩) (v := ?uv12) rfl (by kernel_rfl) (by kernel_rfl) (by kernel_rfl) (fun _ _ _ h => h) (by kernel_rfl) ?uy12 ?ur12
        case uy12 =>
          intro wt hO
          have ew : IntKind.i64.wrap ((d : Int) + 1) = (d : Int) + 1 := wrap_fits ⟨by omega, by omega⟩
          go_simp
          try with_reducible rfl
        try simp only [Act.put, List.setIfInBounds_toArray, List.set_cons_zero, List.set_cons_succ]
        refine wpG_call (RO.pre w0) (i := 3) (o := ⟨some 52, _, _, _, _, _⟩) rfl (by kernel_rfl) (by kernel_rfl) (fun K hK => ?_)
        go_simp
        refine (HE.out _ _ kk _ (dplus d) (by omega) (by omega) HF.out.drew).mono ?_
        rintro ye w2 ⟨s2, k2, rfl, hs2, hk2, F2⟩
        have HF2 := Lib.hid F2
        refine hK.out _ _ (fun _ => F2.old) ?_
        clear hK F2
        try simp only [Act.put, List.setIfInBounds_toArray, List.set_cons_zero, List.set_cons_succ]
        refine wpG_take (RO.pre w0) (i := 4) (oi := ⟨some 53, _, _, _, _, _⟩) (v := ?uv4) rfl (by kernel_rfl) (by kernel_rfl) (by kernel_rfl) (fun _ _ _ h => h) (by kernel_rfl) ?uy4 ?ur4
        case uy4 =>
          intro wt hO
          go_simp
          rw [if_neg (by omega)]
          try with_reducible rfl
        try simp only [Act.put, List.setIfInBounds_toArray, List.set_cons_zero, List.set_cons_succ]
        refine wpG_call (RO.pre w0) (i := 7) (o := ⟨some 56, _, _, _, _, _⟩) rfl (by kernel_rfl) (by kernel_rfl) (fun K hK => ?_)
        go_simp
        refine (HN.out 2 2 k2 _ rfl (by decide) (by decide) (by omega) HF2.out).mono ?_
        rintro ye w3 ⟨x3, k3, rfl, hx3, hk3, F3⟩
        have HF3 := Lib.hid F3
        have hix : ∀ w, (Instr.index 64 (.agg #[.string ((⟨#[32, 85, 32]⟩ : ByteArray)), .string ((⟨#[32, 82, 32]⟩ : ByteArray))]) (.int .i64 (x3 : Int))).run Tryd.prog w = .ok (.string (([(⟨#[32, 85, 32]⟩ : ByteArray), (⟨#[32, 82, 32]⟩ : ByteArray)] : List ByteArray).getD x3 ByteArray.empty)) w := fun w => run_index_strs Tryd.underlying64 [(⟨#[32, 85, 32]⟩ : ByteArray), (⟨#[32, 82, 32]⟩ : ByteArray)] x3 hx3 rfl w
        have hsz : (([(⟨#[32, 85, 32]⟩ : ByteArray), (⟨#[32, 82, 32]⟩ : ByteArray)] : List ByteArray).getD x3 ByteArray.empty).size ≤ 4 := one_of _ _ (by decide) x3
        obtain ⟨sg, hS⟩ : ∃ sg, ([(⟨#[32, 85, 32]⟩ : ByteArray), (⟨#[32, 82, 32]⟩ : ByteArray)] : List ByteArray).getD x3 ByteArray.empty = sg := ⟨_, rfl⟩
        rw [hS] at hsz
        simp only [hS] at hix
        refine hK.out _ _ (fun _ => F3.old) ?_
        clear hK F3
        try simp only [Act.put, List.setIfInBounds_toArray, List.set_cons_zero, List.set_cons_succ]
        refine wpG_take (RO.pre w0) (i := 8) (oi := ⟨some 57, _, _, _, _, _⟩) (v := ?uv8) rfl (by kernel_rfl) (by kernel_rfl) (by kernel_rfl) (fun _ _ _ h => h) (by kernel_rfl) ?uy8 ?ur8
        case uy8 =>
          intro wt hO
          go_simp
          try with_reducible rfl
        try simp only [Act.put, List.setIfInBounds_toArray, List.set_cons_zero, List.set_cons_succ]
        refine wpG_take (RO.pre w0) (i := 9) (oi := ⟨some 58, _, _, _, _, _⟩) (v := ?uv9) rfl (by kernel_rfl) (by kernel_rfl) (by kernel_rfl) (fun _ _ _ h => h) (by kernel_rfl) ?uy9 ?ur9
        case uy9 =>
          intro wt hO
          go_simp
          rw [if_neg (by omega)]
          try with_reducible rfl
        try simp only [Act.put, List.setIfInBounds_toArray, List.set_cons_zero, List.set_cons_succ]
        refine wpG_call (RO.pre w0) (i := 13) (o := ⟨some 62, _, _, _, _, _⟩) rfl (by kernel_rfl) (by kernel_rfl) (fun K hK => ?_)
        go_simp
        refine (HE.out _ _ k3 _ (dplus d) (by omega) (by omega) HF3.out).mono ?_
        rintro ye w4 ⟨s4, k4, rfl, hs4, hk4, F4⟩
        have HF4 := Lib.hid F4
        refine hK.out _ _ (fun _ => F4.old) ?_
        clear hK F4
        try simp only [Act.put, List.setIfInBounds_toArray, List.set_cons_zero, List.set_cons_succ]
        refine wpG_take (RO.pre w0) (i := 14) (oi := ⟨some 63, _, _, _, _, _⟩) (v := ?uv14) rfl (by kernel_rfl) (by kernel_rfl) (by kernel_rfl) (fun _ _ _ h => h) (by kernel_rfl) ?uy14 ?ur14
        case uy14 =>
          intro wt hO
          go_simp
          rw [if_neg (by omega)]
          try with_reducible rfl
        try simp only [Act.put, List.setIfInBounds_toArray, List.set_cons_zero, List.set_cons_succ]
        refine wpG_take (RO.pre w0) (i := 15) (oi := ⟨some 64, _, _, _, _, _⟩) (v := ?uv15) rfl (by kernel_rfl) (by kernel_rfl) (by kernel_rfl) (fun _ _ _ h => h) (by kernel_rfl) ?uy15 ?ur15
        case uy15 =>
          intro wt hO
          go_simp
          rw [if_neg (by omega)]
          try with_reducible rfl
        try simp only [Act.put, List.setIfInBounds_toArray, List.set_cons_zero, List.set_cons_succ]
        refine wpG_take (RO.pre w0) (i := 16) (oi := ⟨some 4, _, _, _, _, _⟩) (v := ?uv16) rfl (by kernel_rfl) (by kernel_rfl) (by kernel_rfl) (fun _ _ _ h => h) (by kernel_rfl) ?uy16 ?ur16
        case uy16 =>
          intro wt hO
          go_simp
          try with_reducible rfl
        try simp only [Act.put, List.setIfInBounds_toArray, List.set_cons_zero, List.set_cons_succ]
        refine wpG_done (by kernel_rfl) ?_ _
        go_wp2_with fail
        go_ret
        refine ⟨_, _, rfl, ?_, by omega, HF4.out⟩
        simp only [ByteArray.size_append, bsz1]
        omega
      have z11 : ¬ (y : Int) < 11 := by omega
      by_cases h15 : y < 15
      · have z15 : (y : Int) < 15 := by omega
        obtain ⟨j, rfl⟩ : ∃ j, i = j + 1 := ⟨i - 1, by omega⟩
        have HE := Lib.hid (HI.out j rfl)
        have hNi : needF (j + 1) = 2 * needF j + 3 := rfl
        have hLi : longF (j + 1) = 2 * longF j + 6 := rfl
        have hLj := longF_le j (by omega)
        have hNj := needF_le j (by omega)
        go_upto_region 13 with fail
        refine wp_region_G (R := RO w0) (by kernel_rfl) ?_
        refine wpG_take (RO.pre w0) (i := 0) (oi := ⟨some 68, _, _, _, _, _⟩) (v := ?vv0) rfl (by kernel_rfl) (by kernel_rfl) (by kernel_rfl) (fun _ _ _ h => h) (by kernel_rfl) ?vy0 ?vr0
        case vy0 =>
          intro wt hO
          go_simp
          try with_reducible rfl
        try simp only [Act.put, List.setIfInBounds_toArray, List.set_cons_zero, List.set_cons_succ]
        refine wpG_take (RO.pre w0) (i := 1) (oi := ⟨some 69, _, _, _, _, _⟩) (v := ?vv1) rfl (by kernel_rfl) (by kernel_rfl) (by kernel_rfl) (fun _ _ _ h => h) (by kernel_rfl) ?vy1 ?vr1
        case vy1 =>
          intro wt hO
          go_simp
          try with_reducible rfl
        try simp only [Act.put, List.setIfInBounds_toArray, List.set_cons_zero, List.set_cons_succ]
        refine wpG_take (RO.pre w0) (i := 2) (oi := ⟨some 70, _, _, _, _, _⟩) (v := ?vv2) rfl (by kernel_rfl) (by kernel_rfl) (by kernel_rfl) (fun _ _ _ h => h) (by kernel_rfl) ?vy2 ?vr2
        case vy2 =>
          intro wt hO
          have ew : IntKind.i64.wrap ((d : Int) + 1) = (d : Int) + 1 := wrap_fits ⟨by omega, by omega⟩
          go_simp
          try with_reducible rfl
        try simp only [Act.put, List.setIfInBounds_toArray, List.set_cons_zero, List.set_cons_succ]
        refine wpG_take (RO.pre w0) (i := 5) (oi := ⟨some 73, _, _, _, _, _⟩) (v := ?vv5) rfl (by kernel_rfl) (by kernel_rfl) (by kernel_rfl) (fun _ _ _ h => h) (by kernel_rfl) ?vy5 ?vr5
        case vy5 =>
          intro wt hO
          go_simp
          try with_reducible rfl
        try simp only [Act.put, List.setIfInBounds_toArray, List.set_cons_zero, List.set_cons_succ]
        refine wpG_take (RO.pre w0) (i := 6) (oi := ⟨some 74, _, _, _, _, _⟩) (v := ?vv6) rfl (by kernel_rfl) (by kernel_rfl) (by kernel_rfl) (fun _ _ _ h => h) (by kernel_rfl) ?vy6 ?vr6
        case vy6 =>
          intro wt hO
          go_simp
          try with_reducible rfl
        try simp only [Act.put, List.setIfInBounds_toArray, List.set_cons_zero, List.set_cons_succ]
        refine wpG_take (RO.pre w0) (i := 10) (oi := ⟨some 78, _, _, _, _, _⟩) (v := ?vv10) rfl (by kernel_rfl) (by kernel_rfl) (by kernel_rfl) (fun _ _ _ h => h) (by kernel_rfl) ?vy10 ?vr10
        case vy10 =>
          intro wt hO
          go_simp
          try with_reducible rfl
        try simp only [Act.put, List.setIfInBounds_toArray, List.set_cons_zero, List.set_cons_succ]
        refine wpG_take (RO.pre w0) (i := 11) (oi := ⟨some 79, _, _, _, _, _⟩) (v := ?vv11) rfl (by kernel_rfl) (by kernel_rfl) (by kernel_rfl) (fun _ _ _ h => h) (by kernel_rfl) ?vy11 ?vr11
        case vy11 =>
          intro wt hO
          go_simp
          try with_reducible rfl
        try simp only [Act.put, List.setIfInBounds_toArray, List.set_cons_zero, List.set_cons_succ]
        refine wpG_take (RO.pre w0) (i := 12) (oi := ⟨some 80, _, _, _, _, _⟩) (v := ?vv12) rfl (by kernel_rfl) (by kernel_rfl) (by kernel_rfl) (fun _ _ _ h => h) (by kernel_rfl) ?vy12 ?vr12
        case vy12 =>
          intro wt hO
          have ew : IntKind.i64.wrap ((d : Int) + 1) = (d : Int) + 1 := wrap_fits ⟨by omega, by omega⟩
          go_simp
          try with_reducible rfl
        try simp only [Act.put, List.setIfInBounds_toArray, List.set_cons_zero, List.set_cons_succ]
        refine wpG_call (RO.pre w0) (i := 3) (o := ⟨some 71, _, _, _, _, _⟩) rfl (by kernel_rfl) (by kernel_rfl) (fun K hK => ?_)
        go_simp
        refine (HE.out _ _ kk _ (dplus d) (by omega) (by omega) HF.out.drew).mono ?_
        rintro ye w2 ⟨s2, k2, rfl, hs2, hk2, F2⟩
        have HF2 := Lib.hid F2
        refine hK.out _ _ (fun _ => F2.old) ?_
        clear hK F2
        try simp only [Act.put, List.setIfInBounds_toArray, List.set_cons_zero, List.set_cons_succ]
        refine wpG_take (RO.pre w0) (i := 4) (oi := ⟨some 72, _, _, _, _, _⟩) (v := ?vv4) rfl (by kernel_rfl) (by kernel_rfl) (by kernel_rfl) (fun _ _ _ h => h) (by kernel_rfl) ?vy4 ?vr4
        case vy4 =>
          intro wt hO
          go_simp
          rw [if_neg (by omega)]
          try with_reducible rfl
        try simp only [Act.put, List.setIfInBounds_toArray, List.set_cons_zero, List.set_cons_succ]
        refine wpG_call (RO.pre w0) (i := 7) (o := ⟨some 75, _, _, _, _, _⟩) rfl (by kernel_rfl) (by kernel_rfl) (fun K hK => ?_)
        go_simp
        refine (HN.out 3 3 k2 _ rfl (by decide) (by decide) (by omega) HF2.out).mono ?_
        rintro ye w3 ⟨x3, k3, rfl, hx3, hk3, F3⟩
        have HF3 := Lib.hid F3
        have hix : ∀ w, (Instr.index 55 (.agg #[.string ((⟨#[32, 38, 38, 32]⟩ : ByteArray)), .string ((⟨#[32, 124, 124, 32]⟩ : ByteArray)), .string ((⟨#[32, 45, 62, 32]⟩ : ByteArray))]) (.int .i64 (x3 : Int))).run Tryd.prog w = .ok (.string (([(⟨#[32, 38, 38, 32]⟩ : ByteArray), (⟨#[32, 124, 124, 32]⟩ : ByteArray), (⟨#[32, 45, 62, 32]⟩ : ByteArray)] : List ByteArray).getD x3 ByteArray.empty)) w := fun w => run_index_strs Tryd.underlying55 [(⟨#[32, 38, 38, 32]⟩ : ByteArray), (⟨#[32, 124, 124, 32]⟩ : ByteArray), (⟨#[32, 45, 62, 32]⟩ : ByteArray)] x3 hx3 rfl w
        have hsz : (([(⟨#[32, 38, 38, 32]⟩ : ByteArray), (⟨#[32, 124, 124, 32]⟩ : ByteArray), (⟨#[32, 45, 62, 32]⟩ : ByteArray)] : List ByteArray).getD x3 ByteArray.empty).size ≤ 4 := one_of _ _ (by decide) x3
        obtain ⟨sg, hS⟩ : ∃ sg, ([(⟨#[32, 38, 38, 32]⟩ : ByteArray), (⟨#[32, 124, 124, 32]⟩ : ByteArray), (⟨#[32, 45, 62, 32]⟩ : ByteArray)] : List ByteArray).getD x3 ByteArray.empty = sg := ⟨_, rfl⟩
        rw [hS] at hsz
        simp only [hS] at hix
        refine hK.out _ _ (fun _ => F3.old) ?_
        clear hK F3
        try simp only [Act.put, List.setIfInBounds_toArray, List.set_cons_zero, List.set_cons_succ]
        refine wpG_take (RO.pre w0) (i := 8) (oi := ⟨some 76, _, _, _, _, _⟩) (v := ?vv8) rfl (by kernel_rfl) (by kernel_rfl) (by kernel_rfl) (fun _ _ _ h => h) (by kernel_rfl) ?vy8 ?vr8
        case vy8 =>
          intro wt hO
          go_simp
          try with_reducible rfl
        try simp only [Act.put, List.setIfInBounds_toArray, List.set_cons_zero, List.set_cons_succ]
        refine wpG_take (RO.pre w0) (i := 9) (oi := ⟨some 77, _, _, _, _, _⟩) (v := ?vv9) rfl (by kernel_rfl) (by kernel_rfl) (by kernel_rfl) (fun _ _ _ h => h) (by kernel_rfl) ?vy9 ?vr9
        case vy9 =>
          intro wt hO
          go_simp
          rw [if_neg (by omega)]
          try with_reducible rfl
        try simp only [Act.put, List.setIfInBounds_toArray, List.set_cons_zero, List.set_cons_succ]
        refine wpG_call (RO.pre w0) (i := 13) (o := ⟨some 81, _, _, _, _, _⟩) rfl (by kernel_rfl) (by kernel_rfl) (fun K hK => ?_)
        go_simp
        refine (HE.out _ _ k3 _ (dplus d) (by omega) (by omega) HF3.out).mono ?_
        rintro ye w4 ⟨s4, k4, rfl, hs4, hk4, F4⟩
        have HF4 := Lib.hid F4
        refine hK.out _ _ (fun _ => F4.old) ?_
        clear hK F4
        try simp only [Act.put, List.setIfInBounds_toArray, List.set_cons_zero, List.set_cons_succ]
        refine wpG_take (RO.pre w0) (i := 14) (oi := ⟨some 82, _, _, _, _, _⟩) (v := ?vv14) rfl (by kernel_rfl) (by kernel_rfl) (by kernel_rfl) (fun _ _ _ h => h) (by kernel_rfl) ?vy14 ?vr14
        case vy14 =>
          intro wt hO
          go_simp
          rw [if_neg (by omega)]
          try with_reducible rfl
        try simp only [Act.put, List.setIfInBounds_toArray, List.set_cons_zero, List.set_cons_succ]
        refine wpG_take (RO.pre w0) (i := 15) (oi := ⟨some 83, _, _, _, _, _⟩) (v := ?vv15) rfl (by kernel_rfl) (by kernel_rfl) (by kernel_rfl) (fun _ _ _ h => h) (by kernel_rfl) ?vy15 ?vr15
        case vy15 =>
          intro wt hO
          go_simp
          rw [if_neg (by omega)]
          try with_reducible rfl
        try simp only [Act.put, List.setIfInBounds_toArray, List.set_cons_zero, List.set_cons_succ]
        refine wpG_take (RO.pre w0) (i := 16) (oi := ⟨some 4, _, _, _, _, _⟩) (v := ?vv16) rfl (by kernel_rfl) (by kernel_rfl) (by kernel_rfl) (fun _ _ _ h => h) (by kernel_rfl) ?vy16 ?vr16
        case vy16 =>
          intro wt hO
          go_simp
          try with_reducible rfl
        try simp only [Act.put, List.setIfInBounds_toArray, List.set_cons_zero, List.set_cons_succ]
        refine wpG_done (by kernel_rfl) ?_ _
        go_wp2_with fail
        go_ret
        refine ⟨_, _, rfl, ?_, by omega, HF4.out⟩
        simp only [ByteArray.size_append, bsz1]
        omega
      have z15 : ¬ (y : Int) < 15 := by omega
      by_cases h17 : y < 17
      · have z17 : (y : Int) < 17 := by omega
        obtain ⟨j, rfl⟩ : ∃ j, i = j + 1 := ⟨i - 1, by omega⟩
        have HE := Lib.hid (HI.out j rfl)
        have hNi : needF (j + 1) = 2 * needF j + 3 := rfl
        have hLi : longF (j + 1) = 2 * longF j + 6 := rfl
        have hLj := longF_le j (by omega)
        have hNj := needF_le j (by omega)
        go_wp2_with (first
          | (go_at_call 33; refine (HE.out _ _ kk _ (dplus d) (by omega) (by omega) HF.out).mono ?_; rintro e w2 ⟨s, kk, rfl, hs, hk', F⟩
             have HF := Lib.hid F
             clear F))
        go_ret
        refine ⟨_, _, rfl, ?_, by omega, HF.out⟩
        simp only [ByteArray.size_append, bsz1]
        omega
      have z17 : ¬ (y : Int) < 17 := by omega
      by_cases h17 : y = 17
      · subst h17
        obtain ⟨j, rfl⟩ : ∃ j, i = j + 1 := ⟨i - 1, by omega⟩
        have HE := Lib.hid (HI.out j rfl)
        have hNi : needF (j + 1) = 2 * needF j + 3 := rfl
        have hLi : longF (j + 1) = 2 * longF j + 6 := rfl
        have hLj := longF_le j (by omega)
        have hNj := needF_le j (by omega)
        go_wp2_with (first
          | (go_at_call 33; refine (HE.out _ _ kk _ (dplus d) (by omega) (by omega) HF.out).mono ?_; rintro e w2 ⟨s, kk, rfl, hs, hk', F⟩
             have HF := Lib.hid F
             clear F))
        go_ret
        refine ⟨_, _, rfl, ?_, by omega, HF.out⟩
        simp only [ByteArray.size_append, bsz4]
        omega
      have z17 : ¬ (y : Int) = 17 := by omega
      by_cases h18 : y = 18
      · subst h18
        go_wp2_with (first
          | (go_at_call_of 35 (Value.int .i64 2); refine (HN.out 2 2 kk _ rfl (by decide) (by decide) (by omega) HF.out).mono ?_; rintro e w2 ⟨x, kk, rfl, hx, hk', F⟩
             have HF := Lib.hid F
             have hix : ∀ w, (Instr.index 64 (.agg #[.string ((⟨#[116, 114, 117, 101]⟩ : ByteArray)), .string ((⟨#[102, 97, 108, 115, 101]⟩ : ByteArray))]) (.int .i64 (x : Int))).run Tryd.prog w = .ok (.string (([(⟨#[116, 114, 117, 101]⟩ : ByteArray), (⟨#[102, 97, 108, 115, 101]⟩ : ByteArray)] : List ByteArray).getD x ByteArray.empty)) w := fun w => run_index_strs Tryd.underlying64 [(⟨#[116, 114, 117, 101]⟩ : ByteArray), (⟨#[102, 97, 108, 115, 101]⟩ : ByteArray)] x hx rfl w
             have hsz : (([(⟨#[116, 114, 117, 101]⟩ : ByteArray), (⟨#[102, 97, 108, 115, 101]⟩ : ByteArray)] : List ByteArray).getD x ByteArray.empty).size ≤ 10 := one_of _ _ (by decide) x
             obtain ⟨sg, hS⟩ : ∃ sg, ([(⟨#[116, 114, 117, 101]⟩ : ByteArray), (⟨#[102, 97, 108, 115, 101]⟩ : ByteArray)] : List ByteArray).getD x ByteArray.empty = sg := ⟨_, rfl⟩
             rw [hS] at hsz
             simp only [hS] at hix
             clear F))
        go_ret
        exact ⟨_, _, rfl, by omega, by omega, HF.out⟩
      have z18 : ¬ (y : Int) = 18 := by omega
      go_wp2_with (first
        | (go_at_call_of 35 (Value.int .i64 6); refine (HN.out 6 6 kk _ rfl (by decide) (by decide) (by omega) HF.out).mono ?_; rintro e w2 ⟨x, kk, rfl, hx, hk', F⟩
           have HF := Lib.hid F
           have hix : ∀ w, (Instr.index 65 (.agg #[.string ((⟨#[91, 120, 61, 61, 49, 93]⟩ : ByteArray)), .string ((⟨#[91, 112, 64, 97, 93]⟩ : ByteArray)), .string ((⟨#[91, 121, 60, 49, 93]⟩ : ByteArray)), .string ((⟨#[91, 113, 64, 98, 38, 38, 120, 62, 48, 93]⟩ : ByteArray)), .string ((⟨#[91, 120, 61, 61, 121, 93]⟩ : ByteArray)), .string ((⟨#[91, 112, 64, 98, 93]⟩ : ByteArray))]) (.int .i64 (x : Int))).run Tryd.prog w = .ok (.string (([(⟨#[91, 120, 61, 61, 49, 93]⟩ : ByteArray), (⟨#[91, 112, 64, 97, 93]⟩ : ByteArray), (⟨#[91, 121, 60, 49, 93]⟩ : ByteArray), (⟨#[91, 113, 64, 98, 38, 38, 120, 62, 48, 93]⟩ : ByteArray), (⟨#[91, 120, 61, 61, 121, 93]⟩ : ByteArray), (⟨#[91, 112, 64, 98, 93]⟩ : ByteArray)] : List ByteArray).getD x ByteArray.empty)) w := fun w => run_index_strs Tryd.underlying65 [(⟨#[91, 120, 61, 61, 49, 93]⟩ : ByteArray), (⟨#[91, 112, 64, 97, 93]⟩ : ByteArray), (⟨#[91, 121, 60, 49, 93]⟩ : ByteArray), (⟨#[91, 113, 64, 98, 38, 38, 120, 62, 48, 93]⟩ : ByteArray), (⟨#[91, 120, 61, 61, 121, 93]⟩ : ByteArray), (⟨#[91, 112, 64, 98, 93]⟩ : ByteArray)] x hx rfl w
           have hsz : (([(⟨#[91, 120, 61, 61, 49, 93]⟩ : ByteArray), (⟨#[91, 112, 64, 97, 93]⟩ : ByteArray), (⟨#[91, 121, 60, 49, 93]⟩ : ByteArray), (⟨#[91, 113, 64, 98, 38, 38, 120, 62, 48, 93]⟩ : ByteArray), (⟨#[91, 120, 61, 61, 121, 93]⟩ : ByteArray), (⟨#[91, 112, 64, 98, 93]⟩ : ByteArray)] : List ByteArray).getD x ByteArray.empty).size ≤ 10 := one_of _ _ (by decide) x
           obtain ⟨sg, hS⟩ : ∃ sg, ([(⟨#[91, 120, 61, 61, 49, 93]⟩ : ByteArray), (⟨#[91, 112, 64, 97, 93]⟩ : ByteArray), (⟨#[91, 121, 60, 49, 93]⟩ : ByteArray), (⟨#[91, 113, 64, 98, 38, 38, 120, 62, 48, 93]⟩ : ByteArray), (⟨#[91, 120, 61, 61, 121, 93]⟩ : ByteArray), (⟨#[91, 112, 64, 98, 93]⟩ : ByteArray)] : List ByteArray).getD x ByteArray.empty = sg := ⟨_, rfl⟩
           rw [hS] at hsz
           simp only [hS] at hix
           clear F))
      go_ret
      exact ⟨_, _, rfl, by omega, by omega, HF.out⟩
theorem form_any (w0 : World) (f n c : Nat) (a : Option Addr) : ∀ i, i ≤ 3 → FormC w0 f a n c i
  | 0, h => form_step 0 h (fun j e => by omega)
  | i + 1, h => form_step (i + 1) h (fun j e => by
    obtain rfl : j = i := by omega
    exact form_any w0 f n c a j (by omega))
end Go.Proofs.YtdfodmnjgpgojaaDoor
