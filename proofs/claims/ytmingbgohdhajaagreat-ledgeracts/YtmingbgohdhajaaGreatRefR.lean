/- The contract of lariatref3.read. -/
import Derived.Test.YtmingbgohdhajaaGreatRefF
namespace Go.Proofs.YtmingbgohdhajaaGreat
open Go.RowKit
set_option maxRecDepth 100000
set_option linter.unusedSimpArgs false

/-- The round and the leaves of a cover; 0, 0: it is none. -/
def readR (b : List Nat) (k n : Nat) : Nat × Nat := if readC b k n then (roundC b, leavesC b) else (0, 0)
theorem rread_down {w0 w : World} {r : Nat} {D : DS} (h : Rs w0 r D w) (k : Nat) (hk : k < D.T.length) (hd : D.down = true) :
    Calls Tryz.prog 44 #[.pointer (some ⟨r, 0, none⟩), .int .i64 (k : Int)] w fun e w' => e = .returned (.tuple #[.int .i64 0, .int .i64 0, .int .i64 4]) ∧ w = w' := by
  have H := Lib.hid (rlook_down h k hk hd)
  clear h hk hd
  go_enter Tryz.func44, Tryz.ntmps44
  go_wp2_with fail
  refine H.out.mono ?_
  rintro x w' ⟨rfl, rfl⟩
  clear H
  go_wp2_with fail
  go_ret3
  exact ⟨rfl, rfl⟩

set_option maxHeartbeats 6400000 in
theorem rread_any {w0 w : World} {r : Nat} {D : DS} (h : Rs w0 r D w) (ok : D.Ok) (ht : D.turns ≤ 100000) (k : Nat) (hk : k < 2) (hd : D.down = false) :
    Calls Tryz.prog 44 #[.pointer (some ⟨r, 0, none⟩), .int .i64 (k : Int)] w fun e w' => e = .returned (.tuple #[.int .i64 ((readR (D.seen.getD k []) k D.T.length).1 : Nat), .int .i64 ((readR (D.seen.getD k []) k D.T.length).2 : Nat), .int .i64 0]) ∧ Old w w' := by
  have hfew := ok.few
  have H := Lib.hid (rlook_ok h ok ht k (by omega) hd)
  have HMb : Hid (∀ w', Old w w' → ∀ l : Nat, l ≤ 65535 → Calls Tryz.prog 40 #[.pointer (some ⟨r, 0, none⟩), .int .i64 (l : Int)] w' fun e w'' => e = .returned (.bool (fits l D.T.length)) ∧ w' = w'') := fun w' hO l hl => rmayBe_any (h.old hO) ok.many l hl
  have HTr : Hid (Trk (D.seen.getD k [])) := by
    obtain ⟨o, ho⟩ := get_of_lt (l := D.seen) (n := k) (by rw [DS.seen_length]; omega)
    show Trk _
    rw [getD_of ho]
    exact DS.seen_trk ok _ (mem_of_get ho)
  clear h ok ht hd
  generalize D.seen.getD k [] = b at *
  generalize D.T.length = n at *
  have hqb : num b 4 < 4294967296 := by have := num_lt HTr.out.byte 4; simpa using this
  have hlb : num (b.drop 4) 2 < 65536 := by have := num_lt (xs := b.drop 4) (fun x hx => HTr.out.byte x (List.mem_of_mem_drop hx)) 2; simpa using this
  have Hq4 : Hid (num (b.take 4) 4 = num b 4) := by show _ = _; simp only [num]; rw [at0_take (by omega), at0_take (by omega), at0_take (by omega), at0_take (by omega)]
  have Hl2 : Hid (num ((b.drop 4).take 2) 2 = num (b.drop 4) 2) := by show _ = _; simp only [num]; rw [at0_take (by omega), at0_take (by omega)]
  have HRd : Hid (readR b k n = if (0 < num b 4 ∧ num b 4 % 2 = k ∧ fits (num (b.drop 4) 2) n = true ∧ b = cover (num b 4) (num (b.drop 4) 2)) then (num b 4, num (b.drop 4) 2) else (0, 0)) := by
    show _ = _
    unfold readR readC roundC leavesC
    simp only [Bool.and_eq_true, decide_eq_true_eq]
  generalize readR b k n = R at *
  generalize hqe : num b 4 = q at *
  generalize hle : num (b.drop 4) 2 = l at *
  clear hqe hle
  have HMb' : Hid (∀ w', Old w w' → Calls Tryz.prog 40 #[.pointer (some ⟨r, 0, none⟩), .int .i64 (l : Int)] w' fun e w'' => e = .returned (.bool (fits l n)) ∧ w' = w'') := fun w' hO => HMb.out w' hO l (by omega)
  clear HMb
  have e2 : (q : Int).tmod 2 = ((q % 2 : Nat) : Int) := by rw [Int.tmod_eq_emod_of_nonneg (by omega)]; omega
  have hq2 : q % 2 < 2 := by omega
  generalize hqm : q % 2 = q2 at *
  go_enter Tryz.func44, Tryz.ntmps44
  go_wp2_with fail
  refine H.out.mono ?_
  rintro x w1 ⟨g1, c1, rfl, hc1, hg1, L1, O1⟩
  have HL1 := Lib.hid L1
  have HO1 := Lib.hid O1
  have HMb : Hid (∀ w', Old w1 w' → Calls Tryz.prog 40 #[.pointer (some ⟨r, 0, none⟩), .int .i64 (l : Int)] w' fun e w'' => e = .returned (.bool (fits l n)) ∧ w' = w'') := fun w' hO => HMb'.out w' (O1.trans hO)
  clear L1 O1 H hg1 HMb'
  go_wp2_with fail
  refine (rnumber_any _ (b.take 4) 4 _ w1 (HL1.out.has.take 4) (by rw [List.length_take, HTr.out.len]; omega) (by omega)).mono ?_
  rintro x w' ⟨rfl, rfl⟩
  rw [Hq4.out]
  go_wp2_with fail
  refine (rnumber_any _ ((b.drop 4).take 2) 2 _ w1 (HL1.out.has.part 4 2) (by rw [List.length_take, List.length_drop, HTr.out.len]; omega) (by omega)).mono ?_
  rintro x w' ⟨rfl, rfl⟩
  rw [Hl2.out]
  clear Hq4 Hl2
  by_cases hA : (q : Int) < 1
  · have HN : Hid (R = (0, 0)) := by show _ = _; rw [HRd.out, if_neg (fun c => by omega)]
    clear HRd hqm
    go_wp2_with fail
    refine wp_region_grow (by kernel_rfl) ?_
    refine wpGrow_take (i := 0) (oi := ⟨some 26, _, _, _, _, _⟩) (v := ?cav0) rfl (by kernel_rfl) (by kernel_rfl) (by kernel_rfl) (fun _ _ _ h => h) (by kernel_rfl) ?cay0 ?car0
    case cay0 =>
      intro wt hO
      go_simp
      try with_reducible rfl
    try simp only [Act.put, List.setIfInBounds_toArray, List.set_cons_zero, List.set_cons_succ]
    refine wpGrow_take (i := 1) (oi := ⟨some 27, _, _, _, _, _⟩) (v := ?cav1) rfl (by kernel_rfl) (by kernel_rfl) (by kernel_rfl) (fun _ _ _ h => h) (by kernel_rfl) ?cay1 ?car1
    case cay1 =>
      intro wt hO
      go_simp
      try with_reducible rfl
    try simp only [Act.put, List.setIfInBounds_toArray, List.set_cons_zero, List.set_cons_succ]
    refine wpGrow_take (i := 2) (oi := ⟨some 28, _, _, _, _, _⟩) (v := ?cav2) rfl (by kernel_rfl) (by kernel_rfl) (by kernel_rfl) (fun _ _ _ h => h) (by kernel_rfl) ?cay2 ?car2
    case cay2 =>
      intro wt hO
      go_simp
      try with_reducible rfl
    try simp only [Act.put, List.setIfInBounds_toArray, List.set_cons_zero, List.set_cons_succ]
    refine wpGrow_skip (i := 3) (oi := ⟨some 29, _, _, _, _, _⟩) rfl (by kernel_rfl) (by kernel_rfl) (by kernel_rfl) (fun _ _ _ h => h) (by kernel_rfl) ?_
    try simp only [Act.put, List.setIfInBounds_toArray, List.set_cons_zero, List.set_cons_succ]
    refine wpGrow_skip (i := 4) (oi := ⟨some 30, _, _, _, _, _⟩) rfl (by kernel_rfl) (by kernel_rfl) (by kernel_rfl) (fun _ _ _ h => h) (by kernel_rfl) ?_
    try simp only [Act.put, List.setIfInBounds_toArray, List.set_cons_zero, List.set_cons_succ]
    refine wpGrow_skip (i := 5) (oi := ⟨some 31, _, _, _, _, _⟩) rfl (by kernel_rfl) (by kernel_rfl) (by kernel_rfl) (fun _ _ _ h => h) (by kernel_rfl) ?_
    try simp only [Act.put, List.setIfInBounds_toArray, List.set_cons_zero, List.set_cons_succ]
    refine wpGrow_skip (i := 6) (oi := ⟨some 32, _, _, _, _, _⟩) rfl (by kernel_rfl) (by kernel_rfl) (by kernel_rfl) (fun _ _ _ h => h) (by kernel_rfl) ?_
    try simp only [Act.put, List.setIfInBounds_toArray, List.set_cons_zero, List.set_cons_succ]
    refine wpGrow_take (i := 7) (oi := ⟨some 33, _, _, _, _, _⟩) (v := ?cav7) rfl (by kernel_rfl) (by kernel_rfl) (by kernel_rfl) (fun _ _ _ h => h) (by kernel_rfl) ?cay7 ?car7
    case cay7 =>
      intro wt hO
      go_simp
      try with_reducible rfl
    try simp only [Act.put, List.setIfInBounds_toArray, List.set_cons_zero, List.set_cons_succ]
    refine wpGrow_take (i := 8) (oi := ⟨some 34, _, _, _, _, _⟩) (v := ?cav8) rfl (by kernel_rfl) (by kernel_rfl) (by kernel_rfl) (fun _ _ _ h => h) (by kernel_rfl) ?cay8 ?car8
    case cay8 =>
      intro wt hO
      go_simp
      try with_reducible rfl
    try simp only [Act.put, List.setIfInBounds_toArray, List.set_cons_zero, List.set_cons_succ]
    refine wpGrow_skip (i := 9) (oi := ⟨some 35, _, _, _, _, _⟩) rfl (by kernel_rfl) (by kernel_rfl) (by kernel_rfl) (fun _ _ _ h => h) (by kernel_rfl) ?_
    try simp only [Act.put, List.setIfInBounds_toArray, List.set_cons_zero, List.set_cons_succ]
    refine wpGrow_skip (i := 10) (oi := ⟨some 36, _, _, _, _, _⟩) rfl (by kernel_rfl) (by kernel_rfl) (by kernel_rfl) (fun _ _ _ h => h) (by kernel_rfl) ?_
    try simp only [Act.put, List.setIfInBounds_toArray, List.set_cons_zero, List.set_cons_succ]
    refine wpGrow_skip (i := 11) (oi := ⟨some 37, _, _, _, _, _⟩) rfl (by kernel_rfl) (by kernel_rfl) (by kernel_rfl) (fun _ _ _ h => h) (by kernel_rfl) ?_
    try simp only [Act.put, List.setIfInBounds_toArray, List.set_cons_zero, List.set_cons_succ]
    refine wpGrow_skip (i := 12) (oi := ⟨some 38, _, _, _, _, _⟩) rfl (by kernel_rfl) (by kernel_rfl) (by kernel_rfl) (fun _ _ _ h => h) (by kernel_rfl) ?_
    try simp only [Act.put, List.setIfInBounds_toArray, List.set_cons_zero, List.set_cons_succ]
    refine wpGrow_take (i := 13) (oi := ⟨some 39, _, _, _, _, _⟩) (v := ?cav13) rfl (by kernel_rfl) (by kernel_rfl) (by kernel_rfl) (fun _ _ _ h => h) (by kernel_rfl) ?cay13 ?car13
    case cay13 =>
      intro wt hO
      go_simp
      try with_reducible rfl
    try simp only [Act.put, List.setIfInBounds_toArray, List.set_cons_zero, List.set_cons_succ]
    refine wpGrow_take (i := 14) (oi := ⟨some 40, _, _, _, _, _⟩) (v := ?cav14) rfl (by kernel_rfl) (by kernel_rfl) (by kernel_rfl) (fun _ _ _ h => h) (by kernel_rfl) ?cay14 ?car14
    case cay14 =>
      intro wt hO
      go_simp
      try with_reducible rfl
    try simp only [Act.put, List.setIfInBounds_toArray, List.set_cons_zero, List.set_cons_succ]
    refine wpGrow_skip (i := 15) (oi := ⟨some 41, _, _, _, _, _⟩) rfl (by kernel_rfl) (by kernel_rfl) (by kernel_rfl) (fun _ _ _ h => h) (by kernel_rfl) ?_
    try simp only [Act.put, List.setIfInBounds_toArray, List.set_cons_zero, List.set_cons_succ]
    refine wpGrow_skip (i := 16) (oi := ⟨some 42, _, _, _, _, _⟩) rfl (by kernel_rfl) (by kernel_rfl) (by kernel_rfl) (fun _ _ _ h => h) (by kernel_rfl) ?_
    try simp only [Act.put, List.setIfInBounds_toArray, List.set_cons_zero, List.set_cons_succ]
    refine wpGrow_skip (i := 17) (oi := ⟨some 43, _, _, _, _, _⟩) rfl (by kernel_rfl) (by kernel_rfl) (by kernel_rfl) (fun _ _ _ h => h) (by kernel_rfl) ?_
    try simp only [Act.put, List.setIfInBounds_toArray, List.set_cons_zero, List.set_cons_succ]
    refine wpGrow_skip (i := 18) (oi := ⟨some 44, _, _, _, _, _⟩) rfl (by kernel_rfl) (by kernel_rfl) (by kernel_rfl) (fun _ _ _ h => h) (by kernel_rfl) ?_
    try simp only [Act.put, List.setIfInBounds_toArray, List.set_cons_zero, List.set_cons_succ]
    refine wpGrow_skip (i := 19) (oi := ⟨some 45, _, _, _, _, _⟩) rfl (by kernel_rfl) (by kernel_rfl) (by kernel_rfl) (fun _ _ _ h => h) (by kernel_rfl) ?_
    try simp only [Act.put, List.setIfInBounds_toArray, List.set_cons_zero, List.set_cons_succ]
    refine wpGrow_skip (i := 20) (oi := ⟨some 46, _, _, _, _, _⟩) rfl (by kernel_rfl) (by kernel_rfl) (by kernel_rfl) (fun _ _ _ h => h) (by kernel_rfl) ?_
    try simp only [Act.put, List.setIfInBounds_toArray, List.set_cons_zero, List.set_cons_succ]
    refine wpGrow_skip (i := 21) (oi := ⟨some 47, _, _, _, _, _⟩) rfl (by kernel_rfl) (by kernel_rfl) (by kernel_rfl) (fun _ _ _ h => h) (by kernel_rfl) ?_
    try simp only [Act.put, List.setIfInBounds_toArray, List.set_cons_zero, List.set_cons_succ]
    refine wpGrow_take (i := 22) (oi := ⟨some 48, _, _, _, _, _⟩) (v := ?cav22) rfl (by kernel_rfl) (by kernel_rfl) (by kernel_rfl) (fun _ _ _ h => h) (by kernel_rfl) ?cay22 ?car22
    case cay22 =>
      intro wt hO
      go_simp
      try with_reducible rfl
    try simp only [Act.put, List.setIfInBounds_toArray, List.set_cons_zero, List.set_cons_succ]
    refine wpGrow_done (by kernel_rfl) ?_ _
    go_wp2_with fail
    go_ret3
    exact ⟨by rw [HN.out]; rfl, HO1.out.drew⟩
  · have hA1 : decide ((q : Int) < 1) = false := decide_eq_false hA
    by_cases hB : q2 = k
    · have hB1 : ((q2 : Int) != (k : Int)) = false := by rw [hB]; simp
      have hB2 : ((q2 : Int) == (k : Int)) = true := by rw [hB]; simp
      cases hF : fits l n with
      | false =>
        rw [hF] at HMb
        have HN : Hid (R = (0, 0)) := by show _ = _; rw [HRd.out, if_neg (fun c => by rw [hF] at c; exact absurd c.2.2.1 (by decide))]
        clear HRd hqm hB hF
        go_wp2_with fail
        refine wp_region_grow (by kernel_rfl) ?_
        refine wpGrow_take (i := 0) (oi := ⟨some 26, _, _, _, _, _⟩) (v := ?ccv0) rfl (by kernel_rfl) (by kernel_rfl) (by kernel_rfl) (fun _ _ _ h => h) (by kernel_rfl) ?ccy0 ?ccr0
        case ccy0 =>
          intro wt hO
          go_simp
          try with_reducible rfl
        try simp only [Act.put, List.setIfInBounds_toArray, List.set_cons_zero, List.set_cons_succ]
        refine wpGrow_take (i := 1) (oi := ⟨some 27, _, _, _, _, _⟩) (v := ?ccv1) rfl (by kernel_rfl) (by kernel_rfl) (by kernel_rfl) (fun _ _ _ h => h) (by kernel_rfl) ?ccy1 ?ccr1
        case ccy1 =>
          intro wt hO
          go_simp
          try with_reducible rfl
        try simp only [Act.put, List.setIfInBounds_toArray, List.set_cons_zero, List.set_cons_succ]
        refine wpGrow_take (i := 2) (oi := ⟨some 28, _, _, _, _, _⟩) (v := ?ccv2) rfl (by kernel_rfl) (by kernel_rfl) (by kernel_rfl) (fun _ _ _ h => h) (by kernel_rfl) ?ccy2 ?ccr2
        case ccy2 =>
          intro wt hO
          go_simp
          try with_reducible rfl
        try simp only [Act.put, List.setIfInBounds_toArray, List.set_cons_zero, List.set_cons_succ]
        refine wpGrow_take (i := 3) (oi := ⟨some 29, _, _, _, _, _⟩) (v := ?ccv3) rfl (by kernel_rfl) (by kernel_rfl) (by kernel_rfl) (fun _ _ _ h => h) (by kernel_rfl) ?ccy3 ?ccr3
        case ccy3 =>
          intro wt hO
          go_simp
          try with_reducible rfl
        try simp only [Act.put, List.setIfInBounds_toArray, List.set_cons_zero, List.set_cons_succ]
        refine wpGrow_take (i := 4) (oi := ⟨some 30, _, _, _, _, _⟩) (v := ?ccv4) rfl (by kernel_rfl) (by kernel_rfl) (by kernel_rfl) (fun _ _ _ h => h) (by kernel_rfl) ?ccy4 ?ccr4
        case ccy4 =>
          intro wt hO
          go_simp
          try with_reducible rfl
        try simp only [Act.put, List.setIfInBounds_toArray, List.set_cons_zero, List.set_cons_succ]
        refine wpGrow_take (i := 5) (oi := ⟨some 31, _, _, _, _, _⟩) (v := ?ccv5) rfl (by kernel_rfl) (by kernel_rfl) (by kernel_rfl) (fun _ _ _ h => h) (by kernel_rfl) ?ccy5 ?ccr5
        case ccy5 =>
          intro wt hO
          go_simp
          try with_reducible rfl
        try simp only [Act.put, List.setIfInBounds_toArray, List.set_cons_zero, List.set_cons_succ]
        refine wpGrow_take (i := 6) (oi := ⟨some 32, _, _, _, _, _⟩) (v := ?ccv6) rfl (by kernel_rfl) (by kernel_rfl) (by kernel_rfl) (fun _ _ _ h => h) (by kernel_rfl) ?ccy6 ?ccr6
        case ccy6 =>
          intro wt hO
          go_simp
          try with_reducible rfl
        try simp only [Act.put, List.setIfInBounds_toArray, List.set_cons_zero, List.set_cons_succ]
        refine wpGrow_take (i := 7) (oi := ⟨some 33, _, _, _, _, _⟩) (v := ?ccv7) rfl (by kernel_rfl) (by kernel_rfl) (by kernel_rfl) (fun _ _ _ h => h) (by kernel_rfl) ?ccy7 ?ccr7
        case ccy7 =>
          intro wt hO
          go_simp
          try with_reducible rfl
        try simp only [Act.put, List.setIfInBounds_toArray, List.set_cons_zero, List.set_cons_succ]
        refine wpGrow_take (i := 8) (oi := ⟨some 34, _, _, _, _, _⟩) (v := ?ccv8) rfl (by kernel_rfl) (by kernel_rfl) (by kernel_rfl) (fun _ _ _ h => h) (by kernel_rfl) ?ccy8 ?ccr8
        case ccy8 =>
          intro wt hO
          go_simp
          try with_reducible rfl
        try simp only [Act.put, List.setIfInBounds_toArray, List.set_cons_zero, List.set_cons_succ]
        refine wpGrow_take (i := 9) (oi := ⟨some 35, _, _, _, _, _⟩) (v := ?ccv9) rfl (by kernel_rfl) (by kernel_rfl) (by kernel_rfl) (fun _ _ _ h => h) (by kernel_rfl) ?ccy9 ?ccr9
        case ccy9 =>
          intro wt hO
          go_simp
          try with_reducible rfl
        try simp only [Act.put, List.setIfInBounds_toArray, List.set_cons_zero, List.set_cons_succ]
        refine wpGrow_take (i := 10) (oi := ⟨some 36, _, _, _, _, _⟩) (v := ?ccv10) rfl (by kernel_rfl) (by kernel_rfl) (by kernel_rfl) (fun _ _ _ h => h) (by kernel_rfl) ?ccy10 ?ccr10
        case ccy10 =>
          intro wt hO
          go_simp
          try with_reducible rfl
        try simp only [Act.put, List.setIfInBounds_toArray, List.set_cons_zero, List.set_cons_succ]
        refine wpGrow_call (i := 11) (o := ⟨some 37, _, _, _, _, _⟩) rfl (by kernel_rfl) (by kernel_rfl) (fun K hK => ?_)
        go_simp
        refine (HMb.out w1.drew ((Touch.refl _ _).drew)).mono ?_
        rintro ye wm ⟨rfl, hwm⟩
        subst hwm
        refine hK.out _ _ (Touch.refl _ _) ?_
        clear hK
        try simp only [Act.put, List.setIfInBounds_toArray, List.set_cons_zero, List.set_cons_succ]
        refine wpGrow_take (i := 12) (oi := ⟨some 38, _, _, _, _, _⟩) (v := ?ccv12) rfl (by kernel_rfl) (by kernel_rfl) (by kernel_rfl) (fun _ _ _ h => h) (by kernel_rfl) ?ccy12 ?ccr12
        case ccy12 =>
          intro wt hO
          go_simp
          try with_reducible rfl
        try simp only [Act.put, List.setIfInBounds_toArray, List.set_cons_zero, List.set_cons_succ]
        refine wpGrow_take (i := 13) (oi := ⟨some 39, _, _, _, _, _⟩) (v := ?ccv13) rfl (by kernel_rfl) (by kernel_rfl) (by kernel_rfl) (fun _ _ _ h => h) (by kernel_rfl) ?ccy13 ?ccr13
        case ccy13 =>
          intro wt hO
          go_simp
          try with_reducible rfl
        try simp only [Act.put, List.setIfInBounds_toArray, List.set_cons_zero, List.set_cons_succ]
        refine wpGrow_take (i := 14) (oi := ⟨some 40, _, _, _, _, _⟩) (v := ?ccv14) rfl (by kernel_rfl) (by kernel_rfl) (by kernel_rfl) (fun _ _ _ h => h) (by kernel_rfl) ?ccy14 ?ccr14
        case ccy14 =>
          intro wt hO
          go_simp
          try with_reducible rfl
        try simp only [Act.put, List.setIfInBounds_toArray, List.set_cons_zero, List.set_cons_succ]
        refine wpGrow_skip (i := 15) (oi := ⟨some 41, _, _, _, _, _⟩) rfl (by kernel_rfl) (by kernel_rfl) (by kernel_rfl) (fun _ _ _ h => h) (by kernel_rfl) ?_
        try simp only [Act.put, List.setIfInBounds_toArray, List.set_cons_zero, List.set_cons_succ]
        refine wpGrow_skip (i := 16) (oi := ⟨some 42, _, _, _, _, _⟩) rfl (by kernel_rfl) (by kernel_rfl) (by kernel_rfl) (fun _ _ _ h => h) (by kernel_rfl) ?_
        try simp only [Act.put, List.setIfInBounds_toArray, List.set_cons_zero, List.set_cons_succ]
        refine wpGrow_skip (i := 17) (oi := ⟨some 43, _, _, _, _, _⟩) rfl (by kernel_rfl) (by kernel_rfl) (by kernel_rfl) (fun _ _ _ h => h) (by kernel_rfl) ?_
        try simp only [Act.put, List.setIfInBounds_toArray, List.set_cons_zero, List.set_cons_succ]
        refine wpGrow_skip (i := 18) (oi := ⟨some 44, _, _, _, _, _⟩) rfl (by kernel_rfl) (by kernel_rfl) (by kernel_rfl) (fun _ _ _ h => h) (by kernel_rfl) ?_
        try simp only [Act.put, List.setIfInBounds_toArray, List.set_cons_zero, List.set_cons_succ]
        refine wpGrow_skip (i := 19) (oi := ⟨some 45, _, _, _, _, _⟩) rfl (by kernel_rfl) (by kernel_rfl) (by kernel_rfl) (fun _ _ _ h => h) (by kernel_rfl) ?_
        try simp only [Act.put, List.setIfInBounds_toArray, List.set_cons_zero, List.set_cons_succ]
        refine wpGrow_skip (i := 20) (oi := ⟨some 46, _, _, _, _, _⟩) rfl (by kernel_rfl) (by kernel_rfl) (by kernel_rfl) (fun _ _ _ h => h) (by kernel_rfl) ?_
        try simp only [Act.put, List.setIfInBounds_toArray, List.set_cons_zero, List.set_cons_succ]
        refine wpGrow_skip (i := 21) (oi := ⟨some 47, _, _, _, _, _⟩) rfl (by kernel_rfl) (by kernel_rfl) (by kernel_rfl) (fun _ _ _ h => h) (by kernel_rfl) ?_
        try simp only [Act.put, List.setIfInBounds_toArray, List.set_cons_zero, List.set_cons_succ]
        refine wpGrow_take (i := 22) (oi := ⟨some 48, _, _, _, _, _⟩) (v := ?ccv22) rfl (by kernel_rfl) (by kernel_rfl) (by kernel_rfl) (fun _ _ _ h => h) (by kernel_rfl) ?ccy22 ?ccr22
        case ccy22 =>
          intro wt hO
          go_simp
          try with_reducible rfl
        try simp only [Act.put, List.setIfInBounds_toArray, List.set_cons_zero, List.set_cons_succ]
        refine wpGrow_done (by kernel_rfl) ?_ _
        go_wp2_with fail
        go_ret3
        exact ⟨by rw [HN.out]; rfl, HO1.out.drew⟩
      | true =>
        rw [hF] at HMb
        have hbq := str_beq HTr.out.byte (cover_trk q l).byte
        obtain ⟨sb, hsb⟩ : ∃ s, strOf b = s := ⟨_, rfl⟩
        obtain ⟨sc, hsc⟩ : ∃ s, strOf (cover q l) = s := ⟨_, rfl⟩
        have Hsb := Lib.hid hsb
        have Hsc := Lib.hid hsc
        rw [hsb, hsc] at hbq
        clear hsb hsc
        by_cases hD : b = cover q l
        · have HN : Hid (R = (q, l)) := by show _ = _; rw [HRd.out, if_pos ⟨by omega, hB, hF, hD⟩]
          rw [decide_eq_true hD] at hbq
          clear HRd hqm hB hF hD
          go_wp2_with fail
          refine wp_region_grow (by kernel_rfl) ?_
          refine wpGrow_take (i := 0) (oi := ⟨some 26, _, _, _, _, _⟩) (v := ?cdv0) rfl (by kernel_rfl) (by kernel_rfl) (by kernel_rfl) (fun _ _ _ h => h) (by kernel_rfl) ?cdy0 ?cdr0
          case cdy0 =>
            intro wt hO
            go_simp
            try with_reducible rfl
          try simp only [Act.put, List.setIfInBounds_toArray, List.set_cons_zero, List.set_cons_succ]
          refine wpGrow_take (i := 1) (oi := ⟨some 27, _, _, _, _, _⟩) (v := ?cdv1) rfl (by kernel_rfl) (by kernel_rfl) (by kernel_rfl) (fun _ _ _ h => h) (by kernel_rfl) ?cdy1 ?cdr1
          case cdy1 =>
            intro wt hO
            go_simp
            try with_reducible rfl
          try simp only [Act.put, List.setIfInBounds_toArray, List.set_cons_zero, List.set_cons_succ]
          refine wpGrow_take (i := 2) (oi := ⟨some 28, _, _, _, _, _⟩) (v := ?cdv2) rfl (by kernel_rfl) (by kernel_rfl) (by kernel_rfl) (fun _ _ _ h => h) (by kernel_rfl) ?cdy2 ?cdr2
          case cdy2 =>
            intro wt hO
            go_simp
            try with_reducible rfl
          try simp only [Act.put, List.setIfInBounds_toArray, List.set_cons_zero, List.set_cons_succ]
          refine wpGrow_take (i := 3) (oi := ⟨some 29, _, _, _, _, _⟩) (v := ?cdv3) rfl (by kernel_rfl) (by kernel_rfl) (by kernel_rfl) (fun _ _ _ h => h) (by kernel_rfl) ?cdy3 ?cdr3
          case cdy3 =>
            intro wt hO
            go_simp
            try with_reducible rfl
          try simp only [Act.put, List.setIfInBounds_toArray, List.set_cons_zero, List.set_cons_succ]
          refine wpGrow_take (i := 4) (oi := ⟨some 30, _, _, _, _, _⟩) (v := ?cdv4) rfl (by kernel_rfl) (by kernel_rfl) (by kernel_rfl) (fun _ _ _ h => h) (by kernel_rfl) ?cdy4 ?cdr4
          case cdy4 =>
            intro wt hO
            go_simp
            try with_reducible rfl
          try simp only [Act.put, List.setIfInBounds_toArray, List.set_cons_zero, List.set_cons_succ]
          refine wpGrow_take (i := 5) (oi := ⟨some 31, _, _, _, _, _⟩) (v := ?cdv5) rfl (by kernel_rfl) (by kernel_rfl) (by kernel_rfl) (fun _ _ _ h => h) (by kernel_rfl) ?cdy5 ?cdr5
          case cdy5 =>
            intro wt hO
            go_simp
            try with_reducible rfl
          try simp only [Act.put, List.setIfInBounds_toArray, List.set_cons_zero, List.set_cons_succ]
          refine wpGrow_take (i := 6) (oi := ⟨some 32, _, _, _, _, _⟩) (v := ?cdv6) rfl (by kernel_rfl) (by kernel_rfl) (by kernel_rfl) (fun _ _ _ h => h) (by kernel_rfl) ?cdy6 ?cdr6
          case cdy6 =>
            intro wt hO
            go_simp
            try with_reducible rfl
          try simp only [Act.put, List.setIfInBounds_toArray, List.set_cons_zero, List.set_cons_succ]
          refine wpGrow_take (i := 7) (oi := ⟨some 33, _, _, _, _, _⟩) (v := ?cdv7) rfl (by kernel_rfl) (by kernel_rfl) (by kernel_rfl) (fun _ _ _ h => h) (by kernel_rfl) ?cdy7 ?cdr7
          case cdy7 =>
            intro wt hO
            go_simp
            try with_reducible rfl
          try simp only [Act.put, List.setIfInBounds_toArray, List.set_cons_zero, List.set_cons_succ]
          refine wpGrow_take (i := 8) (oi := ⟨some 34, _, _, _, _, _⟩) (v := ?cdv8) rfl (by kernel_rfl) (by kernel_rfl) (by kernel_rfl) (fun _ _ _ h => h) (by kernel_rfl) ?cdy8 ?cdr8
          case cdy8 =>
            intro wt hO
            go_simp
            try with_reducible rfl
          try simp only [Act.put, List.setIfInBounds_toArray, List.set_cons_zero, List.set_cons_succ]
          refine wpGrow_take (i := 9) (oi := ⟨some 35, _, _, _, _, _⟩) (v := ?cdv9) rfl (by kernel_rfl) (by kernel_rfl) (by kernel_rfl) (fun _ _ _ h => h) (by kernel_rfl) ?cdy9 ?cdr9
          case cdy9 =>
            intro wt hO
            go_simp
            try with_reducible rfl
          try simp only [Act.put, List.setIfInBounds_toArray, List.set_cons_zero, List.set_cons_succ]
          refine wpGrow_take (i := 10) (oi := ⟨some 36, _, _, _, _, _⟩) (v := ?cdv10) rfl (by kernel_rfl) (by kernel_rfl) (by kernel_rfl) (fun _ _ _ h => h) (by kernel_rfl) ?cdy10 ?cdr10
          case cdy10 =>
            intro wt hO
            go_simp
            try with_reducible rfl
          try simp only [Act.put, List.setIfInBounds_toArray, List.set_cons_zero, List.set_cons_succ]
          refine wpGrow_call (i := 11) (o := ⟨some 37, _, _, _, _, _⟩) rfl (by kernel_rfl) (by kernel_rfl) (fun K hK => ?_)
          go_simp
          refine (HMb.out w1.drew ((Touch.refl _ _).drew)).mono ?_
          rintro ye wm ⟨rfl, hwm⟩
          subst hwm
          refine hK.out _ _ (Touch.refl _ _) ?_
          clear hK
          try simp only [Act.put, List.setIfInBounds_toArray, List.set_cons_zero, List.set_cons_succ]
          refine wpGrow_take (i := 12) (oi := ⟨some 38, _, _, _, _, _⟩) (v := ?cdv12) rfl (by kernel_rfl) (by kernel_rfl) (by kernel_rfl) (fun _ _ _ h => h) (by kernel_rfl) ?cdy12 ?cdr12
          case cdy12 =>
            intro wt hO
            go_simp
            try with_reducible rfl
          try simp only [Act.put, List.setIfInBounds_toArray, List.set_cons_zero, List.set_cons_succ]
          refine wpGrow_take (i := 13) (oi := ⟨some 39, _, _, _, _, _⟩) (v := ?cdv13) rfl (by kernel_rfl) (by kernel_rfl) (by kernel_rfl) (fun _ _ _ h => h) (by kernel_rfl) ?cdy13 ?cdr13
          case cdy13 =>
            intro wt hO
            go_simp
            try with_reducible rfl
          try simp only [Act.put, List.setIfInBounds_toArray, List.set_cons_zero, List.set_cons_succ]
          refine wpGrow_take (i := 14) (oi := ⟨some 40, _, _, _, _, _⟩) (v := ?cdv14) rfl (by kernel_rfl) (by kernel_rfl) (by kernel_rfl) (fun _ _ _ h => h) (by kernel_rfl) ?cdy14 ?cdr14
          case cdy14 =>
            intro wt hO
            go_simp
            try with_reducible rfl
          try simp only [Act.put, List.setIfInBounds_toArray, List.set_cons_zero, List.set_cons_succ]
          refine wpGrow_take (i := 15) (oi := ⟨some 41, _, _, _, _, _⟩) (v := ?cdv15) rfl (by kernel_rfl) (by kernel_rfl) (by kernel_rfl) (fun _ _ _ h => h) (by kernel_rfl) ?cdy15 ?cdr15
          case cdy15 =>
            intro wt hO
            go_simp
            try with_reducible rfl
          try simp only [Act.put, List.setIfInBounds_toArray, List.set_cons_zero, List.set_cons_succ]
          refine wpGrow_take (i := 17) (oi := ⟨some 43, _, _, _, _, _⟩) (v := ?cdv17) rfl (by kernel_rfl) (by kernel_rfl) (by kernel_rfl) (fun _ _ _ h => h) (by kernel_rfl) ?cdy17 ?cdr17
          case cdy17 =>
            intro wt hO
            go_simp
            try with_reducible rfl
          try simp only [Act.put, List.setIfInBounds_toArray, List.set_cons_zero, List.set_cons_succ]
          refine wpGrow_take (i := 18) (oi := ⟨some 44, _, _, _, _, _⟩) (v := ?cdv18) rfl (by kernel_rfl) (by kernel_rfl) (by kernel_rfl) (fun _ _ _ h => h) (by kernel_rfl) ?cdy18 ?cdr18
          case cdy18 =>
            intro wt hO
            go_simp
            try with_reducible rfl
          try simp only [Act.put, List.setIfInBounds_toArray, List.set_cons_zero, List.set_cons_succ]
          refine wpGrow_take (i := 16) (oi := ⟨some 42, _, _, _, _, _⟩) (v := ?cdv16) rfl (by kernel_rfl) (by kernel_rfl) (by kernel_rfl) (fun _ _ _ h => h) (by kernel_rfl) ?cdy16 ?cdr16
          case cdy16 =>
            intro wt hO
            have hs : (convert 61 9 (.slice (some ⟨g1, 0, none⟩) 96 c1)).run Tryz.prog wt = .ok (.string sb) wt := (by rw [← Hsb.out]; exact str_any wt _ _ 96 c1 ((HL1.out.has.old ((Touch.refl _ _).drew)).old hO) HTr.out.len); go_simp
            try with_reducible rfl
          try simp only [Act.put, List.setIfInBounds_toArray, List.set_cons_zero, List.set_cons_succ]
          refine wpGrow_call (i := 19) (o := ⟨some 45, _, _, _, _, _⟩) rfl (by kernel_rfl) (by kernel_rfl) (fun K hK => ?_)
          go_simp
          refine (rcover_any q l w1.drew (by omega) (by omega)).mono ?_
          rintro ye w2 ⟨g2, c2, rfl, _, _, G2, T2⟩
          rw [cover_length]
          have HG2 := Lib.hid G2.has
          have HO2 := Lib.hid ((HO1.out.drew).trans T2)
          refine hK.out _ _ T2 ?_
          clear hK G2 T2
          try simp only [Act.put, List.setIfInBounds_toArray, List.set_cons_zero, List.set_cons_succ]
          refine wpGrow_take (i := 20) (oi := ⟨some 46, _, _, _, _, _⟩) (v := ?cdv20) rfl (by kernel_rfl) (by kernel_rfl) (by kernel_rfl) (fun _ _ _ h => h) (by kernel_rfl) ?cdy20 ?cdr20
          case cdy20 =>
            intro wt hO
            have hs : (convert 61 9 (.slice (some ⟨g2, 0, none⟩) 96 c2)).run Tryz.prog wt = .ok (.string sc) wt := (by rw [← Hsc.out]; exact str_any wt _ _ 96 c2 (HG2.out.old hO) (cover_length q l)); go_simp
            try with_reducible rfl
          try simp only [Act.put, List.setIfInBounds_toArray, List.set_cons_zero, List.set_cons_succ]
          refine wpGrow_take (i := 21) (oi := ⟨some 47, _, _, _, _, _⟩) (v := ?cdv21) rfl (by kernel_rfl) (by kernel_rfl) (by kernel_rfl) (fun _ _ _ h => h) (by kernel_rfl) ?cdy21 ?cdr21
          case cdy21 =>
            intro wt hO
            go_simp
            try with_reducible rfl
          try simp only [Act.put, List.setIfInBounds_toArray, List.set_cons_zero, List.set_cons_succ]
          refine wpGrow_take (i := 22) (oi := ⟨some 48, _, _, _, _, _⟩) (v := ?cdv22) rfl (by kernel_rfl) (by kernel_rfl) (by kernel_rfl) (fun _ _ _ h => h) (by kernel_rfl) ?cdy22 ?cdr22
          case cdy22 =>
            intro wt hO
            go_simp
            try with_reducible rfl
          try simp only [Act.put, List.setIfInBounds_toArray, List.set_cons_zero, List.set_cons_succ]
          refine wpGrow_done (by kernel_rfl) ?_ _
          go_wp2_with fail
          go_ret3
          exact ⟨by rw [HN.out]; rfl, HO2.out⟩
        · have HN : Hid (R = (0, 0)) := by show _ = _; rw [HRd.out, if_neg (fun c => hD c.2.2.2)]
          rw [decide_eq_false hD] at hbq
          clear HRd hqm hB hF hD
          go_wp2_with fail
          refine wp_region_grow (by kernel_rfl) ?_
          refine wpGrow_take (i := 0) (oi := ⟨some 26, _, _, _, _, _⟩) (v := ?cev0) rfl (by kernel_rfl) (by kernel_rfl) (by kernel_rfl) (fun _ _ _ h => h) (by kernel_rfl) ?cey0 ?cer0
          case cey0 =>
            intro wt hO
            go_simp
            try with_reducible rfl
          try simp only [Act.put, List.setIfInBounds_toArray, List.set_cons_zero, List.set_cons_succ]
          refine wpGrow_take (i := 1) (oi := ⟨some 27, _, _, _, _, _⟩) (v := ?cev1) rfl (by kernel_rfl) (by kernel_rfl) (by kernel_rfl) (fun _ _ _ h => h) (by kernel_rfl) ?cey1 ?cer1
          case cey1 =>
            intro wt hO
            go_simp
            try with_reducible rfl
          try simp only [Act.put, List.setIfInBounds_toArray, List.set_cons_zero, List.set_cons_succ]
          refine wpGrow_take (i := 2) (oi := ⟨some 28, _, _, _, _, _⟩) (v := ?cev2) rfl (by kernel_rfl) (by kernel_rfl) (by kernel_rfl) (fun _ _ _ h => h) (by kernel_rfl) ?cey2 ?cer2
          case cey2 =>
            intro wt hO
            go_simp
            try with_reducible rfl
          try simp only [Act.put, List.setIfInBounds_toArray, List.set_cons_zero, List.set_cons_succ]
          refine wpGrow_take (i := 3) (oi := ⟨some 29, _, _, _, _, _⟩) (v := ?cev3) rfl (by kernel_rfl) (by kernel_rfl) (by kernel_rfl) (fun _ _ _ h => h) (by kernel_rfl) ?cey3 ?cer3
          case cey3 =>
            intro wt hO
            go_simp
            try with_reducible rfl
          try simp only [Act.put, List.setIfInBounds_toArray, List.set_cons_zero, List.set_cons_succ]
          refine wpGrow_take (i := 4) (oi := ⟨some 30, _, _, _, _, _⟩) (v := ?cev4) rfl (by kernel_rfl) (by kernel_rfl) (by kernel_rfl) (fun _ _ _ h => h) (by kernel_rfl) ?cey4 ?cer4
          case cey4 =>
            intro wt hO
            go_simp
            try with_reducible rfl
          try simp only [Act.put, List.setIfInBounds_toArray, List.set_cons_zero, List.set_cons_succ]
          refine wpGrow_take (i := 5) (oi := ⟨some 31, _, _, _, _, _⟩) (v := ?cev5) rfl (by kernel_rfl) (by kernel_rfl) (by kernel_rfl) (fun _ _ _ h => h) (by kernel_rfl) ?cey5 ?cer5
          case cey5 =>
            intro wt hO
            go_simp
            try with_reducible rfl
          try simp only [Act.put, List.setIfInBounds_toArray, List.set_cons_zero, List.set_cons_succ]
          refine wpGrow_take (i := 6) (oi := ⟨some 32, _, _, _, _, _⟩) (v := ?cev6) rfl (by kernel_rfl) (by kernel_rfl) (by kernel_rfl) (fun _ _ _ h => h) (by kernel_rfl) ?cey6 ?cer6
          case cey6 =>
            intro wt hO
            go_simp
            try with_reducible rfl
          try simp only [Act.put, List.setIfInBounds_toArray, List.set_cons_zero, List.set_cons_succ]
          refine wpGrow_take (i := 7) (oi := ⟨some 33, _, _, _, _, _⟩) (v := ?cev7) rfl (by kernel_rfl) (by kernel_rfl) (by kernel_rfl) (fun _ _ _ h => h) (by kernel_rfl) ?cey7 ?cer7
          case cey7 =>
            intro wt hO
            go_simp
            try with_reducible rfl
          try simp only [Act.put, List.setIfInBounds_toArray, List.set_cons_zero, List.set_cons_succ]
          refine wpGrow_take (i := 8) (oi := ⟨some 34, _, _, _, _, _⟩) (v := ?cev8) rfl (by kernel_rfl) (by kernel_rfl) (by kernel_rfl) (fun _ _ _ h => h) (by kernel_rfl) ?cey8 ?cer8
          case cey8 =>
            intro wt hO
            go_simp
            try with_reducible rfl
          try simp only [Act.put, List.setIfInBounds_toArray, List.set_cons_zero, List.set_cons_succ]
          refine wpGrow_take (i := 9) (oi := ⟨some 35, _, _, _, _, _⟩) (v := ?cev9) rfl (by kernel_rfl) (by kernel_rfl) (by kernel_rfl) (fun _ _ _ h => h) (by kernel_rfl) ?cey9 ?cer9
          case cey9 =>
            intro wt hO
            go_simp
            try with_reducible rfl
          try simp only [Act.put, List.setIfInBounds_toArray, List.set_cons_zero, List.set_cons_succ]
          refine wpGrow_take (i := 10) (oi := ⟨some 36, _, _, _, _, _⟩) (v := ?cev10) rfl (by kernel_rfl) (by kernel_rfl) (by kernel_rfl) (fun _ _ _ h => h) (by kernel_rfl) ?cey10 ?cer10
          case cey10 =>
            intro wt hO
            go_simp
            try with_reducible rfl
          try simp only [Act.put, List.setIfInBounds_toArray, List.set_cons_zero, List.set_cons_succ]
          refine wpGrow_call (i := 11) (o := ⟨some 37, _, _, _, _, _⟩) rfl (by kernel_rfl) (by kernel_rfl) (fun K hK => ?_)
          go_simp
          refine (HMb.out w1.drew ((Touch.refl _ _).drew)).mono ?_
          rintro ye wm ⟨rfl, hwm⟩
          subst hwm
          refine hK.out _ _ (Touch.refl _ _) ?_
          clear hK
          try simp only [Act.put, List.setIfInBounds_toArray, List.set_cons_zero, List.set_cons_succ]
          refine wpGrow_take (i := 12) (oi := ⟨some 38, _, _, _, _, _⟩) (v := ?cev12) rfl (by kernel_rfl) (by kernel_rfl) (by kernel_rfl) (fun _ _ _ h => h) (by kernel_rfl) ?cey12 ?cer12
          case cey12 =>
            intro wt hO
            go_simp
            try with_reducible rfl
          try simp only [Act.put, List.setIfInBounds_toArray, List.set_cons_zero, List.set_cons_succ]
          refine wpGrow_take (i := 13) (oi := ⟨some 39, _, _, _, _, _⟩) (v := ?cev13) rfl (by kernel_rfl) (by kernel_rfl) (by kernel_rfl) (fun _ _ _ h => h) (by kernel_rfl) ?cey13 ?cer13
          case cey13 =>
            intro wt hO
            go_simp
            try with_reducible rfl
          try simp only [Act.put, List.setIfInBounds_toArray, List.set_cons_zero, List.set_cons_succ]
          refine wpGrow_take (i := 14) (oi := ⟨some 40, _, _, _, _, _⟩) (v := ?cev14) rfl (by kernel_rfl) (by kernel_rfl) (by kernel_rfl) (fun _ _ _ h => h) (by kernel_rfl) ?cey14 ?cer14
          case cey14 =>
            intro wt hO
            go_simp
            try with_reducible rfl
          try simp only [Act.put, List.setIfInBounds_toArray, List.set_cons_zero, List.set_cons_succ]
          refine wpGrow_take (i := 15) (oi := ⟨some 41, _, _, _, _, _⟩) (v := ?cev15) rfl (by kernel_rfl) (by kernel_rfl) (by kernel_rfl) (fun _ _ _ h => h) (by kernel_rfl) ?cey15 ?cer15
          case cey15 =>
            intro wt hO
            go_simp
            try with_reducible rfl
          try simp only [Act.put, List.setIfInBounds_toArray, List.set_cons_zero, List.set_cons_succ]
          refine wpGrow_take (i := 17) (oi := ⟨some 43, _, _, _, _, _⟩) (v := ?cev17) rfl (by kernel_rfl) (by kernel_rfl) (by kernel_rfl) (fun _ _ _ h => h) (by kernel_rfl) ?cey17 ?cer17
          case cey17 =>
            intro wt hO
            go_simp
            try with_reducible rfl
          try simp only [Act.put, List.setIfInBounds_toArray, List.set_cons_zero, List.set_cons_succ]
          refine wpGrow_take (i := 18) (oi := ⟨some 44, _, _, _, _, _⟩) (v := ?cev18) rfl (by kernel_rfl) (by kernel_rfl) (by kernel_rfl) (fun _ _ _ h => h) (by kernel_rfl) ?cey18 ?cer18
          case cey18 =>
            intro wt hO
            go_simp
            try with_reducible rfl
          try simp only [Act.put, List.setIfInBounds_toArray, List.set_cons_zero, List.set_cons_succ]
          refine wpGrow_take (i := 16) (oi := ⟨some 42, _, _, _, _, _⟩) (v := ?cev16) rfl (by kernel_rfl) (by kernel_rfl) (by kernel_rfl) (fun _ _ _ h => h) (by kernel_rfl) ?cey16 ?cer16
          case cey16 =>
            intro wt hO
            have hs : (convert 61 9 (.slice (some ⟨g1, 0, none⟩) 96 c1)).run Tryz.prog wt = .ok (.string sb) wt := (by rw [← Hsb.out]; exact str_any wt _ _ 96 c1 ((HL1.out.has.old ((Touch.refl _ _).drew)).old hO) HTr.out.len); go_simp
            try with_reducible rfl
          try simp only [Act.put, List.setIfInBounds_toArray, List.set_cons_zero, List.set_cons_succ]
          refine wpGrow_call (i := 19) (o := ⟨some 45, _, _, _, _, _⟩) rfl (by kernel_rfl) (by kernel_rfl) (fun K hK => ?_)
          go_simp
          refine (rcover_any q l w1.drew (by omega) (by omega)).mono ?_
          rintro ye w2 ⟨g2, c2, rfl, _, _, G2, T2⟩
          rw [cover_length]
          have HG2 := Lib.hid G2.has
          have HO2 := Lib.hid ((HO1.out.drew).trans T2)
          refine hK.out _ _ T2 ?_
          clear hK G2 T2
          try simp only [Act.put, List.setIfInBounds_toArray, List.set_cons_zero, List.set_cons_succ]
          refine wpGrow_take (i := 20) (oi := ⟨some 46, _, _, _, _, _⟩) (v := ?cev20) rfl (by kernel_rfl) (by kernel_rfl) (by kernel_rfl) (fun _ _ _ h => h) (by kernel_rfl) ?cey20 ?cer20
          case cey20 =>
            intro wt hO
            have hs : (convert 61 9 (.slice (some ⟨g2, 0, none⟩) 96 c2)).run Tryz.prog wt = .ok (.string sc) wt := (by rw [← Hsc.out]; exact str_any wt _ _ 96 c2 (HG2.out.old hO) (cover_length q l)); go_simp
            try with_reducible rfl
          try simp only [Act.put, List.setIfInBounds_toArray, List.set_cons_zero, List.set_cons_succ]
          refine wpGrow_take (i := 21) (oi := ⟨some 47, _, _, _, _, _⟩) (v := ?cev21) rfl (by kernel_rfl) (by kernel_rfl) (by kernel_rfl) (fun _ _ _ h => h) (by kernel_rfl) ?cey21 ?cer21
          case cey21 =>
            intro wt hO
            go_simp
            try with_reducible rfl
          try simp only [Act.put, List.setIfInBounds_toArray, List.set_cons_zero, List.set_cons_succ]
          refine wpGrow_take (i := 22) (oi := ⟨some 48, _, _, _, _, _⟩) (v := ?cev22) rfl (by kernel_rfl) (by kernel_rfl) (by kernel_rfl) (fun _ _ _ h => h) (by kernel_rfl) ?cey22 ?cer22
          case cey22 =>
            intro wt hO
            go_simp
            try with_reducible rfl
          try simp only [Act.put, List.setIfInBounds_toArray, List.set_cons_zero, List.set_cons_succ]
          refine wpGrow_done (by kernel_rfl) ?_ _
          go_wp2_with fail
          go_ret3
          exact ⟨by rw [HN.out]; rfl, HO2.out⟩
    · have hB1 : ((q2 : Int) != (k : Int)) = true := by simp; omega
      have hB2 : ((q2 : Int) == (k : Int)) = false := by simp; omega
      have HN : Hid (R = (0, 0)) := by show _ = _; rw [HRd.out, if_neg (fun c => hB c.2.1)]
      clear HRd hqm hB
      go_wp2_with fail
      refine wp_region_grow (by kernel_rfl) ?_
      refine wpGrow_take (i := 0) (oi := ⟨some 26, _, _, _, _, _⟩) (v := ?cbv0) rfl (by kernel_rfl) (by kernel_rfl) (by kernel_rfl) (fun _ _ _ h => h) (by kernel_rfl) ?cby0 ?cbr0
      case cby0 =>
        intro wt hO
        go_simp
        try with_reducible rfl
      try simp only [Act.put, List.setIfInBounds_toArray, List.set_cons_zero, List.set_cons_succ]
      refine wpGrow_take (i := 1) (oi := ⟨some 27, _, _, _, _, _⟩) (v := ?cbv1) rfl (by kernel_rfl) (by kernel_rfl) (by kernel_rfl) (fun _ _ _ h => h) (by kernel_rfl) ?cby1 ?cbr1
      case cby1 =>
        intro wt hO
        go_simp
        try with_reducible rfl
      try simp only [Act.put, List.setIfInBounds_toArray, List.set_cons_zero, List.set_cons_succ]
      refine wpGrow_take (i := 2) (oi := ⟨some 28, _, _, _, _, _⟩) (v := ?cbv2) rfl (by kernel_rfl) (by kernel_rfl) (by kernel_rfl) (fun _ _ _ h => h) (by kernel_rfl) ?cby2 ?cbr2
      case cby2 =>
        intro wt hO
        go_simp
        try with_reducible rfl
      try simp only [Act.put, List.setIfInBounds_toArray, List.set_cons_zero, List.set_cons_succ]
      refine wpGrow_take (i := 3) (oi := ⟨some 29, _, _, _, _, _⟩) (v := ?cbv3) rfl (by kernel_rfl) (by kernel_rfl) (by kernel_rfl) (fun _ _ _ h => h) (by kernel_rfl) ?cby3 ?cbr3
      case cby3 =>
        intro wt hO
        go_simp
        try with_reducible rfl
      try simp only [Act.put, List.setIfInBounds_toArray, List.set_cons_zero, List.set_cons_succ]
      refine wpGrow_take (i := 4) (oi := ⟨some 30, _, _, _, _, _⟩) (v := ?cbv4) rfl (by kernel_rfl) (by kernel_rfl) (by kernel_rfl) (fun _ _ _ h => h) (by kernel_rfl) ?cby4 ?cbr4
      case cby4 =>
        intro wt hO
        go_simp
        try with_reducible rfl
      try simp only [Act.put, List.setIfInBounds_toArray, List.set_cons_zero, List.set_cons_succ]
      refine wpGrow_take (i := 5) (oi := ⟨some 31, _, _, _, _, _⟩) (v := ?cbv5) rfl (by kernel_rfl) (by kernel_rfl) (by kernel_rfl) (fun _ _ _ h => h) (by kernel_rfl) ?cby5 ?cbr5
      case cby5 =>
        intro wt hO
        go_simp
        try with_reducible rfl
      try simp only [Act.put, List.setIfInBounds_toArray, List.set_cons_zero, List.set_cons_succ]
      refine wpGrow_take (i := 6) (oi := ⟨some 32, _, _, _, _, _⟩) (v := ?cbv6) rfl (by kernel_rfl) (by kernel_rfl) (by kernel_rfl) (fun _ _ _ h => h) (by kernel_rfl) ?cby6 ?cbr6
      case cby6 =>
        intro wt hO
        go_simp
        try with_reducible rfl
      try simp only [Act.put, List.setIfInBounds_toArray, List.set_cons_zero, List.set_cons_succ]
      refine wpGrow_take (i := 7) (oi := ⟨some 33, _, _, _, _, _⟩) (v := ?cbv7) rfl (by kernel_rfl) (by kernel_rfl) (by kernel_rfl) (fun _ _ _ h => h) (by kernel_rfl) ?cby7 ?cbr7
      case cby7 =>
        intro wt hO
        go_simp
        try with_reducible rfl
      try simp only [Act.put, List.setIfInBounds_toArray, List.set_cons_zero, List.set_cons_succ]
      refine wpGrow_take (i := 8) (oi := ⟨some 34, _, _, _, _, _⟩) (v := ?cbv8) rfl (by kernel_rfl) (by kernel_rfl) (by kernel_rfl) (fun _ _ _ h => h) (by kernel_rfl) ?cby8 ?cbr8
      case cby8 =>
        intro wt hO
        go_simp
        try with_reducible rfl
      try simp only [Act.put, List.setIfInBounds_toArray, List.set_cons_zero, List.set_cons_succ]
      refine wpGrow_skip (i := 9) (oi := ⟨some 35, _, _, _, _, _⟩) rfl (by kernel_rfl) (by kernel_rfl) (by kernel_rfl) (fun _ _ _ h => h) (by kernel_rfl) ?_
      try simp only [Act.put, List.setIfInBounds_toArray, List.set_cons_zero, List.set_cons_succ]
      refine wpGrow_skip (i := 10) (oi := ⟨some 36, _, _, _, _, _⟩) rfl (by kernel_rfl) (by kernel_rfl) (by kernel_rfl) (fun _ _ _ h => h) (by kernel_rfl) ?_
      try simp only [Act.put, List.setIfInBounds_toArray, List.set_cons_zero, List.set_cons_succ]
      refine wpGrow_skip (i := 11) (oi := ⟨some 37, _, _, _, _, _⟩) rfl (by kernel_rfl) (by kernel_rfl) (by kernel_rfl) (fun _ _ _ h => h) (by kernel_rfl) ?_
      try simp only [Act.put, List.setIfInBounds_toArray, List.set_cons_zero, List.set_cons_succ]
      refine wpGrow_skip (i := 12) (oi := ⟨some 38, _, _, _, _, _⟩) rfl (by kernel_rfl) (by kernel_rfl) (by kernel_rfl) (fun _ _ _ h => h) (by kernel_rfl) ?_
      try simp only [Act.put, List.setIfInBounds_toArray, List.set_cons_zero, List.set_cons_succ]
      refine wpGrow_take (i := 13) (oi := ⟨some 39, _, _, _, _, _⟩) (v := ?cbv13) rfl (by kernel_rfl) (by kernel_rfl) (by kernel_rfl) (fun _ _ _ h => h) (by kernel_rfl) ?cby13 ?cbr13
      case cby13 =>
        intro wt hO
        go_simp
        try with_reducible rfl
      try simp only [Act.put, List.setIfInBounds_toArray, List.set_cons_zero, List.set_cons_succ]
      refine wpGrow_take (i := 14) (oi := ⟨some 40, _, _, _, _, _⟩) (v := ?cbv14) rfl (by kernel_rfl) (by kernel_rfl) (by kernel_rfl) (fun _ _ _ h => h) (by kernel_rfl) ?cby14 ?cbr14
      case cby14 =>
        intro wt hO
        go_simp
        try with_reducible rfl
      try simp only [Act.put, List.setIfInBounds_toArray, List.set_cons_zero, List.set_cons_succ]
      refine wpGrow_skip (i := 15) (oi := ⟨some 41, _, _, _, _, _⟩) rfl (by kernel_rfl) (by kernel_rfl) (by kernel_rfl) (fun _ _ _ h => h) (by kernel_rfl) ?_
      try simp only [Act.put, List.setIfInBounds_toArray, List.set_cons_zero, List.set_cons_succ]
      refine wpGrow_skip (i := 16) (oi := ⟨some 42, _, _, _, _, _⟩) rfl (by kernel_rfl) (by kernel_rfl) (by kernel_rfl) (fun _ _ _ h => h) (by kernel_rfl) ?_
      try simp only [Act.put, List.setIfInBounds_toArray, List.set_cons_zero, List.set_cons_succ]
      refine wpGrow_skip (i := 17) (oi := ⟨some 43, _, _, _, _, _⟩) rfl (by kernel_rfl) (by kernel_rfl) (by kernel_rfl) (fun _ _ _ h => h) (by kernel_rfl) ?_
      try simp only [Act.put, List.setIfInBounds_toArray, List.set_cons_zero, List.set_cons_succ]
      refine wpGrow_skip (i := 18) (oi := ⟨some 44, _, _, _, _, _⟩) rfl (by kernel_rfl) (by kernel_rfl) (by kernel_rfl) (fun _ _ _ h => h) (by kernel_rfl) ?_
      try simp only [Act.put, List.setIfInBounds_toArray, List.set_cons_zero, List.set_cons_succ]
      refine wpGrow_skip (i := 19) (oi := ⟨some 45, _, _, _, _, _⟩) rfl (by kernel_rfl) (by kernel_rfl) (by kernel_rfl) (fun _ _ _ h => h) (by kernel_rfl) ?_
      try simp only [Act.put, List.setIfInBounds_toArray, List.set_cons_zero, List.set_cons_succ]
      refine wpGrow_skip (i := 20) (oi := ⟨some 46, _, _, _, _, _⟩) rfl (by kernel_rfl) (by kernel_rfl) (by kernel_rfl) (fun _ _ _ h => h) (by kernel_rfl) ?_
      try simp only [Act.put, List.setIfInBounds_toArray, List.set_cons_zero, List.set_cons_succ]
      refine wpGrow_skip (i := 21) (oi := ⟨some 47, _, _, _, _, _⟩) rfl (by kernel_rfl) (by kernel_rfl) (by kernel_rfl) (fun _ _ _ h => h) (by kernel_rfl) ?_
      try simp only [Act.put, List.setIfInBounds_toArray, List.set_cons_zero, List.set_cons_succ]
      refine wpGrow_take (i := 22) (oi := ⟨some 48, _, _, _, _, _⟩) (v := ?cbv22) rfl (by kernel_rfl) (by kernel_rfl) (by kernel_rfl) (fun _ _ _ h => h) (by kernel_rfl) ?cby22 ?cbr22
      case cby22 =>
        intro wt hO
        go_simp
        try with_reducible rfl
      try simp only [Act.put, List.setIfInBounds_toArray, List.set_cons_zero, List.set_cons_succ]
      refine wpGrow_done (by kernel_rfl) ?_ _
      go_wp2_with fail
      go_ret3
      exact ⟨by rw [HN.out]; rfl, HO1.out.drew⟩
end Go.Proofs.YtmingbgohdhajaaGreat
