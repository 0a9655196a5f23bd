/- The contract of lariathand.Trans. -/
import Derived.Test.YtdfodmnjgpgojaaDoorBnt
namespace Go.Proofs.YtdfodmnjgpgojaaDoor
open Go.RowKit Go.PlainAid
set_option maxRecDepth 100000

/-- A new feed. -/
theorem Feed.made (w : World) (a : Option Addr) (n c : Nat) (h : Grd w a n) : Feed w w.heap.size a n c 0 (w.alloc (.cells #[.slice a n c, .int .i64 0] 53)) :=
  ⟨h, Nat.le_refl _, (Touch.refl _ w).alloc _, Blk.new w 53 [.slice a n c, .int .i64 0]⟩
/-- A text of raw numbers. -/
def Made (w : World) (b : Nat) (e : Ending) (w' : World) : Prop := ∃ s : ByteArray, e = .returned (.string s) ∧ s.size ≤ b ∧ Old w w'
set_option maxHeartbeats 1600000 in
theorem formula_made (a : Option Addr) (n c : Nat) (w : World) (h : Grd w a n) : Calls Tryd.prog 18 #[.slice a n c] w (Made w 1000) := by
  have HF := Lib.hid (Feed.made w a n c h)
  have HE := Lib.hid (form_any w w.heap.size n c a 3 (by decide))
  clear h
  go_enter Tryd.func18, Tryd.ntmps18
  go_wp2_with (first
    | (go_at_call 33; refine (HE.out 0 _ 0 _ rfl (by decide) (by decide) HF.out).mono ?_; rintro e w2 ⟨s, kk, rfl, hs, hk', F⟩
       have hO := Lib.hid F.old
       clear F))
  go_ret
  exact ⟨_, rfl, Nat.le_trans hs (by decide), hO.out⟩
set_option maxHeartbeats 1600000 in
theorem expr_made (a : Option Addr) (n c : Nat) (w : World) (h : Grd w a n) : Calls Tryd.prog 19 #[.slice a n c] w (Made w 1000) := by
  have HF := Lib.hid (Feed.made w a n c h)
  have HE := Lib.hid (expr_any w w.heap.size n c a 4 (by decide))
  clear h
  go_enter Tryd.func19, Tryd.ntmps19
  go_wp2_with (first
    | (go_at_call 34; refine (HE.out 0 _ 0 _ rfl (by decide) (by decide) HF.out).mono ?_; rintro e w2 ⟨s, kk, rfl, hs, hk', F⟩
       have hO := Lib.hid F.old
       clear F))
  go_ret
  exact ⟨_, rfl, Nat.le_trans hs (by decide), hO.out⟩

theorem run_index_four (k : Nat) (hk : k < 4) : ∃ z : Nat, z ≤ 2 ∧ ∀ w, (Instr.index 60 (.agg #[.int .i64 0, .int .i64 1, .int .i64 1, .int .i64 2]) (.int .i64 (k : Int))).run Tryd.prog w = .ok (.int .i64 (z : Int)) w := by
  match k, hk with
  | 0, _ => exact ⟨0, by decide, fun w => by kernel_rfl⟩
  | 1, _ => exact ⟨1, by decide, fun w => by kernel_rfl⟩
  | 2, _ => exact ⟨1, by decide, fun w => by kernel_rfl⟩
  | 3, _ => exact ⟨2, by decide, fun w => by kernel_rfl⟩

set_option maxHeartbeats 12800000 in
theorem trans_made (a : Option Addr) (n c m : Nat) (w : World) (h : Grd w a n) (hm0 : 0 < m) (hm : m ≤ 3) : Calls Tryd.prog 20 #[.slice a n c, .int .i64 (m : Int)] w (Made w 1000) := by
  have HF := Lib.hid (Feed.made w a n c h)
  have HN := Lib.hid (nexts w w.heap.size a n c)
  have HE := Lib.hid (expr_any w w.heap.size n c a 2 (by decide))
  have HGd : Hid (∀ (k : Nat) (w1 : World), k ≤ 900000 → Feed w w.heap.size a n c k w1 → Calls Tryd.prog 36 #[.pointer (some ⟨w.heap.size, 0, none⟩)] w1 (Told w w.heap.size a n c k 2 8)) := fun k w1 hk h => guard_any hk w1 h
  have HSm : Hid (∀ (k : Nat) (w1 : World), k ≤ 900000 → Feed w w.heap.size a n c k w1 → Calls Tryd.prog 37 #[.pointer (some ⟨w.heap.size, 0, none⟩)] w1 (Told w w.heap.size a n c k 3 3)) := fun k w1 hk h => small_any hk w1 h
  clear h
  go_enter Tryd.func20, Tryd.ntmps20
  go_upto_region 2 with fail
  generalize w.alloc (.cells #[.slice a n c, .int .i64 0] 53) = w1 at *
  generalize w.heap.size = f at *
  refine wp_region_G (R := RO w) (by kernel_rfl) ?_
  refine wpG_take (RO.pre w) (i := 0) (oi := ⟨some 15, _, _, _, _, _⟩) (v := ?av0) rfl (by kernel_rfl) (by kernel_rfl) (by kernel_rfl) (fun _ _ _ h => h) (by kernel_rfl) ?ay0 ?ar0
  case ay0 =>
    intro wt hO
    go_simp
    try with_reducible rfl
  try simp only [Act.put, List.setIfInBounds_toArray, List.set_cons_zero, List.set_cons_succ]
  refine wpG_take (RO.pre w) (i := 1) (oi := ⟨some 16, _, _, _, _, _⟩) (v := ?av1) rfl (by kernel_rfl) (by kernel_rfl) (by kernel_rfl) (fun _ _ _ h => h) (by kernel_rfl) ?ay1 ?ar1
  case ay1 =>
    intro wt hO
    go_simp
    try with_reducible rfl
  try simp only [Act.put, List.setIfInBounds_toArray, List.set_cons_zero, List.set_cons_succ]
  refine wpG_take (RO.pre w) (i := 6) (oi := ⟨some 21, _, _, _, _, _⟩) (v := ?av6) rfl (by kernel_rfl) (by kernel_rfl) (by kernel_rfl) (fun _ _ _ h => h) (by kernel_rfl) ?ay6 ?ar6
  case ay6 =>
    intro wt hO
    go_simp
    try with_reducible rfl
  try simp only [Act.put, List.setIfInBounds_toArray, List.set_cons_zero, List.set_cons_succ]
  refine wpG_take (RO.pre w) (i := 12) (oi := ⟨some 27, _, _, _, _, _⟩) (v := ?av12) rfl (by kernel_rfl) (by kernel_rfl) (by kernel_rfl) (fun _ _ _ h => h) (by kernel_rfl) ?ay12 ?ar12
  case ay12 =>
    intro wt hO
    go_simp
    try with_reducible rfl
  try simp only [Act.put, List.setIfInBounds_toArray, List.set_cons_zero, List.set_cons_succ]
  refine wpG_take (RO.pre w) (i := 18) (oi := ⟨some 33, _, _, _, _, _⟩) (v := ?av18) rfl (by kernel_rfl) (by kernel_rfl) (by kernel_rfl) (fun _ _ _ h => h) (by kernel_rfl) ?ay18 ?ar18
  case ay18 =>
    intro wt hO
    go_simp
    try with_reducible rfl
  try simp only [Act.put, List.setIfInBounds_toArray, List.set_cons_zero, List.set_cons_succ]
  refine wpG_take (RO.pre w) (i := 19) (oi := ⟨some 34, _, _, _, _, _⟩) (v := ?av19) rfl (by kernel_rfl) (by kernel_rfl) (by kernel_rfl) (fun _ _ _ h => h) (by kernel_rfl) ?ay19 ?ar19
  case ay19 =>
    intro wt hO
    go_simp
    try with_reducible rfl
  try simp only [Act.put, List.setIfInBounds_toArray, List.set_cons_zero, List.set_cons_succ]
  refine wpG_call (RO.pre w) (i := 2) (o := ⟨some 17, _, _, _, _, _⟩) rfl (by kernel_rfl) (by kernel_rfl) (fun K hK => ?_)
  go_simp
  refine (HN.out m _ 0 _ rfl hm0 (by omega) (by omega) HF.out.drew).mono ?_
  rintro ye w2 ⟨x2, k2, rfl, hx2, hk2, F2⟩
  have HF2 := Lib.hid F2
  obtain ⟨pr, pre⟩ : ∃ pr, procTab.getD x2 ByteArray.empty = pr := ⟨_, rfl⟩
  have prs : pr.size ≤ 1 := by rw [← pre]; exact proc_size x2
  have Hpr : Hid (∀ wt, Old w wt → wt.cell? ⟨0, x2, none⟩ = some (.string pr)) := fun wt hO => by rw [← pre]; exact (F2.grd.old hO).procs x2 (by simpa [procTab] using (by omega : x2 < 3))
  have x2' : (x2 : Int) < 3 := by omega
  refine hK.out _ _ (fun _ => F2.old) ?_
  clear hK F2
  try simp only [Act.put, List.setIfInBounds_toArray, List.set_cons_zero, List.set_cons_succ]
  refine wpG_take (RO.pre w) (i := 3) (oi := ⟨some 18, _, _, _, _, _⟩) (v := ?av3) rfl (by kernel_rfl) (by kernel_rfl) (by kernel_rfl) (fun _ _ _ h => h) (by kernel_rfl) ?ay3 ?ar3
  case ay3 =>
    intro wt hO
    go_simp
    try with_reducible rfl
  try simp only [Act.put, List.setIfInBounds_toArray, List.set_cons_zero, List.set_cons_succ]
  refine wpG_take (RO.pre w) (i := 4) (oi := ⟨some 19, _, _, _, _, _⟩) (v := ?av4) rfl (by kernel_rfl) (by kernel_rfl) (by kernel_rfl) (fun _ _ _ h => h) (by kernel_rfl) ?ay4 ?ar4
  case ay4 =>
    intro wt hO
    have f0 := Hpr.out wt (hO HF2.out.old)
    go_simp
    try with_reducible rfl
  try simp only [Act.put, List.setIfInBounds_toArray, List.set_cons_zero, List.set_cons_succ]
  refine wpG_take (RO.pre w) (i := 5) (oi := ⟨some 20, _, _, _, _, _⟩) (v := ?av5) rfl (by kernel_rfl) (by kernel_rfl) (by kernel_rfl) (fun _ _ _ h => h) (by kernel_rfl) ?ay5 ?ar5
  case ay5 =>
    intro wt hO
    go_simp
    rw [if_neg (by omega)]
    try with_reducible rfl
  try simp only [Act.put, List.setIfInBounds_toArray, List.set_cons_zero, List.set_cons_succ]
  refine wpG_call (RO.pre w) (i := 7) (o := ⟨some 22, _, _, _, _, _⟩) rfl (by kernel_rfl) (by kernel_rfl) (fun K hK => ?_)
  go_simp
  refine (HN.out 3 3 k2 _ rfl (by decide) (by decide) (by omega) HF2.out).mono ?_
  rintro ye w3 ⟨x3, k3, rfl, hx3, hk3, F3⟩
  have HF3 := Lib.hid F3
  obtain ⟨lo, loe⟩ : ∃ lo, locTab.getD x3 ByteArray.empty = lo := ⟨_, rfl⟩
  have los : lo.size ≤ 1 := by rw [← loe]; exact loc_size x3
  have Hlo : Hid (∀ wt, Old w wt → wt.cell? ⟨1, x3, none⟩ = some (.string lo)) := fun wt hO => by rw [← loe]; exact (F3.grd.old hO).locs x3 (by simpa [locTab] using (by omega : x3 < 4))
  have x3' : (x3 : Int) < 4 := by omega
  refine hK.out _ _ (fun _ => F3.old) ?_
  clear hK F3
  try simp only [Act.put, List.setIfInBounds_toArray, List.set_cons_zero, List.set_cons_succ]
  refine wpG_take (RO.pre w) (i := 8) (oi := ⟨some 23, _, _, _, _, _⟩) (v := ?av8) rfl (by kernel_rfl) (by kernel_rfl) (by kernel_rfl) (fun _ _ _ h => h) (by kernel_rfl) ?ay8 ?ar8
  case ay8 =>
    intro wt hO
    go_simp
    try with_reducible rfl
  try simp only [Act.put, List.setIfInBounds_toArray, List.set_cons_zero, List.set_cons_succ]
  refine wpG_take (RO.pre w) (i := 9) (oi := ⟨some 24, _, _, _, _, _⟩) (v := ?av9) rfl (by kernel_rfl) (by kernel_rfl) (by kernel_rfl) (fun _ _ _ h => h) (by kernel_rfl) ?ay9 ?ar9
  case ay9 =>
    intro wt hO
    have f0 := Hlo.out wt (hO HF3.out.old)
    go_simp
    try with_reducible rfl
  try simp only [Act.put, List.setIfInBounds_toArray, List.set_cons_zero, List.set_cons_succ]
  refine wpG_take (RO.pre w) (i := 10) (oi := ⟨some 25, _, _, _, _, _⟩) (v := ?av10) rfl (by kernel_rfl) (by kernel_rfl) (by kernel_rfl) (fun _ _ _ h => h) (by kernel_rfl) ?ay10 ?ar10
  case ay10 =>
    intro wt hO
    go_simp
    rw [if_neg (by omega)]
    try with_reducible rfl
  try simp only [Act.put, List.setIfInBounds_toArray, List.set_cons_zero, List.set_cons_succ]
  refine wpG_take (RO.pre w) (i := 11) (oi := ⟨some 26, _, _, _, _, _⟩) (v := ?av11) rfl (by kernel_rfl) (by kernel_rfl) (by kernel_rfl) (fun _ _ _ h => h) (by kernel_rfl) ?ay11 ?ar11
  case ay11 =>
    intro wt hO
    go_simp
    rw [if_neg (by omega)]
    try with_reducible rfl
  try simp only [Act.put, List.setIfInBounds_toArray, List.set_cons_zero, List.set_cons_succ]
  refine wpG_call (RO.pre w) (i := 13) (o := ⟨some 28, _, _, _, _, _⟩) rfl (by kernel_rfl) (by kernel_rfl) (fun K hK => ?_)
  go_simp
  refine (HN.out 3 3 k3 _ rfl (by decide) (by decide) (by omega) HF3.out).mono ?_
  rintro ye w4 ⟨x4, k4, rfl, hx4, hk4, F4⟩
  have HF4 := Lib.hid F4
  obtain ⟨lp, lpe⟩ : ∃ lp, locTab.getD x4 ByteArray.empty = lp := ⟨_, rfl⟩
  have lps : lp.size ≤ 1 := by rw [← lpe]; exact loc_size x4
  have Hlp : Hid (∀ wt, Old w wt → wt.cell? ⟨1, x4, none⟩ = some (.string lp)) := fun wt hO => by rw [← lpe]; exact (F4.grd.old hO).locs x4 (by simpa [locTab] using (by omega : x4 < 4))
  have x4' : (x4 : Int) < 4 := by omega
  refine hK.out _ _ (fun _ => F4.old) ?_
  clear hK F4
  try simp only [Act.put, List.setIfInBounds_toArray, List.set_cons_zero, List.set_cons_succ]
  refine wpG_take (RO.pre w) (i := 14) (oi := ⟨some 29, _, _, _, _, _⟩) (v := ?av14) rfl (by kernel_rfl) (by kernel_rfl) (by kernel_rfl) (fun _ _ _ h => h) (by kernel_rfl) ?ay14 ?ar14
  case ay14 =>
    intro wt hO
    go_simp
    try with_reducible rfl
  try simp only [Act.put, List.setIfInBounds_toArray, List.set_cons_zero, List.set_cons_succ]
  refine wpG_take (RO.pre w) (i := 15) (oi := ⟨some 30, _, _, _, _, _⟩) (v := ?av15) rfl (by kernel_rfl) (by kernel_rfl) (by kernel_rfl) (fun _ _ _ h => h) (by kernel_rfl) ?ay15 ?ar15
  case ay15 =>
    intro wt hO
    have f0 := Hlp.out wt (hO HF4.out.old)
    go_simp
    try with_reducible rfl
  try simp only [Act.put, List.setIfInBounds_toArray, List.set_cons_zero, List.set_cons_succ]
  refine wpG_take (RO.pre w) (i := 16) (oi := ⟨some 31, _, _, _, _, _⟩) (v := ?av16) rfl (by kernel_rfl) (by kernel_rfl) (by kernel_rfl) (fun _ _ _ h => h) (by kernel_rfl) ?ay16 ?ar16
  case ay16 =>
    intro wt hO
    go_simp
    rw [if_neg (by omega)]
    try with_reducible rfl
  try simp only [Act.put, List.setIfInBounds_toArray, List.set_cons_zero, List.set_cons_succ]
  refine wpG_take (RO.pre w) (i := 17) (oi := ⟨some 32, _, _, _, _, _⟩) (v := ?av17) rfl (by kernel_rfl) (by kernel_rfl) (by kernel_rfl) (fun _ _ _ h => h) (by kernel_rfl) ?ay17 ?ar17
  case ay17 =>
    intro wt hO
    go_simp
    rw [if_neg (by omega)]
    try with_reducible rfl
  try simp only [Act.put, List.setIfInBounds_toArray, List.set_cons_zero, List.set_cons_succ]
  refine wpG_call (RO.pre w) (i := 20) (o := ⟨some 35, _, _, _, _, _⟩) rfl (by kernel_rfl) (by kernel_rfl) (fun K hK => ?_)
  go_simp
  refine (HN.out 8 8 k4 _ rfl (by decide) (by decide) (by omega) HF4.out).mono ?_
  rintro ye w5 ⟨x5, k5, rfl, hx5, hk5, F5⟩
  have HF5 := Lib.hid F5
  have hix : ∀ w, (Instr.index 58 (.agg #[.string ((⟨#[45]⟩ : ByteArray)), .string ((⟨#[45]⟩ : ByteArray)), .string ((⟨#[45]⟩ : ByteArray)), .string ((⟨#[45]⟩ : ByteArray)), .string ((⟨#[99, 33]⟩ : ByteArray)), .string ((⟨#[99, 63]⟩ : ByteArray)), .string ((⟨#[100, 33]⟩ : ByteArray)), .string ((⟨#[99, 63]⟩ : ByteArray))]) (.int .i64 (x5 : Int))).run Tryd.prog w = .ok (.string (([(⟨#[45]⟩ : ByteArray), (⟨#[45]⟩ : ByteArray), (⟨#[45]⟩ : ByteArray), (⟨#[45]⟩ : ByteArray), (⟨#[99, 33]⟩ : ByteArray), (⟨#[99, 63]⟩ : ByteArray), (⟨#[100, 33]⟩ : ByteArray), (⟨#[99, 63]⟩ : ByteArray)] : List ByteArray).getD x5 ByteArray.empty)) w := fun w => run_index_strs Tryd.underlying58 [(⟨#[45]⟩ : ByteArray), (⟨#[45]⟩ : ByteArray), (⟨#[45]⟩ : ByteArray), (⟨#[45]⟩ : ByteArray), (⟨#[99, 33]⟩ : ByteArray), (⟨#[99, 63]⟩ : ByteArray), (⟨#[100, 33]⟩ : ByteArray), (⟨#[99, 63]⟩ : ByteArray)] x5 hx5 rfl w
  have hsz : (([(⟨#[45]⟩ : ByteArray), (⟨#[45]⟩ : ByteArray), (⟨#[45]⟩ : ByteArray), (⟨#[45]⟩ : ByteArray), (⟨#[99, 33]⟩ : ByteArray), (⟨#[99, 63]⟩ : ByteArray), (⟨#[100, 33]⟩ : ByteArray), (⟨#[99, 63]⟩ : ByteArray)] : List ByteArray).getD x5 ByteArray.empty).size ≤ 2 := one_of _ _ (by decide) x5
  obtain ⟨sg, hS⟩ : ∃ sg, ([(⟨#[45]⟩ : ByteArray), (⟨#[45]⟩ : ByteArray), (⟨#[45]⟩ : ByteArray), (⟨#[45]⟩ : ByteArray), (⟨#[99, 33]⟩ : ByteArray), (⟨#[99, 63]⟩ : ByteArray), (⟨#[100, 33]⟩ : ByteArray), (⟨#[99, 63]⟩ : ByteArray)] : List ByteArray).getD x5 ByteArray.empty = sg := ⟨_, rfl⟩
  rw [hS] at hsz
  simp only [hS] at hix
  refine hK.out _ _ (fun _ => F5.old) ?_
  clear hK F5
  try simp only [Act.put, List.setIfInBounds_toArray, List.set_cons_zero, List.set_cons_succ]
  refine wpG_take (RO.pre w) (i := 21) (oi := ⟨some 36, _, _, _, _, _⟩) (v := ?av21) rfl (by kernel_rfl) (by kernel_rfl) (by kernel_rfl) (fun _ _ _ h => h) (by kernel_rfl) ?ay21 ?ar21
  case ay21 =>
    intro wt hO
    go_simp
    try with_reducible rfl
  try simp only [Act.put, List.setIfInBounds_toArray, List.set_cons_zero, List.set_cons_succ]
  refine wpG_take (RO.pre w) (i := 22) (oi := ⟨some 37, _, _, _, _, _⟩) (v := ?av22) rfl (by kernel_rfl) (by kernel_rfl) (by kernel_rfl) (fun _ _ _ h => h) (by kernel_rfl) ?ay22 ?ar22
  case ay22 =>
    intro wt hO
    go_simp
    rw [if_neg (by omega)]
    try with_reducible rfl
  try simp only [Act.put, List.setIfInBounds_toArray, List.set_cons_zero, List.set_cons_succ]
  refine wpG_take (RO.pre w) (i := 23) (oi := ⟨some 38, _, _, _, _, _⟩) (v := ?av23) rfl (by kernel_rfl) (by kernel_rfl) (by kernel_rfl) (fun _ _ _ h => h) (by kernel_rfl) ?ay23 ?ar23
  case ay23 =>
    intro wt hO
    go_simp
    rw [if_neg (by omega)]
    try with_reducible rfl
  try simp only [Act.put, List.setIfInBounds_toArray, List.set_cons_zero, List.set_cons_succ]
  refine wpG_take (RO.pre w) (i := 24) (oi := ⟨some 6, _, _, _, _, _⟩) (v := ?av24) rfl (by kernel_rfl) (by kernel_rfl) (by kernel_rfl) (fun _ _ _ h => h) (by kernel_rfl) ?ay24 ?ar24
  case ay24 =>
    intro wt hO
    go_simp
    try with_reducible rfl
  try simp only [Act.put, List.setIfInBounds_toArray, List.set_cons_zero, List.set_cons_succ]
  refine wpG_done (by kernel_rfl) ?_ _
  go_upto_region 4 with (first
    | (go_at_call 36; refine (HGd.out k5 _ (by omega) HF5.out).mono ?_; rintro e w6 ⟨gd, k6, rfl, hgd, hk6, F6⟩
       have HF6 := Lib.hid F6
       clear F6))
  go_cut [43] (fun v wx => ∃ (b : Bool) (k7 : Nat), v = .bool b ∧ k7 ≤ k6 + 1 ∧ Hid (Feed w f a n c k7 wx))
  case first =>
    go_wp2_with (first
      | (go_at_call_of 35 (Value.int .i64 9); refine (HN.out 9 9 k6 _ rfl (by decide) (by decide) (by omega) HF6.out).mono ?_; rintro e w7 ⟨x7, k7, rfl, hx7, hk7, F7⟩
         have HF7 := Lib.hid F7
         clear F7))
    go_meet
    exact ⟨_, k7, rfl, hk7, HF7⟩
  case rest =>
    obtain ⟨b, k7, rfl, hk7, HF7⟩ := hcut
    go_step
    go_cut [7] (fun v wx => ∃ (g : ByteArray) (k8 : Nat), v = .string g ∧ g.size ≤ 30 ∧ k8 ≤ k7 + 21 ∧ Hid (Feed w f a n c k8 wx))
    case first =>
      cases b with
      | true =>
        go_wp2_with (first
          | (go_at_call 34; refine (HE.out 2 _ k7 _ rfl (by decide) (by have : needE 2 = 21 := rfl; omega) HF7.out).mono ?_; rintro e w2 ⟨g, kk, rfl, hg, hk', F⟩
             have HF8 := Lib.hid F
             clear F))
        go_meet
        exact ⟨g, kk, rfl, Nat.le_trans hg (by decide), hk', HF8⟩
      | false =>
        go_wp2_with fail
        go_meet
        exact ⟨gd, k7, rfl, by omega, by omega, HF7⟩
    case rest =>
      obtain ⟨g, k8, rfl, hg, hk8, HF8⟩ := hcut
      clear HF HF2 HF3 HF4 HF5 HF6 HF7 HGd HE
      go_wp2_with (first
        | (go_at_call_of 35 (Value.int .i64 4); refine (HN.out 4 4 k8 _ rfl (by decide) (by decide) (by omega) HF8.out).mono ?_; rintro e w9 ⟨x9, k9, rfl, hx9, hk9, F9⟩
           have HF9 := Lib.hid F9
           obtain ⟨z, hz, hiz⟩ := run_index_four x9 hx9
           clear F9))
      have HSs : Hid ((pr ++ (⟨#[32]⟩ : ByteArray) ++ lo ++ (⟨#[32]⟩ : ByteArray) ++ lp ++ (⟨#[32]⟩ : ByteArray) ++ sg ++ (⟨#[32]⟩ : ByteArray) ++ g).size ≤ 60 + 30 * 0) := by
        show _ ≤ _
        simp only [ByteArray.size_append, bsz1]
        omega
      generalize pr ++ (⟨#[32]⟩ : ByteArray) ++ lo ++ (⟨#[32]⟩ : ByteArray) ++ lp ++ (⟨#[32]⟩ : ByteArray) ++ sg ++ (⟨#[32]⟩ : ByteArray) ++ g = S0 at *
      clear hiz HF8 Hpr Hlo Hlp
      go_loopw [6, 9, 10, 11] (fun sv iv _ _ wx => ∃ (i kk : Nat) (S : ByteArray), i ≤ z ∧ iv = .int .i64 (i : Int) ∧ sv = .string S ∧ kk ≤ 60 + 20 * i ∧ Hid (S.size ≤ 60 + 30 * i) ∧ Hid (Feed w f a n c kk wx)) (fun _ iv _ _ _ => z - (intOf iv).toNat)
      case atStart => exact ⟨0, k9, S0, Nat.zero_le _, rfl, rfl, by omega, HSs, HF9⟩
      case round =>
        obtain ⟨i, kk, S, hi, rfl, rfl, hkk, HS, HF⟩ := hrel
        clear HSs HF9
        by_cases q : i < z
        · have q' : (i : Int) < (z : Int) := by omega
          obtain ⟨sz, hsz⟩ : ∃ sz, S.size = sz := ⟨_, rfl⟩
          have hszb : sz ≤ 60 + 30 * i := by rw [← hsz]; exact HS.out
          clear HS
          go_upto_region 15 with (first
            | (go_at_call_of 35 (Value.int .i64 2); refine (HN.out 2 2 kk _ rfl (by decide) (by decide) (by omega) HF.out).mono ?_; rintro e w1 ⟨x1, k1, rfl, hx1, hk1, F1⟩
               have hv := F1.grd'.vars x1 (by simpa [varTab] using (by omega : x1 < 3))
               have hx1' : (x1 : Int) < 3 := by omega
               obtain ⟨v, hve⟩ : ∃ v, varTab.getD x1 ByteArray.empty = v := ⟨_, rfl⟩
               have hvs : v.size ≤ 1 := by rw [← hve]; exact var_size x1
               rw [hve] at hv
               have HF1 := Lib.hid F1
               clear F1 hve HF)
            | (go_at_call 37; refine (HSm.out k1 _ (by omega) HF1.out).mono ?_; rintro e w2 ⟨sm, k2, rfl, hsm, hk2, F2⟩
               have HF2 := Lib.hid F2
               clear F2 HF1 hv)
            | (go_at_call_of 35 (Value.int .i64 6); refine (HN.out 6 6 k2 _ rfl (by decide) (by decide) (by omega) HF2.out).mono ?_; rintro e w3 ⟨x3, kk, rfl, hx3, hk3, F3⟩
               have HF := Lib.hid F3
               clear F3 HF2))
          by_cases z0 : x3 = 0
          · subst z0
            go_wp2_with fail
            refine ⟨⟨i + 1, kk, _, by omega, by rw [Int.natCast_add]; rfl, rfl, by omega, ?_, HF⟩, by simp only [intOf]; omega⟩
            show _ ≤ _
            simp only [ByteArray.size_append, bsz3]
            omega
          · have z0' : ¬ (x3 : Int) = 0 := by omega
            by_cases z1 : x3 = 1
            · subst z1
              go_wp2_with fail
              refine ⟨⟨i + 1, kk, _, by omega, by rw [Int.natCast_add]; rfl, rfl, by omega, ?_, HF⟩, by simp only [intOf]; omega⟩
              show _ ≤ _
              simp only [ByteArray.size_append, bsz1, bsz3]
              omega
            · have z1' : ¬ (x3 : Int) = 1 := by omega
              go_upto_region 14 with fail
              refine wp_region_G (R := RO w) (by kernel_rfl) ?_
              refine wpG_take (RO.pre w) (i := 0) (oi := ⟨some 66, _, _, _, _, _⟩) (v := ?bv0) rfl (by kernel_rfl) (by kernel_rfl) (by kernel_rfl) (fun _ _ _ h => h) (by kernel_rfl) ?by0 ?br0
              case by0 =>
                intro wt hO
                go_simp
                try with_reducible rfl
              try simp only [Act.put, List.setIfInBounds_toArray, List.set_cons_zero, List.set_cons_succ]
              refine wpG_take (RO.pre w) (i := 1) (oi := ⟨some 67, _, _, _, _, _⟩) (v := ?bv1) rfl (by kernel_rfl) (by kernel_rfl) (by kernel_rfl) (fun _ _ _ h => h) (by kernel_rfl) ?by1 ?br1
              case by1 =>
                intro wt hO
                go_simp
                rw [if_neg (by omega)]
                try with_reducible rfl
              try simp only [Act.put, List.setIfInBounds_toArray, List.set_cons_zero, List.set_cons_succ]
              refine wpG_take (RO.pre w) (i := 2) (oi := ⟨some 68, _, _, _, _, _⟩) (v := ?bv2) rfl (by kernel_rfl) (by kernel_rfl) (by kernel_rfl) (fun _ _ _ h => h) (by kernel_rfl) ?by2 ?br2
              case by2 =>
                intro wt hO
                go_simp
                rw [if_neg (by omega)]
                try with_reducible rfl
              try simp only [Act.put, List.setIfInBounds_toArray, List.set_cons_zero, List.set_cons_succ]
              refine wpG_take (RO.pre w) (i := 3) (oi := ⟨some 69, _, _, _, _, _⟩) (v := ?bv3) rfl (by kernel_rfl) (by kernel_rfl) (by kernel_rfl) (fun _ _ _ h => h) (by kernel_rfl) ?by3 ?br3
              case by3 =>
                intro wt hO
                go_simp
                try with_reducible rfl
              try simp only [Act.put, List.setIfInBounds_toArray, List.set_cons_zero, List.set_cons_succ]
              refine wpG_take (RO.pre w) (i := 4) (oi := ⟨some 70, _, _, _, _, _⟩) (v := ?bv4) rfl (by kernel_rfl) (by kernel_rfl) (by kernel_rfl) (fun _ _ _ h => h) (by kernel_rfl) ?by4 ?br4
              case by4 =>
                intro wt hO
                go_simp
                rw [if_neg (by omega)]
                try with_reducible rfl
              try simp only [Act.put, List.setIfInBounds_toArray, List.set_cons_zero, List.set_cons_succ]
              refine wpG_take (RO.pre w) (i := 5) (oi := ⟨some 71, _, _, _, _, _⟩) (v := ?bv5) rfl (by kernel_rfl) (by kernel_rfl) (by kernel_rfl) (fun _ _ _ h => h) (by kernel_rfl) ?by5 ?br5
              case by5 =>
                intro wt hO
                go_simp
                rw [if_neg (by omega)]
                try with_reducible rfl
              try simp only [Act.put, List.setIfInBounds_toArray, List.set_cons_zero, List.set_cons_succ]
              refine wpG_take (RO.pre w) (i := 6) (oi := ⟨some 72, _, _, _, _, _⟩) (v := ?bv6) rfl (by kernel_rfl) (by kernel_rfl) (by kernel_rfl) (fun _ _ _ h => h) (by kernel_rfl) ?by6 ?br6
              case by6 =>
                intro wt hO
                go_simp
                try with_reducible rfl
              try simp only [Act.put, List.setIfInBounds_toArray, List.set_cons_zero, List.set_cons_succ]
              refine wpG_take (RO.pre w) (i := 13) (oi := ⟨some 79, _, _, _, _, _⟩) (v := ?bv13) rfl (by kernel_rfl) (by kernel_rfl) (by kernel_rfl) (fun _ _ _ h => h) (by kernel_rfl) ?by13 ?br13
              case by13 =>
                intro wt hO
                go_simp
                try with_reducible rfl
              try simp only [Act.put, List.setIfInBounds_toArray, List.set_cons_zero, List.set_cons_succ]
              refine wpG_call (RO.pre w) (i := 7) (o := ⟨some 73, _, _, _, _, _⟩) rfl (by kernel_rfl) (by kernel_rfl) (fun K hK => ?_)
              go_simp
              refine (HN.out 2 2 kk _ rfl (by decide) (by decide) (by omega) HF.out.drew).mono ?_
              rintro ye w6 ⟨x6, k6, rfl, hx6, hk6, F6⟩
              have HF6 := Lib.hid F6
              obtain ⟨u, ue⟩ : ∃ u, varTab.getD x6 ByteArray.empty = u := ⟨_, rfl⟩
              have us : u.size ≤ 1 := by rw [← ue]; exact var_size x6
              have Hu : Hid (∀ wt, Old w wt → wt.cell? ⟨2, x6, none⟩ = some (.string u)) := fun wt hO => by rw [← ue]; exact (F6.grd.old hO).vars x6 (by simpa [varTab] using (by omega : x6 < 3))
              have x6' : (x6 : Int) < 3 := by omega
              refine hK.out _ _ (fun _ => F6.old) ?_
              clear hK F6
              try simp only [Act.put, List.setIfInBounds_toArray, List.set_cons_zero, List.set_cons_succ]
              refine wpG_take (RO.pre w) (i := 8) (oi := ⟨some 74, _, _, _, _, _⟩) (v := ?bv8) rfl (by kernel_rfl) (by kernel_rfl) (by kernel_rfl) (fun _ _ _ h => h) (by kernel_rfl) ?by8 ?br8
              case by8 =>
                intro wt hO
                go_simp
                try with_reducible rfl
              try simp only [Act.put, List.setIfInBounds_toArray, List.set_cons_zero, List.set_cons_succ]
              refine wpG_take (RO.pre w) (i := 9) (oi := ⟨some 75, _, _, _, _, _⟩) (v := ?bv9) rfl (by kernel_rfl) (by kernel_rfl) (by kernel_rfl) (fun _ _ _ h => h) (by kernel_rfl) ?by9 ?br9
              case by9 =>
                intro wt hO
                have f0 := Hu.out wt (hO HF6.out.old)
                go_simp
                try with_reducible rfl
              try simp only [Act.put, List.setIfInBounds_toArray, List.set_cons_zero, List.set_cons_succ]
              refine wpG_take (RO.pre w) (i := 10) (oi := ⟨some 76, _, _, _, _, _⟩) (v := ?bv10) rfl (by kernel_rfl) (by kernel_rfl) (by kernel_rfl) (fun _ _ _ h => h) (by kernel_rfl) ?by10 ?br10
              case by10 =>
                intro wt hO
                go_simp
                rw [if_neg (by omega)]
                try with_reducible rfl
              try simp only [Act.put, List.setIfInBounds_toArray, List.set_cons_zero, List.set_cons_succ]
              refine wpG_take (RO.pre w) (i := 11) (oi := ⟨some 77, _, _, _, _, _⟩) (v := ?bv11) rfl (by kernel_rfl) (by kernel_rfl) (by kernel_rfl) (fun _ _ _ h => h) (by kernel_rfl) ?by11 ?br11
              case by11 =>
                intro wt hO
                go_simp
                rw [if_neg (by omega)]
                try with_reducible rfl
              try simp only [Act.put, List.setIfInBounds_toArray, List.set_cons_zero, List.set_cons_succ]
              refine wpG_take (RO.pre w) (i := 12) (oi := ⟨some 78, _, _, _, _, _⟩) (v := ?bv12) rfl (by kernel_rfl) (by kernel_rfl) (by kernel_rfl) (fun _ _ _ h => h) (by kernel_rfl) ?by12 ?br12
              case by12 =>
                intro wt hO
                go_simp
                try with_reducible rfl
              try simp only [Act.put, List.setIfInBounds_toArray, List.set_cons_zero, List.set_cons_succ]
              refine wpG_call (RO.pre w) (i := 14) (o := ⟨some 80, _, _, _, _, _⟩) rfl (by kernel_rfl) (by kernel_rfl) (fun K hK => ?_)
              go_simp
              refine (HN.out 3 3 k6 _ rfl (by decide) (by decide) (by omega) HF6.out).mono ?_
              rintro ye w7 ⟨x7, k7, rfl, hx7, hk7, F7⟩
              have HF7 := Lib.hid F7
              have hix : ∀ w, (Instr.index 55 (.agg #[.string ((⟨#[49, 45, 40]⟩ : ByteArray) ++ v ++ (⟨#[61, 61, 49, 41]⟩ : ByteArray)), .string ((⟨#[40]⟩ : ByteArray) ++ v ++ (⟨#[60, 49, 41]⟩ : ByteArray)), .string ((⟨#[40]⟩ : ByteArray) ++ u ++ (⟨#[61, 61, 48, 41]⟩ : ByteArray))]) (.int .i64 (x7 : Int))).run Tryd.prog w = .ok (.string (([(⟨#[49, 45, 40]⟩ : ByteArray) ++ v ++ (⟨#[61, 61, 49, 41]⟩ : ByteArray), (⟨#[40]⟩ : ByteArray) ++ v ++ (⟨#[60, 49, 41]⟩ : ByteArray), (⟨#[40]⟩ : ByteArray) ++ u ++ (⟨#[61, 61, 48, 41]⟩ : ByteArray)] : List ByteArray).getD x7 ByteArray.empty)) w := fun w => run_index_strs Tryd.underlying55 [(⟨#[49, 45, 40]⟩ : ByteArray) ++ v ++ (⟨#[61, 61, 49, 41]⟩ : ByteArray), (⟨#[40]⟩ : ByteArray) ++ v ++ (⟨#[60, 49, 41]⟩ : ByteArray), (⟨#[40]⟩ : ByteArray) ++ u ++ (⟨#[61, 61, 48, 41]⟩ : ByteArray)] x7 hx7 rfl w
              have hsz : (([(⟨#[49, 45, 40]⟩ : ByteArray) ++ v ++ (⟨#[61, 61, 49, 41]⟩ : ByteArray), (⟨#[40]⟩ : ByteArray) ++ v ++ (⟨#[60, 49, 41]⟩ : ByteArray), (⟨#[40]⟩ : ByteArray) ++ u ++ (⟨#[61, 61, 48, 41]⟩ : ByteArray)] : List ByteArray).getD x7 ByteArray.empty).size ≤ 10 := one_of _ _ (by
                intro s hs
                simp only [List.mem_cons, List.not_mem_nil, or_false] at hs
                rcases hs with rfl | rfl | rfl
                · exact Nat.le_trans (app_le (app_le (Nat.le_refl _) hvs) (Nat.le_refl _)) (by decide)
                · exact Nat.le_trans (app_le (app_le (Nat.le_refl _) hvs) (Nat.le_refl _)) (by decide)
                · exact Nat.le_trans (app_le (app_le (Nat.le_refl _) us) (Nat.le_refl _)) (by decide)) x7
              obtain ⟨sg, hS⟩ : ∃ sg, ([(⟨#[49, 45, 40]⟩ : ByteArray) ++ v ++ (⟨#[61, 61, 49, 41]⟩ : ByteArray), (⟨#[40]⟩ : ByteArray) ++ v ++ (⟨#[60, 49, 41]⟩ : ByteArray), (⟨#[40]⟩ : ByteArray) ++ u ++ (⟨#[61, 61, 48, 41]⟩ : ByteArray)] : List ByteArray).getD x7 ByteArray.empty = sg := ⟨_, rfl⟩
              rw [hS] at hsz
              simp only [hS] at hix
              refine hK.out _ _ (fun _ => F7.old) ?_
              clear hK F7
              try simp only [Act.put, List.setIfInBounds_toArray, List.set_cons_zero, List.set_cons_succ]
              refine wpG_take (RO.pre w) (i := 15) (oi := ⟨some 81, _, _, _, _, _⟩) (v := ?bv15) rfl (by kernel_rfl) (by kernel_rfl) (by kernel_rfl) (fun _ _ _ h => h) (by kernel_rfl) ?by15 ?br15
              case by15 =>
                intro wt hO
                go_simp
                try with_reducible rfl
              try simp only [Act.put, List.setIfInBounds_toArray, List.set_cons_zero, List.set_cons_succ]
              refine wpG_take (RO.pre w) (i := 16) (oi := ⟨some 11, _, _, _, _, _⟩) (v := ?bv16) rfl (by kernel_rfl) (by kernel_rfl) (by kernel_rfl) (fun _ _ _ h => h) (by kernel_rfl) ?by16 ?br16
              case by16 =>
                intro wt hO
                go_simp
                try with_reducible rfl
              try simp only [Act.put, List.setIfInBounds_toArray, List.set_cons_zero, List.set_cons_succ]
              refine wpG_done (by kernel_rfl) ?_ _
              go_wp2_with fail
              refine ⟨⟨i + 1, k7, _, by omega, by rw [Int.natCast_add]; rfl, rfl, by omega, ?_, HF7⟩, by simp only [intOf]; omega⟩
              show _ ≤ _
              simp only [ByteArray.size_append, bsz3]
              omega
        · have q' : ¬ (i : Int) < (z : Int) := by omega
          go_wp2_with fail
          go_ret
          exact ⟨S, rfl, Nat.le_trans HS.out (by omega), HF.out.old⟩
end Go.Proofs.YtdfodmnjgpgojaaDoor
