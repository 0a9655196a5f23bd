/- The contract of the feed's small. -/
import Derived.Test.YtdfodmnjgpgojaaDoorWpg
namespace Go.Proofs.YtdfodmnjgpgojaaDoor
open Go.RowKit Go.PlainAid
set_option maxRecDepth 100000

set_option maxHeartbeats 3200000 in
theorem small_any {w0 : World} {f n c k : Nat} {a : Option Addr} (hk : k ≤ 900000) (w : World) (h : Feed w0 f a n c k w) :
    Calls Tryd.prog 37 #[.pointer (some ⟨f, 0, none⟩)] w (Told w0 f a n c k 3 3) := by
  have HH := Lib.hid h
  have HN := Lib.hid (nexts w0 f a n c)
  clear h
  go_enter Tryd.func37, Tryd.ntmps37
  go_upto_region 2 with (first
    | (go_at_call_of 35 (Value.int .i64 2); refine (HN.out 2 2 k _ rfl (by decide) (by decide) (by omega) HH.out).mono ?_; rintro e w1 ⟨x1, k1, rfl, hx1, hk1, F1⟩
       have hv := F1.grd'.vars x1 (by simpa [varTab] using (by omega : x1 < 3))
       have hx1' : (x1 : Int) < 3 := by omega
       obtain ⟨v, hve⟩ : ∃ v, varTab.getD x1 ByteArray.empty = v := ⟨_, rfl⟩
       have hvs : v.size ≤ 1 := by rw [← hve]; exact var_size x1
       rw [hve] at hv
       have HF1 := Lib.hid F1
       clear F1 hve))
  refine wp_region_G (R := RO w0) (by kernel_rfl) ?_
  refine wpG_take (RO.pre w0) (i := 0) (oi := ⟨some 8, _, _, _, _, _⟩) (v := ?av0) rfl (by kernel_rfl) (by kernel_rfl) (by kernel_rfl) (fun _ _ _ h => h) (by kernel_rfl) ?ay0 ?ar0
  case ay0 =>
    intro wt hO
    go_simp
    try with_reducible rfl
  try simp only [Act.put, List.setIfInBounds_toArray, List.set_cons_zero, List.set_cons_succ]
  refine wpG_take (RO.pre w0) (i := 1) (oi := ⟨some 9, _, _, _, _, _⟩) (v := ?av1) rfl (by kernel_rfl) (by kernel_rfl) (by kernel_rfl) (fun _ _ _ h => h) (by kernel_rfl) ?ay1 ?ar1
  case ay1 =>
    intro wt hO
    go_simp
    try with_reducible rfl
  try simp only [Act.put, List.setIfInBounds_toArray, List.set_cons_zero, List.set_cons_succ]
  refine wpG_take (RO.pre w0) (i := 2) (oi := ⟨some 10, _, _, _, _, _⟩) (v := ?av2) rfl (by kernel_rfl) (by kernel_rfl) (by kernel_rfl) (fun _ _ _ h => h) (by kernel_rfl) ?ay2 ?ar2
  case ay2 =>
    intro wt hO
    go_simp
    rw [if_neg (by omega)]
    try with_reducible rfl
  try simp only [Act.put, List.setIfInBounds_toArray, List.set_cons_zero, List.set_cons_succ]
  refine wpG_take (RO.pre w0) (i := 3) (oi := ⟨some 11, _, _, _, _, _⟩) (v := ?av3) rfl (by kernel_rfl) (by kernel_rfl) (by kernel_rfl) (fun _ _ _ h => h) (by kernel_rfl) ?ay3 ?ar3
  case ay3 =>
    intro wt hO
    go_simp
    try with_reducible rfl
  try simp only [Act.put, List.setIfInBounds_toArray, List.set_cons_zero, List.set_cons_succ]
  refine wpG_take (RO.pre w0) (i := 4) (oi := ⟨some 12, _, _, _, _, _⟩) (v := ?av4) rfl (by kernel_rfl) (by kernel_rfl) (by kernel_rfl) (fun _ _ _ h => h) (by kernel_rfl) ?ay4 ?ar4
  case ay4 =>
    intro wt hO
    go_simp
    rw [if_neg (by omega)]
    try with_reducible rfl
  try simp only [Act.put, List.setIfInBounds_toArray, List.set_cons_zero, List.set_cons_succ]
  refine wpG_take (RO.pre w0) (i := 5) (oi := ⟨some 13, _, _, _, _, _⟩) (v := ?av5) rfl (by kernel_rfl) (by kernel_rfl) (by kernel_rfl) (fun _ _ _ h => h) (by kernel_rfl) ?ay5 ?ar5
  case ay5 =>
    intro wt hO
    go_simp
    try with_reducible rfl
  try simp only [Act.put, List.setIfInBounds_toArray, List.set_cons_zero, List.set_cons_succ]
  refine wpG_take (RO.pre w0) (i := 6) (oi := ⟨some 14, _, _, _, _, _⟩) (v := ?av6) rfl (by kernel_rfl) (by kernel_rfl) (by kernel_rfl) (fun _ _ _ h => h) (by kernel_rfl) ?ay6 ?ar6
  case ay6 =>
    intro wt hO
    go_simp
    rw [if_neg (by omega)]
    try with_reducible rfl
  try simp only [Act.put, List.setIfInBounds_toArray, List.set_cons_zero, List.set_cons_succ]
  refine wpG_take (RO.pre w0) (i := 7) (oi := ⟨some 15, _, _, _, _, _⟩) (v := ?av7) rfl (by kernel_rfl) (by kernel_rfl) (by kernel_rfl) (fun _ _ _ h => h) (by kernel_rfl) ?ay7 ?ar7
  case ay7 =>
    intro wt hO
    go_simp
    try with_reducible rfl
  try simp only [Act.put, List.setIfInBounds_toArray, List.set_cons_zero, List.set_cons_succ]
  refine wpG_take (RO.pre w0) (i := 8) (oi := ⟨some 16, _, _, _, _, _⟩) (v := ?av8) rfl (by kernel_rfl) (by kernel_rfl) (by kernel_rfl) (fun _ _ _ h => h) (by kernel_rfl) ?ay8 ?ar8
  case ay8 =>
    intro wt hO
    go_simp
    rw [if_neg (by omega)]
    try with_reducible rfl
  try simp only [Act.put, List.setIfInBounds_toArray, List.set_cons_zero, List.set_cons_succ]
  refine wpG_take (RO.pre w0) (i := 9) (oi := ⟨some 17, _, _, _, _, _⟩) (v := ?av9) rfl (by kernel_rfl) (by kernel_rfl) (by kernel_rfl) (fun _ _ _ h => h) (by kernel_rfl) ?ay9 ?ar9
  case ay9 =>
    intro wt hO
    go_simp
    try with_reducible rfl
  try simp only [Act.put, List.setIfInBounds_toArray, List.set_cons_zero, List.set_cons_succ]
  refine wpG_take (RO.pre w0) (i := 14) (oi := ⟨some 22, _, _, _, _, _⟩) (v := ?av14) rfl (by kernel_rfl) (by kernel_rfl) (by kernel_rfl) (fun _ _ _ h => h) (by kernel_rfl) ?ay14 ?ar14
  case ay14 =>
    intro wt hO
    go_simp
    try with_reducible rfl
  try simp only [Act.put, List.setIfInBounds_toArray, List.set_cons_zero, List.set_cons_succ]
  refine wpG_call (RO.pre w0) (i := 10) (o := ⟨some 18, _, _, _, _, _⟩) rfl (by kernel_rfl) (by kernel_rfl) (fun K hK => ?_)
  go_simp
  refine (HN.out 2 2 k1 _ rfl (by decide) (by decide) (by omega) HF1.out.drew).mono ?_
  rintro ye w2 ⟨x2, k2, rfl, hx2, hk2, F2⟩
  have HF2 := Lib.hid F2
  have hx2' : (x2 : Int) < 3 := by omega
  obtain ⟨u, hue⟩ : ∃ u, varTab.getD x2 ByteArray.empty = u := ⟨_, rfl⟩
  have hus : u.size ≤ 1 := by rw [← hue]; exact var_size x2
  have HU : Hid (∀ wt, Old w0 wt → wt.cell? ⟨2, x2, none⟩ = some (.string u)) := fun wt hO => by rw [← hue]; exact (F2.grd.old hO).vars x2 (by simpa [varTab] using (by omega : x2 < 3))
  refine hK.out _ _ (fun _ => F2.old) ?_
  clear hK F2
  try simp only [Act.put, List.setIfInBounds_toArray, List.set_cons_zero, List.set_cons_succ]
  refine wpG_take (RO.pre w0) (i := 11) (oi := ⟨some 19, _, _, _, _, _⟩) (v := ?av11) rfl (by kernel_rfl) (by kernel_rfl) (by kernel_rfl) (fun _ _ _ h => h) (by kernel_rfl) ?ay11 ?ar11
  case ay11 =>
    intro wt hO
    go_simp
    try with_reducible rfl
  try simp only [Act.put, List.setIfInBounds_toArray, List.set_cons_zero, List.set_cons_succ]
  refine wpG_take (RO.pre w0) (i := 12) (oi := ⟨some 20, _, _, _, _, _⟩) (v := ?av12) rfl (by kernel_rfl) (by kernel_rfl) (by kernel_rfl) (fun _ _ _ h => h) (by kernel_rfl) ?ay12 ?ar12
  case ay12 =>
    intro wt hO
    have f0 := HU.out wt (hO HF2.out.old)
    go_simp
    try with_reducible rfl
  try simp only [Act.put, List.setIfInBounds_toArray, List.set_cons_zero, List.set_cons_succ]
  refine wpG_take (RO.pre w0) (i := 13) (oi := ⟨some 21, _, _, _, _, _⟩) (v := ?av13) rfl (by kernel_rfl) (by kernel_rfl) (by kernel_rfl) (fun _ _ _ h => h) (by kernel_rfl) ?ay13 ?ar13
  case ay13 =>
    intro wt hO
    go_simp
    try with_reducible rfl
  try simp only [Act.put, List.setIfInBounds_toArray, List.set_cons_zero, List.set_cons_succ]
  refine wpG_call (RO.pre w0) (i := 15) (o := ⟨some 23, _, _, _, _, _⟩) rfl (by kernel_rfl) (by kernel_rfl) (fun K hK => ?_)
  go_simp
  refine (HN.out 8 8 k2 _ rfl (by decide) (by decide) (by omega) HF2.out).mono ?_
  rintro ye w3 ⟨x3, k3, rfl, hx3, hk3, F3⟩
  have HF3 := Lib.hid F3
  have hix : ∀ w, (Instr.index 58 (.agg #[.string ((⟨#[48]⟩ : ByteArray)), .string ((⟨#[49]⟩ : ByteArray)), .string (v), .string ((⟨#[49, 45]⟩ : ByteArray) ++ v), .string (v ++ (⟨#[43, 49]⟩ : ByteArray)), .string (v ++ (⟨#[45, 49]⟩ : ByteArray)), .string ((⟨#[50, 45]⟩ : ByteArray) ++ v), .string (u)]) (.int .i64 (x3 : Int))).run Tryd.prog w = .ok (.string (([(⟨#[48]⟩ : ByteArray), (⟨#[49]⟩ : ByteArray), v, (⟨#[49, 45]⟩ : ByteArray) ++ v, v ++ (⟨#[43, 49]⟩ : ByteArray), v ++ (⟨#[45, 49]⟩ : ByteArray), (⟨#[50, 45]⟩ : ByteArray) ++ v, u] : List ByteArray).getD x3 ByteArray.empty)) w := fun w => run_index_strs Tryd.underlying58 [(⟨#[48]⟩ : ByteArray), (⟨#[49]⟩ : ByteArray), v, (⟨#[49, 45]⟩ : ByteArray) ++ v, v ++ (⟨#[43, 49]⟩ : ByteArray), v ++ (⟨#[45, 49]⟩ : ByteArray), (⟨#[50, 45]⟩ : ByteArray) ++ v, u] x3 hx3 rfl w
  have hsz : (([(⟨#[48]⟩ : ByteArray), (⟨#[49]⟩ : ByteArray), v, (⟨#[49, 45]⟩ : ByteArray) ++ v, v ++ (⟨#[43, 49]⟩ : ByteArray), v ++ (⟨#[45, 49]⟩ : ByteArray), (⟨#[50, 45]⟩ : ByteArray) ++ v, u] : List ByteArray).getD x3 ByteArray.empty).size ≤ 3 := one_of _ _ (by
    intro s hs
    simp only [List.mem_cons, List.not_mem_nil, or_false] at hs
    rcases hs with rfl | rfl | rfl | rfl | rfl | rfl | rfl | rfl <;> first
      | decide
      | exact Nat.le_trans (app_le hvs (Nat.le_refl _)) (by decide)
      | exact Nat.le_trans (app_le (Nat.le_refl _) hvs) (by decide)
      | omega) x3
  generalize ([(⟨#[48]⟩ : ByteArray), (⟨#[49]⟩ : ByteArray), v, (⟨#[49, 45]⟩ : ByteArray) ++ v, v ++ (⟨#[43, 49]⟩ : ByteArray), v ++ (⟨#[45, 49]⟩ : ByteArray), (⟨#[50, 45]⟩ : ByteArray) ++ v, u] : List ByteArray).getD x3 ByteArray.empty = S at *
  refine hK.out _ _ (fun _ => F3.old) ?_
  clear hK F3
  try simp only [Act.put, List.setIfInBounds_toArray, List.set_cons_zero, List.set_cons_succ]
  refine wpG_take (RO.pre w0) (i := 16) (oi := ⟨some 24, _, _, _, _, _⟩) (v := ?av16) rfl (by kernel_rfl) (by kernel_rfl) (by kernel_rfl) (fun _ _ _ h => h) (by kernel_rfl) ?ay16 ?ar16
  case ay16 =>
    intro wt hO
    go_simp
    try with_reducible rfl
  try simp only [Act.put, List.setIfInBounds_toArray, List.set_cons_zero, List.set_cons_succ]
  refine wpG_take (RO.pre w0) (i := 17) (oi := ⟨some 2, _, _, _, _, _⟩) (v := ?av17) rfl (by kernel_rfl) (by kernel_rfl) (by kernel_rfl) (fun _ _ _ h => h) (by kernel_rfl) ?ay17 ?ar17
  case ay17 =>
    intro wt hO
    go_simp
    try with_reducible rfl
  try simp only [Act.put, List.setIfInBounds_toArray, List.set_cons_zero, List.set_cons_succ]
  refine wpG_done (by kernel_rfl) ?_ _
  go_wp2_with fail
  go_ret
  exact ⟨S, k3, rfl, hsz, by omega, HF3.out⟩
end Go.Proofs.YtdfodmnjgpgojaaDoor
