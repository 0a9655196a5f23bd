/- Texts of bytes; rows of numbers that are appended to; lariathand.Pick. -/
import Derived.Test.YtjajenkagcdhlaaGreatKnown
import Derived.Test.YtjajenkagcdhlaaGreatEntRow
namespace Go.Proofs.YtjajenkagcdhlaaGreat
open Go.RowKit
set_option maxRecDepth 100000

theorem strOf_data (xs : List Nat) : (strOf xs).data.toList = xs.map fun (x : Nat) => UInt8.ofNat x := by
  unfold strOf
  rw [strOfNums_data, List.map_map]
  apply List.map_congr_left
  intro x _
  simp
theorem strOf_size (xs : List Nat) : (strOf xs).size = xs.length := by
  have := congrArg List.length (strOf_data xs)
  simpa using this
theorem strOf_append (xs ys : List Nat) : strOf xs ++ strOf ys = strOf (xs ++ ys) := by
  apply ByteArray.ext
  apply Array.ext'
  rw [strOf_data, ByteArray.data_append, Array.toList_append, strOf_data, strOf_data, List.map_append]
theorem strOf_take (xs : List Nat) (n : Nat) : (strOf xs).extract 0 n = strOf (xs.take n) := by
  apply ByteArray.ext
  apply Array.ext'
  rw [strOf_data, ByteArray.data_extract, Array.toList_extract, strOf_data]
  simp [List.extract, List.map_take]
theorem strOf_drop (xs : List Nat) (n m : Nat) (h : xs.length = m) : (strOf xs).extract n m = strOf (xs.drop n) := by
  apply ByteArray.ext
  apply Array.ext'
  rw [strOf_data, ByteArray.data_extract, Array.toList_extract, strOf_data]
  simp only [List.extract, List.map_drop]
  exact List.take_of_length_le (by simp [h])
def nums (ys : List Int) : List Value := ys.map fun y => Value.int .i64 y
/-- A row of numbers of one's own, not older than B, or nil. -/
def MineI (w : World) (B : Nat) (v : Value) (ys : List Int) : Prop := w.ownsRow B 3 1 v ys.length (nums ys)
theorem MineI.nil (w : World) (B : Nat) : MineI w B (.slice none 0 0) [] := World.ownsRow_nil _ _ _ _
theorem MineI.form {w : World} {B : Nat} {v : Value} {ys : List Int} (h : MineI w B v ys) : ∃ a c, v = .slice a ys.length c ∧ HasI w a ys := by
  obtain ⟨hl, ⟨rfl, h0⟩ | ⟨g, cap, cur, rfl, hb, hg, h1, h2, h3, h4⟩⟩ := h
  · obtain rfl : ys = [] := List.eq_nil_of_length_eq_zero h0
    exact ⟨none, 0, rfl, HasI.nil _ _⟩
  · have hB : Blk w g 3 cur.toList := by unfold Blk; rw [hg]
    refine ⟨some ⟨g, 0, none⟩, cap, rfl, ⟨fun i hi => ⟨g, 0, rfl, ?_⟩⟩⟩
    have : cur.toList[i]? = (nums ys)[i]? := by rw [← h4, List.getElem?_take_of_lt (by omega)]
    rw [Nat.zero_add, hB.cell, this]
    unfold nums
    rw [List.getElem?_map, List.getElem?_eq_getElem hi, List.getD_eq_getElem?_getD, List.getElem?_eq_getElem hi]
    rfl
theorem MineI.old {w w' : World} {B : Nat} {v : Value} {ys : List Int} (h : MineI w B v ys) (m : Old w w') : MineI w' B v ys := owns_touch h m (fun _ _ q => q)
theorem MineI.lt {w : World} {B : Nat} {v : Value} {ys : List Int} (h : MineI w B v ys) : ∀ k, blk v k → B ≤ k ∧ k < w.heap.size := fun k hk => World.ownsRow.lt h k hk
theorem MineI.more {w : World} {B : Nat} {v : Value} {ys : List Int} (h : MineI w B v ys) (hB : B ≤ w.heap.size) (y : Int) (hl : ys.length ≤ 1000000) :
    ∃ v' w', (∀ ty, (Builtin.append_ #[31, 31] ty #[v, .slice (some ⟨w.heap.size, 0, none⟩) 1 1]).run Tryz.prog (w.alloc (.cells #[.int .i64 y] 3)) = .ok v' w') ∧ MineI w' B v' (ys ++ [y]) ∧ Touch (blk v) w w' := by
  have T1 : Old w (w.alloc (.cells #[.int .i64 y] 3)) := (Touch.refl _ w).alloc _
  have K1 : Blk (w.alloc (.cells #[.int .i64 y] 3)) w.heap.size 3 [.int .i64 y] := Blk.new w 3 [.int .i64 y]
  have h1 := h.old T1
  have hB1 : B ≤ (w.alloc (.cells #[.int .i64 y] 3)).heap.size := Nat.le_trans hB T1.size
  generalize w.alloc (.cells #[.int .i64 y] 3) = w1 at *
  obtain ⟨i0, hi0, hz0, hz1, hz2⟩ := info_parts info3
  have hone : ∀ u ∈ [Value.int .i64 y], u.oneCell' = true := by
    intro u hu
    obtain rfl := List.mem_singleton.1 hu
    rfl
  have key : ∀ ty, ∃ v' w', (Builtin.append_ #[31, 31] ty #[v, .slice (some ⟨w.heap.size, 0, none⟩) 1 1]).run Tryz.prog w1 = .ok v' w' ∧ w'.ownsRow B 3 1 v' (ys.length + 1) (nums ys ++ [.int .i64 y]) ∧ w1.grownBy w' v.ownBlock := fun ty => by
    obtain ⟨v', w', hap, own, gr, _, _⟩ := run_append_own_at (P := Tryz.prog) w1 B 31 ty 3 i0 _ 1 8 Tryz.underlying31 hi0 hz0 hz1 hz2 rfl (by omega) v _ _ h1 ⟨w.heap.size, 0, none⟩ 1 1 [.int .i64 y] rfl (World.news_of_block K1) hone (by simp only [maxLen]; omega) (by omega) hB1
    exact ⟨v', w', hap, own, gr⟩
  obtain ⟨v', w', hap, own, gr⟩ := key 31
  refine ⟨v', w', fun ty => hap, ?_, (Touch.of_old T1).trans (Touch.grown gr (fun k hk => hk))⟩
  unfold MineI
  rw [List.length_append, show nums (ys ++ [y]) = nums ys ++ [.int .i64 y] by simp [nums]]
  exact own
theorem mineI_old {w wx w' : World} {v : Value} (o : Old w wx) (hv : ∀ k, blk v k → w.heap.size ≤ k) (T : Touch (blk v) wx w') : Old w w' :=
  ⟨T.os.trans o.os, T.tape.trans o.tape, T.output.trans o.output, Nat.le_trans o.size T.size, fun k hk hn => (T.block k (Nat.lt_of_lt_of_le hk o.size) (fun q => by have := hv k q; omega)).trans (o.block k hk hn)⟩

theorem pick_big (n m : Int) (hm0 : 0 < m) (hm1 : m ≤ 5000) (w : World) : Calls Tryz.prog 11 #[.int .i64 n, .int .i64 m] w fun e w' => ∃ k : Nat, (k : Int) < m ∧ e = .returned (.int .i64 k) ∧ w = w' := by
  have h1 : n.tmod m < m := Int.tmod_lt_of_pos n hm0
  have h2 : -m < n.tmod m := by
    have := Int.tmod_lt_of_pos (-n) hm0
    rw [Int.neg_tmod] at this
    omega
  have hz : ¬ m = 0 := by omega
  by_cases hneg : n.tmod m < 0
  · go_enter Tryz.func11, Tryz.ntmps11
    go_wp2
    go_ret
    exact ⟨(n.tmod m + m).toNat, by omega, by rw [Int.toNat_of_nonneg (by omega)]; rfl, rfl⟩
  · go_enter Tryz.func11, Tryz.ntmps11
    go_wp2
    go_ret
    exact ⟨(n.tmod m).toNat, by omega, by rw [Int.toNat_of_nonneg (by omega)]; rfl, rfl⟩


theorem leavesOf_mono {n m : Nat} (h : n ≤ m) : leavesOf n ≤ leavesOf m := by
  unfold leavesOf
  split
  · exact Nat.zero_le _
  · rw [if_neg (by omega)]; omega


end Go.Proofs.YtjajenkagcdhlaaGreat
