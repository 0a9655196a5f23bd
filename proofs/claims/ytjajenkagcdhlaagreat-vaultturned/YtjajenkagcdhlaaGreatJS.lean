/- How many turns a Write, an Open, a Settle, a Balance take. -/
import Derived.Test.YtjajenkagcdhlaaGreatNewL
import Derived.Test.YtjajenkagcdhlaaGreatKnown
import Derived.Test.YtjajenkagcdhlaaGreatLiveW
namespace Go.Proofs.YtjajenkagcdhlaaGreat
open Go.RowKit
set_option maxRecDepth 100000

theorem layP_turns (L : LS) (e : List Ent) : (L.layP e).D.turns ≤ L.D.turns + leavesOf e.length := by
  have h1 := DS.run_turns L.D (leafT (2 + L.laid) (posting L.round (L.posts + 1) e))
  rw [leafT_length, posting_length] at h1
  unfold LS.layP
  simp only
  split
  · exact h1
  · exact h1
theorem post_turns (L : LS) (e : List Ent) : (L.post e).D.turns ≤ L.D.turns + L.ws.length + 4 + leavesOf e.length := by
  have h1 := balanced_turns L
  have h2 := layP_turns L.balanced e
  have h3 := layP_turns L e
  unfold LS.post
  split
  · split
    · omega
    · omega
  · omega
theorem heed_turns (L : LS) : L.heed.D = L.D := by unfold LS.heed; split <;> rfl
theorem write_turns (L : LS) (e : List Ent) : (L.write e).D.turns ≤ L.D.turns + L.ws.length + 4 + leavesOf e.length := by
  have h1 := post_turns L e
  unfold LS.write
  split
  · split
    · omega
    · split
      · omega
      · rw [heed_turns]; exact h1
  · omega
theorem openL_turns {D : DS} {k : Nat} : (openL D k).D.turns ≤ D.turns + D.T.length + 3 := by
  have h2 := next_turns (LS.counted D k).reads
  have h3 : (LS.counted D k).reads.ws.length ≤ D.T.length := by
    show (readAll _ _ _ _ _ _).length ≤ _
    rw [readAll_length]
    show (List.replicate _ none).length ≤ _
    rw [List.length_replicate]
    omega
  have h4 : (LS.counted D k).reads.D = D := rfl
  rw [h4] at h2
  show (LS.counted D k).reads.next.D.turns ≤ _
  omega
theorem settle_turns (L : LS) : L.settle.D.turns ≤ L.D.turns + 1 := by
  have := DS.step_turns L.D .settle
  unfold LS.settle
  split
  · omega
  · rw [heed_turns]; exact this
theorem balance_turns (L : LS) : L.balance.D.turns ≤ L.D.turns + L.ws.length + 4 := by
  have := balanced_turns L
  unfold LS.balance
  split
  · omega
  · rw [heed_turns]; exact this
end Go.Proofs.YtjajenkagcdhlaaGreat
/- Rows of entries that are appended to. -/
namespace Go.Proofs.YtjajenkagcdhlaaGreat
open Go.RowKit
set_option maxRecDepth 100000

/-- A row of entries of one's own, not older than B, or nil. -/
def MineE (w : World) (B : Nat) (v : Value) (e : List Ent) : Prop := ∃ xs : List Value, w.ownsRow B 115 2 v e.length xs ∧ ∀ (i : Nat) (x : Ent), e[i]? = some x → ∃ p c, xs[i * 2]? = some (.int .i64 (x.1 : Int)) ∧ xs[i * 2 + 1]? = some (.slice p x.2.length c) ∧ x.2.length ≤ c ∧ Byt w p x.2
theorem MineE.nil (w : World) (B : Nat) : MineE w B (.slice none 0 0) [] := ⟨[], World.ownsRow_nil _ _ _ _, fun i x hx => by simp at hx⟩
theorem MineE.form {w : World} {B : Nat} {v : Value} {e : List Ent} (h : MineE w B v e) : ∃ a c, v = .slice a e.length c ∧ e.length ≤ c ∧ Ents w a e := by
  obtain ⟨xs, ⟨hl, ⟨rfl, h0⟩ | ⟨g, cap, cur, rfl, hb, hg, h1, h2, h3, h4⟩⟩, he⟩ := h
  · have : e = [] := List.eq_nil_of_length_eq_zero h0
    subst this
    exact ⟨none, 0, rfl, Nat.le_refl _, ⟨fun i x hx => by simp at hx, fun g o q => by cases q⟩⟩
  · have hB : Blk w g 115 cur.toList := by unfold Blk; rw [hg]
    refine ⟨some ⟨g, 0, none⟩, cap, rfl, h1, ⟨fun i x hx => ?_, fun g' o q => by cases q; exact ⟨_, hB⟩⟩⟩
    obtain ⟨p, c, q1, q2, q3, q4⟩ := he i x hx
    have hi := lt_of_get hx
    refine ⟨g, 0, p, c, rfl, ?_, ?_, q3, q4⟩
    · rw [Nat.zero_add, hB.cell, ← q1, ← h4, List.getElem?_take_of_lt (by omega)]
    · rw [Nat.zero_add, hB.cell, ← q2, ← h4, List.getElem?_take_of_lt (by omega)]
theorem MineE.touch {S : Nat → Prop} {w w' : World} {B : Nat} {v : Value} {e : List Ent} (h : MineE w B v e) (m : Touch S w w') (hn : ∀ k, blk v k → ¬ S k) (h5 : ∀ g cs, Blk w g 5 cs → ¬ S g) : MineE w' B v e := by
  obtain ⟨xs, ho, he⟩ := h
  refine ⟨xs, owns_touch ho m hn, fun i x hx => ?_⟩
  obtain ⟨p, c, q1, q2, q3, q4⟩ := he i x hx
  exact ⟨p, c, q1, q2, q3, q4.keep fun g cs hb => hb.touch m (h5 g cs hb)⟩
theorem MineE.old {w w' : World} {B : Nat} {v : Value} {e : List Ent} (h : MineE w B v e) (m : Old w w') : MineE w' B v e := h.touch m (fun _ _ q => q) (fun _ _ _ q => q)
theorem MineE.lt {w : World} {B : Nat} {v : Value} {e : List Ent} (h : MineE w B v e) : ∀ k, blk v k → B ≤ k ∧ k < w.heap.size := by
  obtain ⟨xs, ho, _⟩ := h
  exact fun k hk => ho.lt k hk
theorem MineE.not_blk {w : World} {B g : Nat} {v : Value} {e : List Ent} {t : TypeId} {cs : List Value} (h : MineE w B v e) (hg : Blk w g t cs) (ht : t ≠ 115) : ¬ blk v g := by
  obtain ⟨xs, ho, _⟩ := h
  exact own_blk ho hg (fun q => ht q.symm)
/-- One more entry. -/
theorem MineE.more {w : World} {B : Nat} {v : Value} {e : List Ent} (h : MineE w B v e) (hB : B ≤ w.heap.size) (k : Nat) (p : Option Addr) (bs : List Nat) (n c : Nat) (hn : bs.length = n) (hc : n ≤ c) (hb : Byt w p bs) (hl : e.length ≤ 1000000) :
    ∃ v' w', (∀ ty, (Builtin.append_ #[78, 78] ty #[v, .slice (some ⟨w.heap.size, 0, none⟩) 1 1]).run Tryz.prog (w.alloc (.cells #[.int .i64 (k : Int), .slice p n c] 115)) = .ok v' w') ∧ MineE w' B v' (e ++ [(k, bs)]) ∧ Touch (blk v) w w' := by
  have T1 : Old w (w.alloc (.cells #[.int .i64 (k : Int), .slice p n c] 115)) := (Touch.refl _ w).alloc _
  have K1 : Blk (w.alloc (.cells #[.int .i64 (k : Int), .slice p n c] 115)) w.heap.size 115 [.int .i64 (k : Int), .slice p n c] := Blk.new w 115 [.int .i64 (k : Int), .slice p n c]
  have h1 := h.old T1
  have hb1 := hb.old T1
  have hB1 : B ≤ (w.alloc (.cells #[.int .i64 (k : Int), .slice p n c] 115)).heap.size := Nat.le_trans hB T1.size
  generalize w.alloc (.cells #[.int .i64 (k : Int), .slice p n c] 115) = w1 at *
  obtain ⟨xs, ho, he⟩ := h1
  obtain ⟨i0, hi0, hz0, hz1, hz2⟩ := info_parts info115
  have hone : ∀ u ∈ [Value.int .i64 (k : Int), .slice p n c], u.oneCell' = true := by
    intro u hu
    simp at hu
    rcases hu with rfl | rfl <;> rfl
  have key : ∀ ty, ∃ v' w', (Builtin.append_ #[78, 78] ty #[v, .slice (some ⟨w.heap.size, 0, none⟩) 1 1]).run Tryz.prog w1 = .ok v' w' ∧ w'.ownsRow B 115 2 v' (e.length + 1) (xs ++ [.int .i64 (k : Int), .slice p n c]) ∧ w1.grownBy w' v.ownBlock := fun ty => by
    obtain ⟨v', w', hap, own, gr, _, _⟩ := run_append_own_at (P := Tryz.prog) w1 B 78 ty 115 i0 _ 2 32 Tryz.underlying78 hi0 hz0 hz1 hz2 rfl (by omega) v _ _ ho ⟨w.heap.size, 0, none⟩ 1 1 [.int .i64 (k : Int), .slice p n c] rfl (World.news_of_block K1) hone (by simp only [maxLen]; omega) (by omega) hB1
    exact ⟨v', w', hap, own, gr⟩
  obtain ⟨v', w', hap, own, gr⟩ := key 78
  have T2 : Touch (blk v) w1 w' := Touch.grown gr (fun k hk => hk)
  refine ⟨v', w', fun ty => hap, ⟨xs ++ [.int .i64 (k : Int), .slice p n c], by rw [List.length_append]; exact own, fun i x hx => ?_⟩, (Touch.of_old T1).trans T2⟩
  have hxl : xs.length = e.length * 2 := ho.1
  have h5 : ∀ g cs, Blk w1 g 5 cs → Blk w' g 5 cs := fun g cs hg => hg.touch T2 (own_blk ho hg (by decide))
  rcases Nat.lt_or_ge i e.length with q | q
  · rw [List.getElem?_append_left q] at hx
    obtain ⟨p', c', q1, q2, q3, q4⟩ := he i x hx
    exact ⟨p', c', by rw [List.getElem?_append_left (by omega)]; exact q1, by rw [List.getElem?_append_left (by omega)]; exact q2, q3, q4.keep h5⟩
  · rw [List.getElem?_append_right q] at hx
    have hi0 : i - e.length = 0 := by
      have := lt_of_get hx
      simp at this
      omega
    rw [hi0] at hx
    injection hx with hx
    subst hx
    have hie : i = e.length := by omega
    subst hie
    exact ⟨p, c, by rw [List.getElem?_append_right (by omega), hxl, Nat.sub_self]; rfl, by rw [List.getElem?_append_right (by omega), hxl, show e.length * 2 + 1 - e.length * 2 = 1 by omega, hn]; rfl, by rw [hn]; exact hc, hb1.keep h5⟩

/-- A drum that no ledger is on. -/
theorem open_corrupt {w0 : Fr} {w : World} {d : Nat} {b : Bl} {D : DS} (h : St w0 d b D w) (hd : D.down = false) (hk : coverK D = none) : Calls Tryz.prog 47 #[.pointer (some ⟨d, 0, none⟩)] w fun x w' => x = .returned (.tuple #[.pointer none, .int .i64 11]) ∧ Old w w' := by
  have HC := Lib.hid (counted_any h hd)
  have HK := Lib.hid hk
  clear h hd hk
  go_enter Tryz.func47, Tryz.ntmps47
  go_wp2_with fail
  refine HC.out.mono ?_
  rintro x w1 ⟨O1, ⟨_, rfl⟩ | ⟨k, l, g, b1, hk, _⟩⟩
  · have HO := Lib.hid O1
    clear O1 HC
    go_wp2_with fail
    go_ret2
    exact ⟨rfl, HO.out⟩
  · rw [HK.out] at hk; cases hk
end Go.Proofs.YtjajenkagcdhlaaGreat
/- Texts of bytes; rows of numbers that are appended to; lariathand.Pick. -/
namespace Go.Proofs.YtjajenkagcdhlaaGreat
open Go.RowKit
set_option maxRecDepth 100000

theorem strOf_data (xs : List Nat) : (strOf xs).data.toList = xs.map fun (x : Nat) => UInt8.ofNat x := by
  unfold strOf
  rw [strOfNums_data, List.map_map]
  apply List.map_congr_left
  intro x _
  simp
theorem strOf_size (xs : List Nat) : (strOf xs).size = xs.length := by
  have := congrArg List.length (strOf_data xs)
  simpa using this
theorem strOf_append (xs ys : List Nat) : strOf xs ++ strOf ys = strOf (xs ++ ys) := by
  apply ByteArray.ext
  apply Array.ext'
  rw [strOf_data, ByteArray.data_append, Array.toList_append, strOf_data, strOf_data, List.map_append]
theorem strOf_take (xs : List Nat) (n : Nat) : (strOf xs).extract 0 n = strOf (xs.take n) := by
  apply ByteArray.ext
  apply Array.ext'
  rw [strOf_data, ByteArray.data_extract, Array.toList_extract, strOf_data]
  simp [List.extract, List.map_take]
theorem strOf_drop (xs : List Nat) (n m : Nat) (h : xs.length = m) : (strOf xs).extract n m = strOf (xs.drop n) := by
  apply ByteArray.ext
  apply Array.ext'
  rw [strOf_data, ByteArray.data_extract, Array.toList_extract, strOf_data]
  simp only [List.extract, List.map_drop]
  exact List.take_of_length_le (by simp [h])
def nums (ys : List Int) : List Value := ys.map fun y => Value.int .i64 y
/-- A row of numbers of one's own, not older than B, or nil. -/
def MineI (w : World) (B : Nat) (v : Value) (ys : List Int) : Prop := w.ownsRow B 3 1 v ys.length (nums ys)
theorem MineI.nil (w : World) (B : Nat) : MineI w B (.slice none 0 0) [] := World.ownsRow_nil _ _ _ _
theorem MineI.form {w : World} {B : Nat} {v : Value} {ys : List Int} (h : MineI w B v ys) : ∃ a c, v = .slice a ys.length c ∧ HasI w a ys := by
  obtain ⟨hl, ⟨rfl, h0⟩ | ⟨g, cap, cur, rfl, hb, hg, h1, h2, h3, h4⟩⟩ := h
  · obtain rfl : ys = [] := List.eq_nil_of_length_eq_zero h0
    exact ⟨none, 0, rfl, HasI.nil _ _⟩
  · have hB : Blk w g 3 cur.toList := by unfold Blk; rw [hg]
    refine ⟨some ⟨g, 0, none⟩, cap, rfl, ⟨fun i hi => ⟨g, 0, rfl, ?_⟩⟩⟩
    have : cur.toList[i]? = (nums ys)[i]? := by rw [← h4, List.getElem?_take_of_lt (by omega)]
    rw [Nat.zero_add, hB.cell, this]
    unfold nums
    rw [List.getElem?_map, List.getElem?_eq_getElem hi, List.getD_eq_getElem?_getD, List.getElem?_eq_getElem hi]
    rfl
theorem MineI.old {w w' : World} {B : Nat} {v : Value} {ys : List Int} (h : MineI w B v ys) (m : Old w w') : MineI w' B v ys := owns_touch h m (fun _ _ q => q)
theorem MineI.lt {w : World} {B : Nat} {v : Value} {ys : List Int} (h : MineI w B v ys) : ∀ k, blk v k → B ≤ k ∧ k < w.heap.size := fun k hk => World.ownsRow.lt h k hk
theorem MineI.more {w : World} {B : Nat} {v : Value} {ys : List Int} (h : MineI w B v ys) (hB : B ≤ w.heap.size) (y : Int) (hl : ys.length ≤ 1000000) :
    ∃ v' w', (∀ ty, (Builtin.append_ #[31, 31] ty #[v, .slice (some ⟨w.heap.size, 0, none⟩) 1 1]).run Tryz.prog (w.alloc (.cells #[.int .i64 y] 3)) = .ok v' w') ∧ MineI w' B v' (ys ++ [y]) ∧ Touch (blk v) w w' := by
  have T1 : Old w (w.alloc (.cells #[.int .i64 y] 3)) := (Touch.refl _ w).alloc _
  have K1 : Blk (w.alloc (.cells #[.int .i64 y] 3)) w.heap.size 3 [.int .i64 y] := Blk.new w 3 [.int .i64 y]
  have h1 := h.old T1
  have hB1 : B ≤ (w.alloc (.cells #[.int .i64 y] 3)).heap.size := Nat.le_trans hB T1.size
  generalize w.alloc (.cells #[.int .i64 y] 3) = w1 at *
  obtain ⟨i0, hi0, hz0, hz1, hz2⟩ := info_parts info3
  have hone : ∀ u ∈ [Value.int .i64 y], u.oneCell' = true := by
    intro u hu
    obtain rfl := List.mem_singleton.1 hu
    rfl
  have key : ∀ ty, ∃ v' w', (Builtin.append_ #[31, 31] ty #[v, .slice (some ⟨w.heap.size, 0, none⟩) 1 1]).run Tryz.prog w1 = .ok v' w' ∧ w'.ownsRow B 3 1 v' (ys.length + 1) (nums ys ++ [.int .i64 y]) ∧ w1.grownBy w' v.ownBlock := fun ty => by
    obtain ⟨v', w', hap, own, gr, _, _⟩ := run_append_own_at (P := Tryz.prog) w1 B 31 ty 3 i0 _ 1 8 Tryz.underlying31 hi0 hz0 hz1 hz2 rfl (by omega) v _ _ h1 ⟨w.heap.size, 0, none⟩ 1 1 [.int .i64 y] rfl (World.news_of_block K1) hone (by simp only [maxLen]; omega) (by omega) hB1
    exact ⟨v', w', hap, own, gr⟩
  obtain ⟨v', w', hap, own, gr⟩ := key 31
  refine ⟨v', w', fun ty => hap, ?_, (Touch.of_old T1).trans (Touch.grown gr (fun k hk => hk))⟩
  unfold MineI
  rw [List.length_append, show nums (ys ++ [y]) = nums ys ++ [.int .i64 y] by simp [nums]]
  exact own
theorem mineI_old {w wx w' : World} {v : Value} (o : Old w wx) (hv : ∀ k, blk v k → w.heap.size ≤ k) (T : Touch (blk v) wx w') : Old w w' :=
  ⟨T.os.trans o.os, T.tape.trans o.tape, T.output.trans o.output, Nat.le_trans o.size T.size, fun k hk hn => (T.block k (Nat.lt_of_lt_of_le hk o.size) (fun q => by have := hv k q; omega)).trans (o.block k hk hn)⟩

theorem pick_big (n m : Int) (hm0 : 0 < m) (hm1 : m ≤ 5000) (w : World) : Calls Tryz.prog 11 #[.int .i64 n, .int .i64 m] w fun e w' => ∃ k : Nat, (k : Int) < m ∧ e = .returned (.int .i64 k) ∧ w = w' := by
  have h1 : n.tmod m < m := Int.tmod_lt_of_pos n hm0
  have h2 : -m < n.tmod m := by
    have := Int.tmod_lt_of_pos (-n) hm0
    rw [Int.neg_tmod] at this
    omega
  have hz : ¬ m = 0 := by omega
  by_cases hneg : n.tmod m < 0
  · go_enter Tryz.func11, Tryz.ntmps11
    go_wp2
    go_ret
    exact ⟨(n.tmod m + m).toNat, by omega, by rw [Int.toNat_of_nonneg (by omega)]; rfl, rfl⟩
  · go_enter Tryz.func11, Tryz.ntmps11
    go_wp2
    go_ret
    exact ⟨(n.tmod m).toNat, by omega, by rw [Int.toNat_of_nonneg (by omega)]; rfl, rfl⟩


theorem leavesOf_mono {n m : Nat} (h : n ≤ m) : leavesOf n ≤ leavesOf m := by
  unfold leavesOf
  split
  · exact Nat.zero_le _
  · rw [if_neg (by omega)]; omega


end Go.Proofs.YtjajenkagcdhlaaGreat
/- Whatever is lost or torn: what can be opened then. -/
namespace Go.Proofs.YtjajenkagcdhlaaGreat
open Go.RowKit
set_option maxRecDepth 100000

theorem at0_mix {c i : Nat} {b t : List Nat} (hb : b.length = 96) (hc : c ≤ 96) : at0 (mix c b t) i = if i < c then at0 b i else at0 t i := by
  unfold mix
  by_cases h : i < c
  · rw [if_pos h, at0_left (by rw [List.length_take, hb]; omega), at0_take h]
  · rw [if_neg h, at0_append (by rw [List.length_take, hb]; omega), at0_drop, List.length_take, hb]
    congr 1
    omega
theorem mix_take84 {c : Nat} {b t : List Nat} (hb : b.length = 96) (hc : 84 ≤ c) : (mix c b t).take 84 = b.take 84 := by
  unfold mix
  rw [List.take_append_of_le_length (by rw [List.length_take, hb]; omega), List.take_take, Nat.min_eq_left hc]
theorem mix_same84 {c : Nat} {b t : List Nat} (hb : b.length = 96) (_ht : t.length = 96) (h : t.take 84 = b.take 84) (hc : c ≤ 96) : (mix c b t).take 84 = b.take 84 := by
  rcases Nat.lt_or_ge c 84 with q | q
  · have e2 : b.take 84 = b.take c ++ (b.drop c).take (84 - c) := by rw [← List.take_add, show c + (84 - c) = 84 by omega]
    unfold mix
    rw [List.take_append, List.take_of_length_le (by rw [List.length_take, hb]; omega), List.length_take, hb, Nat.min_eq_left hc, e2]
    congr 1
    rw [← List.drop_take, ← List.drop_take, h]
  · exact mix_take84 hb q

/-- Lays, as turns. -/
def layTs (A : List (Nat × List Nat)) : List Trn := A.map fun x => .lay x.1 x.2
theorem homeT_lays (l : Nat) : ∀ (k : Nat) (ws : Wri), homeT l k ws = layTs (homeA l k ws)
  | k, [] => rfl
  | k, none :: ws => homeT_lays l (k + 1) ws
  | k, some b :: ws => by show _ :: homeT l (k + 1) ws = _; rw [homeT_lays l (k + 1) ws]; rfl
theorem leafT_lays : ∀ (k : Nat) (bs : List (List Nat)), leafT k bs = layTs (leafA k bs)
  | k, [] => rfl
  | k, b :: bs => by show _ :: leafT (k + 1) bs = _; rw [leafT_lays (k + 1) bs]; rfl
theorem ideals_lays : ∀ (A : List (Nat × List Nat)) (s : TA), ideals s (layTs A) = (s.1, s.2 ++ A)
  | [], s => by simp [layTs, ideals]
  | x :: A, s => by
    show ideals (ideal s (.lay x.1 x.2)) (layTs A) = _
    rw [ideals_lays A]
    show (s.1, s.2 ++ [x] ++ A) = _
    rw [List.append_assoc]
    rfl
theorem layTs_take (A : List (Nat × List Nat)) (j : Nat) : (layTs A).take j = layTs (A.take j) := by unfold layTs; rw [List.map_take]
theorem layTs_length (A : List (Nat × List Nat)) : (layTs A).length = A.length := by simp [layTs]

/-- Home tracks that are written may be whatever they are. -/
theorem RecE.homes {T T' : List (List Nat)} {l r : Nat} {H : List (List Nat)} {es : List (List Ent)} (R : RecE T l r H es) (hlen : T'.length = T.length) (ht : ∀ b ∈ T', Trk b) (h1 : ∀ i, i < 2 + l → T'[i]? = T[i]?) (h2 : ∀ k, k < H.length → (wrote H es).getD k none = none → T'[2 + l + k]? = T[2 + l + k]?) : RecE T' l r H es := by
  have hlt : leavesT T' l = leavesT T l := by
    apply List.ext_getElem?
    intro i
    rw [leavesT_get, leavesT_get]
    by_cases h : i < l
    · rw [if_pos h, if_pos h, h1 (2 + i) (by omega)]
    · rw [if_neg h, if_neg h]
  obtain ⟨o, ho, hO⟩ := R.oth
  obtain ⟨rest, hr1, hr2⟩ := R.pages
  refine ⟨ht, by rw [hlen]; exact R.len, by rw [hlen]; exact R.many, R.lv, R.hm, R.r1, R.r2, by rw [h1 _ (by omega)]; exact R.cov, ⟨o, by rw [h1 _ (by omega)]; exact ho, hO⟩, fun i hi => ?_, R.goes, R.etrk, ⟨rest, by rw [hlt]; exact hr1, hr2⟩, fun k hk => ?_⟩
  · obtain ⟨b, q1, q2⟩ := R.low i hi
    exact ⟨b, by rw [h1 _ (by omega)]; exact q1, q2⟩
  · rw [R.home k hk]
    congr 1
    unfold homeOf
    cases hw : (wrote H es).getD k none with
    | some b => rfl
    | none =>
      simp only
      rw [List.getD_eq_getElem?_getD, List.getD_eq_getElem?_getD, h2 k hk hw]

/-- Another old cover. -/
theorem RecE.cover {T : List (List Nat)} {l r : Nat} {H : List (List Nat)} {es : List (List Ent)} (R : RecE T l r H es) {m : List Nat} (hm : Trk m) (hO : OldC r l m) : RecE (T.set ((r + 1) % 2) m) l r H es := by
  have hg : ∀ i, i ≠ (r + 1) % 2 → (T.set ((r + 1) % 2) m)[i]? = T[i]? := fun i hi => List.getElem?_set_ne (fun q => hi q.symm)
  have hlen := R.len
  have hlv := R.lv
  have hlt : leavesT (T.set ((r + 1) % 2) m) l = leavesT T l := by
    apply List.ext_getElem?
    intro i
    rw [leavesT_get, leavesT_get]
    by_cases h : i < l
    · rw [if_pos h, if_pos h, hg (2 + i) (by omega)]
    · rw [if_neg h, if_neg h]
  obtain ⟨rest, hr1, hr2⟩ := R.pages
  refine ⟨fun b hb => ?_, by rw [List.length_set]; exact hlen, by rw [List.length_set]; exact R.many, hlv, R.hm, R.r1, R.r2, by rw [hg _ (by omega)]; exact R.cov, ⟨m, List.getElem?_set_self (by omega), hO⟩, fun i hi => ?_, R.goes, R.etrk, ⟨rest, by rw [hlt]; exact hr1, hr2⟩, fun k hk => ?_⟩
  · rcases List.mem_or_eq_of_mem_set hb with q | rfl
    · exact R.trk b q
    · exact hm
  · obtain ⟨b, q1, q2⟩ := R.low i hi
    exact ⟨b, by rw [hg _ (by omega)]; exact q1, q2⟩
  · rw [R.home k hk]
    congr 1
    exact (homeOf_same (hg _ (by omega))).symm

/-- A torn cover counts as a new one, or does not count. -/
theorem oldC_mix {r l c : Nat} {o : List Nat} (hr : r + 1 < 256) (hc : c ≤ 96) (ht : o.length = 96) (h : OldC r l o) (hne : mix c (cover (r + 1) l) o ≠ cover (r + 1) l) : OldC r l (mix c (cover (r + 1) l) o) := by
  have hb := cover_length (r + 1) l
  rcases Nat.lt_or_ge c 84 with q | q
  · rcases h with ⟨s, ⟨h0, h1, h2, h3⟩, hs⟩ | ⟨h84, _⟩
    · left
      obtain ⟨g0, g1, g2, _⟩ := cover_ends (r := r + 1) (l := l) hr
      refine ⟨s, ⟨?_, ?_, ?_, ?_⟩, hs⟩
      · rw [at0_mix hb hc]; split; exact g0; exact h0
      · rw [at0_mix hb hc]; split; exact g1; exact h1
      · rw [at0_mix hb hc]; split; exact g2; exact h2
      · rw [at0_mix hb hc, if_neg (by omega)]; exact h3
    · exact .inr ⟨mix_same84 hb ht h84 hc, hne⟩
  · exact .inr ⟨mix_take84 hb q, hne⟩

/-- Whatever of what is afloat is lost or torn: a ledger can be opened, and what is home then is one of S. -/
def CrashTA (s : TA) (l r0 : Nat) (S : List (List Nat) → Prop) : Prop := ∀ part : Nat → Nat, (∀ i, part i ≤ 96) → ∃ r H es, RecE (falls part s.1 s.2 s.2.length) l r H es ∧ S H ∧ r ≤ r0

/-- A round's end, however far it came. -/
theorem crash_next {T : List (List Nat)} {l r : Nat} {H : List (List Nat)} {es : List (List Ent)} (R : RecE T l r H es) (hr : r + 1 < 255) (j : Nat) : CrashTA (ideals (T, []) ((homeT l 0 (wrote H es) ++ beginT (r + 1) l).take j)) l (r + 1) (fun H' => H' = H) := by
  intro part hp
  have hwl := wrote_length H es
  have hlen := R.len
  have hAt : ∀ x ∈ homeA l 0 (wrote H es), x.1 < T.length ∧ Trk x.2 := fun x hx => by
    obtain ⟨i, h1, h2⟩ := (homeA_mem l 0 (wrote H es) x).1 hx
    have := lt_of_get h1
    exact ⟨by omega, tookAll_trk (none_trk H.length) R.etrk i x.2 h1⟩
  have hAn : ∀ k, k < H.length → (wrote H es).getD k none = none → ∀ x ∈ homeA l 0 (wrote H es), x.1 ≠ 2 + l + k := fun k hk hw x hx e => by
    obtain ⟨i, h1, h2⟩ := (homeA_mem l 0 (wrote H es) x).1 hx
    have ei : i = k := by omega
    subst ei
    rw [List.getD_eq_getElem?_getD, h1] at hw
    cases hw
  have hAl : ∀ i, i < 2 + l → ∀ x ∈ homeA l 0 (wrote H es), x.1 ≠ i := fun i hi x hx e => by
    obtain ⟨q, h1, h2⟩ := (homeA_mem l 0 (wrote H es) x).1 hx
    omega
  have hT1 : RecE (over T (homeA l 0 (wrote H es))) l r H es := R.homes (over_length _ _) (over_trk R.trk _ (fun x hx => (hAt x hx).2)) (fun i hi => over_other _ _ _ (hAl i hi)) (fun k hk hw => over_other _ _ _ (hAn k hk hw))
  rw [homeT_lays]
  obtain ⟨A, hA⟩ : ∃ A, homeA l 0 (wrote H es) = A := ⟨_, rfl⟩
  have hnx : ideals (T, []) (layTs A ++ beginT (r + 1) l) = (renewed T l r (wrote H es), []) := by rw [← hA, ← homeT_lays, ideals_next]; rfl
  rw [hA] at hAt hAn hAl hT1 ⊢
  rcases Nat.lt_or_ge A.length j with q | q
  · rw [List.take_append, List.take_of_length_le (by rw [layTs_length]; omega), ideals_append, ideals_lays, layTs_length, List.nil_append]
    obtain ⟨i, hi⟩ : ∃ i, j - A.length = i + 1 := ⟨j - A.length - 1, by omega⟩
    rw [hi]
    match i with
    | 0 => exact ⟨r, H, es, hT1, rfl, by omega⟩
    | 1 =>
      obtain ⟨o, ho, hO⟩ := hT1.oth
      have hol := (hT1.trk o (mem_of_get ho)).len
      show ∃ r' H' es', RecE ((over T A).set ((r + 1) % 2) (mix (part 0) (cover (r + 1) l) ((over T A).getD ((r + 1) % 2) []))) l r' H' es' ∧ H' = H ∧ r' ≤ r + 1
      rw [getD_of ho]
      by_cases hm : mix (part 0) (cover (r + 1) l) o = cover (r + 1) l
      · rw [hm]
        have := (Live.renew R hr).is
        unfold renewed at this
        rw [hA] at this
        exact ⟨r + 1, H, [], this, rfl, Nat.le_refl _⟩
      · exact ⟨r, H, es, hT1.cover (mix_trk (cover_trk _ _) (hT1.trk o (mem_of_get ho)) (hp 0)) (oldC_mix (by omega) (hp 0) hol hO hm), rfl, by omega⟩
    | i + 2 =>
      have e : (beginT (r + 1) l).take (i + 2 + 1) = beginT (r + 1) l := List.take_of_length_le (by show 3 ≤ _; omega)
      rw [e, show ideals (T, A) (beginT (r + 1) l) = (renewed T l r (wrote H es), []) by rw [← hnx, ideals_append, ideals_lays]; rfl]
      exact ⟨r + 1, H, [], (Live.renew R hr).is, rfl, Nat.le_refl _⟩
  · rw [List.take_append_of_le_length (by rw [layTs_length]; exact q), layTs_take, ideals_lays, List.nil_append]
    have hAt' : ∀ x ∈ A.take j, x.1 < T.length ∧ Trk x.2 := fun x hx => hAt x (List.mem_of_mem_take hx)
    refine ⟨r, H, es, R.homes (falls_length _ _ _ _) (falls_trk hp R.trk hAt' _ (Nat.le_refl _)) (fun i hi => ?_) (fun k hk hw => ?_), rfl, by omega⟩
    · exact falls_other i (fun x hx => hAl i hi x (List.mem_of_mem_take hx)) _ (Nat.le_refl _)
    · exact falls_other _ (fun x hx => hAn k hk hw x (List.mem_of_mem_take hx)) _ (Nat.le_refl _)
end Go.Proofs.YtjajenkagcdhlaaGreat
/- Leaves of which some are lost or torn: just the first whole postings are read. -/
namespace Go.Proofs.YtjajenkagcdhlaaGreat
open Go.RowKit
set_option maxRecDepth 100000

/-- A page of some posting: 84 bytes and their sums. -/
theorem posts_page {r : Nat} {home : Nat} : ∀ {gs : List (List Ent)} {n i : Nat} {z : List Nat}, (∀ g ∈ gs, Goes g home) → (posts r n gs)[i]? = some z → ∃ X, X.length = 84 ∧ z = track X := fun {gs} => by
  induction gs with
  | nil => intro n i z _ h; simp [posts] at h
  | cons g gs ih =>
    intro n i z hg h
    have hge := hg g (by simp)
    rcases Nat.lt_or_ge i (posting r n g).length with q | q
    · rw [show posts r n (g :: gs) = posting r n g ++ posts r (n + 1) gs from rfl, List.getElem?_append_left q] at h
      obtain ⟨hk, rfl⟩ := posting_get h
      exact ⟨_, leafText_length _ _ _ _ _ (leafOf (fun x hx => (hge.1 x hx).2) hge.2.2 hk), rfl⟩
    · rw [show posts r n (g :: gs) = posting r n g ++ posts r (n + 1) gs from rfl, List.getElem?_append_right q] at h
      exact ih (fun f hf => hg f (by simp [hf])) h

/-- Each of these is old, or is the page that was laid there, or has its first 84 bytes and others behind. -/
def TornOf (r n : Nat) (gs : List (List Ent)) (Y : List (List Nat)) : Prop := ∀ (i : Nat) (y : List Nat), Y[i]? = some y → at0 y 83 < r ∨ ∃ z, (posts r n gs)[i]? = some z ∧ (y = z ∨ (y.take 84 = z.take 84 ∧ y ≠ z))

theorem readP_page {Y : List (List Nat)} {r n home : Nat} {e : List Ent} (h : readP Y r n home = some e) : Y.take (leavesOf e.length) = posting r n e := by
  cases Y with
  | nil => cases h
  | cons p q =>
    rw [readP_eq (p := p) rfl] at h
    split at h
    · cases h
    · split at h
      · split at h
        · rename_i hp
          injection h with h
          have hlen : (entsOf (p :: q) (countOf p)).length = countOf p := by simp [entsOf]
          rw [h] at hp hlen
          rw [hlen]
          exact hp.symm
        · cases h
      · cases h

/-- What is read of leaves that may be torn. -/
theorem scan {r home : Nat} (hr : r < 256) (hh : home ≤ 5000) : ∀ (gs : List (List Ent)) (n : Nat) (Y : List (List Nat)), (∀ g ∈ gs, Goes g home) → TornOf r n gs Y → (posts r n gs).length ≤ Y.length → Y.length ≤ 4096 → ∃ j, j ≤ gs.length ∧ ∃ rest, Y = posts r n (gs.take j) ++ rest ∧ readP rest r (n + j) home = none
  | [], n, Y, _, hT, _, _ => ⟨0, Nat.le_refl _, Y, rfl, readP_low hr (fun b hb => by
      rcases hT 0 b hb with q | ⟨z, hz, _⟩
      · omega
      · simp [posts] at hz)⟩
  | g :: gs, n, Y, hg, hT, hl, h4 => by
    have hge := hg g (by simp)
    have h2 := leavesOf_two hge.2.2
    have hpl := posting_length r n g
    have hps : posts r n (g :: gs) = posting r n g ++ posts r (n + 1) gs := rfl
    rw [hps, List.length_append, hpl] at hl
    by_cases hw : Y.take (leavesOf g.length) = posting r n g
    · obtain ⟨j, hj, rest, e1, e2⟩ := scan hr hh gs (n + 1) (Y.drop (leavesOf g.length)) (fun f hf => hg f (by simp [hf])) (fun i y hy => by
          rw [List.getElem?_drop] at hy
          rcases hT _ y hy with q | ⟨z, hz, q⟩
          · exact .inl q
          · rw [hps, List.getElem?_append_right (by omega), hpl, show leavesOf g.length + i - leavesOf g.length = i by omega] at hz
            exact .inr ⟨z, hz, q⟩) (by rw [List.length_drop]; omega) (by rw [List.length_drop]; omega)
      refine ⟨j + 1, by rw [List.length_cons]; omega, rest, ?_, by rw [show n + (j + 1) = n + 1 + j by omega]; exact e2⟩
      show Y = (posting r n g ++ posts r (n + 1) (gs.take j)) ++ rest
      rw [List.append_assoc, ← e1, ← hw, List.take_append_drop]
    · refine ⟨0, Nat.zero_le _, Y, rfl, ?_⟩
      cases hq : readP Y r n home with
      | none => rfl
      | some e =>
        exfalso
        obtain ⟨heg, hel⟩ := readP_some hq
        have hep := readP_page hq
        have he2 := leavesOf_two heg.2.2
        have hown : ∀ i, i < leavesOf e.length → (posts r n (g :: gs))[i]? = some (leaf r n e i) := fun i hi => by
          have hy : Y[i]? = some (leaf r n e i) := by
            have := congrArg (fun l => l[i]?) hep
            simp only [List.getElem?_take_of_lt hi] at this
            rw [this]
            unfold posting
            rw [List.getElem?_map, List.getElem?_range hi]
            rfl
          rcases hT i _ hy with q | ⟨z, hz, q⟩
          · have := (leaf_ends (r := r) (n := n) (k := i) hr (fun x hx => (heg.1 x hx).2) heg.2.2 hi).2.2.2
            omega
          · rcases q with q | ⟨q1, q2⟩
            · rw [q]; exact hz
            · obtain ⟨X, hX, rfl⟩ := posts_page hg hz
              exact absurd (track_told (leafText_length _ _ _ _ _ (leafOf (fun x hx => (heg.1 x hx).2) heg.2.2 hi)) hX q1) q2
        have h0 : leaf r n g 0 = leaf r n e 0 := by
          have := hown 0 (by omega)
          rw [hps, List.getElem?_append_left (by omega)] at this
          exact (posting_get this).2.symm
        have hlen : e.length = g.length := by
          have c1 := count_leaf (r := r) (n := n) (fun x hx => (heg.1 x hx).2) heg.2.2 (goes_len heg hh (by omega))
          have c2 := count_leaf (r := r) (n := n) (fun x hx => (hge.1 x hx).2) hge.2.2 (goes_len hge hh (by omega))
          rw [← c1, ← c2, h0]
        apply hw
        rw [← hlen, hep]
        apply List.ext_getElem?
        intro i
        rcases Nat.lt_or_ge i (leavesOf e.length) with q | q
        · have h1 := hown i q
          rw [hps, List.getElem?_append_left (by rw [hpl, ← hlen]; exact q)] at h1
          rw [h1]
          unfold posting
          rw [List.getElem?_map, List.getElem?_range q]
          rfl
        · rw [List.getElem?_eq_none (by rw [posting_length]; exact q), List.getElem?_eq_none (by rw [hpl, ← hlen]; exact q)]

/-- Home tracks behind several postings. -/
def tookHs (H : List (List Nat)) (gs : List (List Ent)) : List (List Nat) := gs.foldl tookH H
theorem tookHs_length (H : List (List Nat)) : ∀ gs : List (List Ent), (tookHs H gs).length = H.length := fun gs => by
  induction gs generalizing H with
  | nil => rfl
  | cons g gs ih => show (tookHs (tookH H g) gs).length = _; rw [ih, tookH_length]
theorem homeOf_tookAll {V : List (List Nat)} {l n : Nat} : ∀ {gs : List (List Ent)} {ws : Wri} {H : List (List Nat)}, ws.length = n → H.length = n → (∀ g ∈ gs, Goes g n) → (∀ k, k < n → H[k]? = some (homeOf V l ws k)) → ∀ k, k < n → (tookHs H gs)[k]? = some (homeOf V l (tookAll ws gs) k) := fun {gs} => by
  induction gs with
  | nil => intro ws H _ _ _ h; exact h
  | cons g gs ih =>
    intro ws H hw hH hg h
    exact ih (ws := took ws g) (H := tookH H g) (by rw [took_length]; exact hw) (by rw [tookH_length]; exact hH) (fun f hf => hg f (by simp [hf])) (homeOf_took hw hH (fun x hx => ((hg g (by simp)).1 x hx).1) h)

/-- A ledger's drum in the midst of a round: fs are settled, of gs the first leaves are afloat. -/
structure Afloat (s : TA) (l r : Nat) (H : List (List Nat)) (fs gs : List (List Ent)) (Z : List (List Nat)) : Prop where
  live : Live s.1 l r H fs
  lays : s.2 = leafA (2 + (posts r 1 fs).length) Z
  part : ∃ Z', posts r (fs.length + 1) gs = Z ++ Z'
  goes : ∀ g ∈ gs, Goes g H.length
  etrk : ∀ g ∈ gs, ∀ x ∈ g, Trk x.2
  room : (posts r 1 (fs ++ gs)).length ≤ l

theorem posts_trk {r : Nat} {home : Nat} (hr : r < 256) : ∀ {gs : List (List Ent)} {n i : Nat} {z : List Nat}, (∀ g ∈ gs, Goes g home) → (∀ g ∈ gs, ∀ x ∈ g, Trk x.2) → (posts r n gs)[i]? = some z → Trk z ∧ Ends z r := fun {gs} => by
  induction gs with
  | nil => intro n i z _ _ h; simp [posts] at h
  | cons g gs ih =>
    intro n i z hg ht h
    have hge := hg g (by simp)
    rcases Nat.lt_or_ge i (posting r n g).length with q | q
    · rw [show posts r n (g :: gs) = posting r n g ++ posts r (n + 1) gs from rfl, List.getElem?_append_left q] at h
      obtain ⟨hk, rfl⟩ := posting_get h
      exact ⟨leaf_trk (ht g (by simp)) hge.2.2 hk, leaf_ends hr (fun x hx => (hge.1 x hx).2) hge.2.2 hk⟩
    · rw [show posts r n (g :: gs) = posting r n g ++ posts r (n + 1) gs from rfl, List.getElem?_append_right q] at h
      exact ih (fun f hf => hg f (by simp [hf])) (fun f hf => ht f (by simp [hf])) h

/-- THE STAGE'S THEOREM, in the midst of a round: whatever is lost or torn, home is as it was behind some number of postings. -/
theorem Afloat.crash {s : TA} {l r : Nat} {H : List (List Nat)} {fs gs : List (List Ent)} {Z : List (List Nat)} (h : Afloat s l r H fs gs Z) : CrashTA s l r (fun H' => ∃ j, j ≤ gs.length ∧ H' = tookHs H (gs.take j)) := by
  intro part hp
  have R := h.live.is
  have hr := R.r2
  obtain ⟨Z', hZ⟩ := h.part
  obtain ⟨rest, hr1, hr2⟩ := h.live.fresh
  have hroom := h.room
  rw [posts_append, List.length_append, Nat.add_comm 1, hZ, List.length_append] at hroom
  obtain ⟨p, hpd⟩ : ∃ p, (posts r 1 fs).length = p := ⟨_, rfl⟩
  have hlays := h.lays
  rw [hpd] at hlays hroom
  have hA : s.2.length = Z.length := by rw [hlays, leafA_length]
  have hZg : ∀ i z, Z[i]? = some z → (posts r (fs.length + 1) gs)[i]? = some z := fun i z hz => by rw [hZ, List.getElem?_append_left (lt_of_get hz)]; exact hz
  have hZt : ∀ i z, Z[i]? = some z → Trk z ∧ Ends z r := fun i z hz => posts_trk (by omega) h.goes h.etrk (hZg i z hz)
  have hAt : ∀ x ∈ s.2, x.1 < s.1.length ∧ Trk x.2 := fun x hx => by
    rw [hlays] at hx
    obtain ⟨i, h1, h2⟩ := leafA_mem hx
    have := lt_of_get h1
    have := R.len
    exact ⟨by omega, (hZt i x.2 h1).1⟩
  have hTt := falls_trk hp R.trk hAt s.2.length (Nat.le_refl _)
  have hTl : (falls part s.1 s.2 s.2.length).length = s.1.length := falls_length _ _ _ _
  have hTo : ∀ i, (i < 2 + p ∨ 2 + p + Z.length ≤ i) → (falls part s.1 s.2 s.2.length)[i]? = s.1[i]? := fun i hi => falls_other i (fun x hx e => by
    rw [hlays] at hx
    obtain ⟨k, h1, h2⟩ := leafA_mem hx
    have := lt_of_get h1
    omega) _ (Nat.le_refl _)
  have hTm : ∀ i z t, Z[i]? = some z → s.1[2 + p + i]? = some t → (falls part s.1 s.2 s.2.length)[2 + p + i]? = some (mix (part i) z t) := fun i z t hz ht => by
    have hx : s.2[i]? = some (2 + p + i, z) := by rw [hlays, leafA_get, hz]; rfl
    have := falls_mem (p := part) (T := s.1) (A := s.2) (by rw [hlays]; exact leafA_nodup _ _) hx (t := t) ht s.2.length (lt_of_get hx) (Nat.le_refl _)
    exact this
  obtain ⟨T', hT'⟩ : ∃ T', falls part s.1 s.2 s.2.length = T' := ⟨_, rfl⟩
  rw [hT'] at hTt hTl hTo hTm ⊢
  have hll : (leavesT s.1 l).length = l := by unfold leavesT; rw [List.length_take, List.length_drop, R.len]; omega
  have hrl : rest.length = l - p := by rw [hr1, List.length_append, hpd] at hll; omega
  have hre : ∀ i y, rest[i]? = some y → s.1[2 + p + i]? = some y := fun i y hy => by
    have hi := lt_of_get hy
    have h1 := leavesT_get s.1 l (p + i)
    rw [hr1, List.getElem?_append_right (by omega), hpd, show p + i - p = i by omega, if_pos (by omega), hy] at h1
    rw [show 2 + p + i = 2 + (p + i) by omega]
    exact h1.symm
  -- what stands behind the settled ones
  obtain ⟨Y, hY⟩ : ∃ Y, (leavesT T' l).drop p = Y := ⟨_, rfl⟩
  have hYl : Y.length = l - p := by rw [← hY, List.length_drop]; unfold leavesT; rw [List.length_take, List.length_drop, hTl, R.len]; omega
  have hYg : ∀ i, i < l - p → Y[i]? = T'[2 + p + i]? := fun i hi => by rw [← hY, List.getElem?_drop, leavesT_get, if_pos (by omega), show 2 + (p + i) = 2 + p + i by omega]
  have hlt : leavesT T' l = posts r 1 fs ++ Y := by
    rw [← List.take_append_drop p (leavesT T' l), hY]
    congr 1
    apply List.ext_getElem?
    intro i
    rcases Nat.lt_or_ge i p with q | q
    · have h1 := leavesT_get s.1 l i
      rw [hr1, List.getElem?_append_left (by omega), if_pos (by omega)] at h1
      rw [List.getElem?_take_of_lt q, leavesT_get, if_pos (by omega), hTo _ (.inl (by omega)), h1]
    · rw [List.getElem?_eq_none (by rw [List.length_take]; omega), List.getElem?_eq_none (by omega)]
  have hYp : ∀ i y, Y[i]? = some y → (at0 y 83 < r ∨ ∃ z, (posts r (fs.length + 1) gs)[i]? = some z ∧ (y = z ∨ (y.take 84 = z.take 84 ∧ y ≠ z))) ∧ at0 y 83 ≤ r := fun i y hy => by
    have hi : i < l - p := by have := lt_of_get hy; omega
    obtain ⟨t, ht⟩ := get_of_lt (l := rest) (n := i) (by omega)
    have htr := hr2 t (mem_of_get ht)
    have ht1 := hre i t ht
    rw [hYg i hi] at hy
    rcases Nat.lt_or_ge i Z.length with q | q
    · obtain ⟨z, hz⟩ := get_of_lt q
      rw [hTm i z t hz ht1] at hy
      injection hy with hy
      have hzl := (hZt i z hz).1.len
      have hze := (hZt i z hz).2.2.2.2
      have h83 : at0 y 83 = if 83 < part i then at0 z 83 else at0 t 83 := by rw [← hy]; exact at0_mix hzl (hp i)
      rcases Nat.lt_or_ge (part i) 84 with c | c
      · rw [if_neg (by omega)] at h83
        exact ⟨.inl (by omega), by omega⟩
      · rw [if_pos (by omega)] at h83
        refine ⟨.inr ⟨z, hZg i z hz, ?_⟩, by omega⟩
        by_cases e : y = z
        · exact .inl e
        · exact .inr ⟨by rw [← hy]; exact mix_take84 hzl c, e⟩
    · rw [hTo _ (.inr (by omega)), ht1] at hy
      injection hy with hy
      subst hy
      exact ⟨.inl htr, by omega⟩
  obtain ⟨j, hj, rest', e1, e2⟩ := scan (r := r) (home := H.length) (by omega) (by have := R.len; have := R.many; omega) gs (fs.length + 1) Y h.goes (fun i y hy => (hYp i y hy).1) (by rw [hZ, List.length_append, hYl]; omega) (by rw [hYl]; have := R.len; have := R.many; omega)
  have hnl : (fs ++ gs.take j).length = fs.length + j := by rw [List.length_append, List.length_take, Nat.min_eq_left hj]
  have hHl := tookHs_length H (gs.take j)
  have hgj : ∀ g ∈ gs.take j, Goes g H.length := fun g hg => h.goes g (List.mem_of_mem_take hg)
  refine ⟨r, tookHs H (gs.take j), fs ++ gs.take j, ⟨hTt, by rw [hTl, hHl]; exact R.len, by rw [hTl]; exact R.many, R.lv, by rw [hHl]; exact R.hm, R.r1, R.r2, by rw [hTo _ (.inl (by omega))]; exact R.cov, ?_, fun i hi => ?_, ?_, ?_, ⟨rest', ?_, ?_⟩, fun k hk => ?_⟩, ⟨j, hj, rfl⟩, Nat.le_refl _⟩
  · obtain ⟨o, q1, q2⟩ := R.oth
    exact ⟨o, by rw [hTo _ (.inl (by omega))]; exact q1, q2⟩
  · rcases Nat.lt_or_ge i p with q | q
    · obtain ⟨b, q1, q2⟩ := R.low i hi
      exact ⟨b, by rw [hTo _ (.inl (by omega))]; exact q1, q2⟩
    · obtain ⟨y, hy⟩ := get_of_lt (l := Y) (n := i - p) (by omega)
      have := hYg (i - p) (by omega)
      rw [hy, show 2 + p + (i - p) = 2 + i by omega] at this
      exact ⟨y, this.symm, (hYp _ y hy).2⟩
  · intro f hf
    rw [hHl]
    rcases List.mem_append.1 hf with q | q
    · exact R.goes f q
    · exact hgj f q
  · intro f hf
    rcases List.mem_append.1 hf with q | q
    · exact R.etrk f q
    · exact h.etrk f (List.mem_of_mem_take q)
  · rw [hlt, e1, posts_append, List.append_assoc, Nat.add_comm 1]
  · rw [hnl, hHl, show fs.length + j + 1 = fs.length + 1 + j by omega]; exact e2
  · rw [hHl] at hk ⊢
    have hb := homeOf_tookAll (V := s.1) (l := l) (n := H.length) (gs := gs.take j) (ws := wrote H fs) (H := H) (wrote_length H fs) rfl hgj (fun k hk => R.home k hk) k hk
    rw [hb]
    congr 1
    have ew : tookAll (List.replicate H.length none) (fs ++ gs.take j) = tookAll (wrote H fs) (gs.take j) := by unfold tookAll; rw [List.foldl_append]; rfl
    rw [ew]
    exact (homeOf_same (hTo _ (.inr (by omega)))).symm
end Go.Proofs.YtjajenkagcdhlaaGreat
/- A ledger that runs, with what of its round is settled and what is afloat. -/
namespace Go.Proofs.YtjajenkagcdhlaaGreat
open Go.RowKit
set_option maxRecDepth 100000

/-- Behind fs, which are settled, home is H; gs are afloat. -/
structure RunL (L : LS) (l r : Nat) (H : List (List Nat)) (fs gs : List (List Ent)) : Prop where
  live : LiveL L l r (tookHs H gs) (fs ++ gs)
  afl : Afloat L.D.ta l r H fs gs (posts r (fs.length + 1) gs)

theorem tookHs_snoc (H : List (List Nat)) (gs : List (List Ent)) (g : List Ent) : tookHs H (gs ++ [g]) = tookH (tookHs H gs) g := by simp [tookHs]
theorem RunL.fresh {L : LS} {l r : Nat} {H : List (List Nat)} (h : LiveL L l r H []) (hA : L.D.A = []) : RunL L l r H [] [] := by
  refine ⟨h, ⟨?_, ?_, ⟨[], rfl⟩, (fun g hg => by cases hg), (fun g hg => by cases hg), Nat.zero_le _⟩⟩
  · show Live L.D.T l r H []
    have := h.live
    unfold DS.seen at this
    rw [hA] at this
    exact this
  · show L.D.A = _; rw [hA]; rfl
/-- One posting more, where there is room. -/
theorem RunL.more {L : LS} {l r : Nat} {H : List (List Nat)} {fs gs : List (List Ent)} (h : RunL L l r H fs gs) {e : List Ent} (hg : Goes e H.length) (ht : ∀ x ∈ e, Trk x.2) (hroom : L.laid + leavesOf e.length ≤ l) : RunL (L.layP e) l r H fs (gs ++ [e]) := by
  have hl := layP_live h.live (e := e) (by rw [tookHs_length]; exact hg) ht hroom
  rw [← tookHs_snoc, List.append_assoc] at hl
  have hq := h.live.quiet.run (leafT (2 + L.laid) (posting L.round (L.posts + 1) e))
  have hta := h.live.quiet.ta (leafT (2 + L.laid) (posting L.round (L.posts + 1) e))
  rw [show L.D.ta = (L.D.T, L.D.A) from rfl, ideals_leaf] at hta
  have hD : (L.layP e).D = L.D.run (leafT (2 + L.laid) (posting L.round (L.posts + 1) e)) := by unfold LS.layP; simp only; split <;> rfl
  have hpe : posts r (fs.length + 1) (gs ++ [e]) = posts r (fs.length + 1) gs ++ posting r (fs.length + gs.length + 1) e := by
    rw [posts_append]
    show _ ++ (posting r (fs.length + 1 + gs.length) e ++ []) = _
    rw [List.append_nil, show fs.length + 1 + gs.length = fs.length + gs.length + 1 by omega]
  have hp2 : (posts r 1 (fs ++ gs)).length = (posts r 1 fs).length + (posts r (fs.length + 1) gs).length := by rw [posts_append, List.length_append, Nat.add_comm 1]
  refine ⟨hl, ?_⟩
  rw [hD, hta]
  refine ⟨h.afl.live, ?_, ⟨[], by rw [List.append_nil]⟩, fun g hgm => ?_, fun g hgm => ?_, ?_⟩
  · show L.D.A ++ leafA (2 + L.laid) (posting L.round (L.posts + 1) e) = _
    rw [hpe, leafA_append, show L.D.A = leafA (2 + (posts r 1 fs).length) (posts r (fs.length + 1) gs) from h.afl.lays, h.live.laid, h.live.round, h.live.count, hp2, List.length_append]
    congr 2
    omega
  · rcases List.mem_append.1 hgm with q | q
    · exact h.afl.goes g q
    · obtain rfl := List.mem_singleton.1 q; exact hg
  · rcases List.mem_append.1 hgm with q | q
    · exact h.afl.etrk g q
    · obtain rfl := List.mem_singleton.1 q; exact ht
  · rw [← List.append_assoc, posts_append, List.length_append]
    show _ + (posting r (1 + (fs ++ gs).length) e ++ []).length ≤ l
    rw [List.append_nil, posting_length, ← h.live.laid]
    exact hroom
/-- What is settled. -/
theorem RunL.settled {L : LS} {l r : Nat} {H : List (List Nat)} {fs gs : List (List Ent)} (h : RunL L l r H fs gs) : RunL { L with D := L.D.step .settle } l r (tookHs H gs) (fs ++ gs) [] := by
  have hs := step_settle_seen h.live.quiet
  have hl := h.live.settled
  refine ⟨by rw [List.append_nil]; exact hl, ⟨?_, ?_, ⟨[], rfl⟩, (fun g hg => by cases hg), (fun g hg => by cases hg), ?_⟩⟩
  · show Live (L.D.step .settle).T _ _ _ _; rw [hs.2.2]; exact h.live.live
  · show (L.D.step .settle).A = _; rw [hs.2.1]; rfl
  · rw [List.append_nil]; exact h.afl.room
/-- Behind a fall. -/
theorem RunL.fall {L : LS} {l r : Nat} {H : List (List Nat)} {fs gs : List (List Ent)} (h : RunL L l r H fs gs) (part : Nat → Nat) (hp : ∀ i, part i ≤ 96) : Quiet (L.D.fall part) ∧ (L.D.fall part).turns = L.D.turns ∧ ∃ r' j es, j ≤ gs.length ∧ r' ≤ r ∧ RecE (L.D.fall part).seen l r' (tookHs H (gs.take j)) es := by
  obtain ⟨r', H', es, R, ⟨j, hj, rfl⟩, hr⟩ := h.afl.crash part hp
  exact ⟨⟨rfl, rfl⟩, rfl, r', j, es, hj, hr, R⟩
end Go.Proofs.YtjajenkagcdhlaaGreat
/- A ledger on a drum that may break: what each call leaves, whether or not it does. -/
namespace Go.Proofs.YtjajenkagcdhlaaGreat
open Go.RowKit
set_option maxRecDepth 100000

/-- The same, no break being set. -/
def DS.calm (D : DS) : DS := { D with left := none }
def LS.calm (L : LS) : LS := { L with D := L.D.calm }
theorem calm_quiet {D : DS} (h : D.down = false) : Quiet D.calm := ⟨rfl, h⟩
theorem calm_step {D : DS} {t : Trn} (h : (D.step t).down = false) : (D.step t).calm = D.calm.step t := by
  rw [DS.step_goes] at h
  have hg : D.goes = true := by simpa using h
  have hd := DS.goes_down hg
  have hc : D.calm.goes = true := (calm_quiet hd).goes
  cases t with
  | lay k b => show (D.lay k b).calm = D.calm.lay k b; unfold DS.lay DS.turned; rw [hg, hc]; rfl
  | settle => show D.settle.calm = D.calm.settle; unfold DS.settle DS.turned; rw [hg, hc]; rfl
theorem run_up {D : DS} {ts : List Trn} (h : (D.run ts).down = false) : D.down = false := by
  cases hd : D.down with
  | false => rfl
  | true => rw [DS.run_down hd, hd] at h; cases h
theorem calm_run : ∀ {ts : List Trn} {D : DS}, (D.run ts).down = false → (D.run ts).calm = D.calm.run ts
  | [], _, _ => rfl
  | t :: ts, D, h => by
    rw [DS.run_cons] at h ⊢
    rw [calm_run h, calm_step (run_up h)]
    rfl
theorem calm_next {L : LS} (h : L.next.D.down = false) : L.next.calm = L.calm.next := by
  rw [next_D] at h
  have e := calm_run h
  have h' : (L.calm.D.run L.calm.nextT).down = false := by
    show (L.D.calm.run L.nextT).down = false
    rw [← e]
    exact h
  rw [next_up h, next_up h']
  unfold LS.calm
  simp only
  rw [e]
  rfl
theorem calm_balanced {L : LS} (h : L.balanced.D.down = false) : L.balanced.calm = L.calm.balanced ∧ (L.D.step .settle).down = false := by
  cases hs : (L.D.step .settle).down with
  | true =>
    unfold LS.balanced at h
    rw [if_pos hs] at h
    rw [hs] at h
    cases h
  | false =>
    have e := calm_step hs
    have eb : L.balanced = { L with D := L.D.step .settle : LS }.next := by unfold LS.balanced; rw [if_neg (by rw [hs]; decide)]
    have eb' : L.calm.balanced = { L.calm with D := L.D.calm.step .settle : LS }.next := by
      unfold LS.balanced
      rw [if_neg (by show ¬ (L.D.calm.step .settle).down = true; rw [← e]; show ¬ (L.D.step .settle).down = true; rw [hs]; decide)]
      rfl
    rw [eb] at h ⊢
    rw [calm_next h, eb', ← e]
    exact ⟨rfl, rfl⟩
theorem layP_D (L : LS) (e : List Ent) : (L.layP e).D = L.D.run (leafT (2 + L.laid) (posting L.round (L.posts + 1) e)) := by unfold LS.layP; simp only; split <;> rfl
theorem calm_layP {L : LS} {e : List Ent} (h : (L.layP e).D.down = false) : (L.layP e).calm = L.calm.layP e := by
  rw [layP_D] at h
  have q := calm_run h
  have h' : (L.calm.D.run (leafT (2 + L.calm.laid) (posting L.calm.round (L.calm.posts + 1) e))).down = false := by
    show (L.D.calm.run (leafT (2 + L.laid) (posting L.round (L.posts + 1) e))).down = false
    rw [← q]
    exact h
  unfold LS.layP
  simp only [h, h', Bool.false_eq_true, if_false]
  unfold LS.calm
  simp only
  rw [q]
theorem CrashTA.mono {s : TA} {l r r' : Nat} {S S' : List (List Nat) → Prop} (h : CrashTA s l r S) (hs : ∀ H, S H → S' H) (hr : r ≤ r') : CrashTA s l r' S' := fun part hp => by
  obtain ⟨a, H, es, h1, h2, h3⟩ := h part hp
  exact ⟨a, H, es, h1, hs H h2, Nat.le_trans h3 hr⟩

section
variable {L : LS} {l r : Nat} {H : List (List Nat)} {fs gs : List (List Ent)}
/-- Home behind some number of the postings afloat. -/
def Some1 (H : List (List Nat)) (gs : List (List Ent)) (H' : List (List Nat)) : Prop := ∃ j, j ≤ gs.length ∧ H' = tookHs H (gs.take j)
theorem some1_all (H : List (List Nat)) (gs : List (List Ent)) : Some1 H gs (tookHs H gs) := ⟨gs.length, Nat.le_refl _, by rw [List.take_length]⟩
theorem RunL.crash (R : RunL L.calm l r H fs gs) : CrashTA L.D.ta l r (Some1 H gs) := R.afl.crash
theorem RunL.recE (R : RunL L.calm l r H fs gs) : RecE L.D.seen l r (tookHs H gs) (fs ++ gs) := R.live.live.is
theorem settle_break (hd : L.D.down = false) (R : RunL L.calm l r H fs gs) : (L.settleE = 0 ∧ L.settle.D.down = false ∧ RunL L.settle.calm l r (tookHs H gs) (fs ++ gs) []) ∨ (L.settleE = 4 ∧ L.D.left ≠ none ∧ L.settle.D.down = true ∧ CrashTA L.settle.D.ta l r (Some1 H gs)) := by
  have hlost : L.lost = false := R.live.lost
  cases hs : (L.D.step .settle).down with
  | false =>
    have e : L.settle = { L with D := L.D.step .settle } := by unfold LS.settle LS.heed; rw [hlost]; simp only [hs, Bool.false_eq_true, if_false]
    refine .inl ⟨by unfold LS.settleE; rw [hlost]; exact bad_up hs, by rw [e]; exact hs, ?_⟩
    have := R.settled
    rw [e]
    unfold LS.calm
    simp only
    rw [calm_step hs]
    exact this
  | true =>
    have e : L.settle.D = L.D.step .settle := by unfold LS.settle LS.heed; rw [hlost]; simp only [hs, Bool.false_eq_true, if_false, if_true]
    refine .inr ⟨by unfold LS.settleE; rw [hlost]; exact bad_down hs, fun q => ?_, by rw [e]; exact hs, ?_⟩
    · have := ((⟨q, hd⟩ : Quiet L.D).step .settle).down
      rw [hs] at this
      cases this
    · rw [e, step_ta_down hs]; exact R.crash
theorem balanced_break (_hd : L.D.down = false) (R : RunL L.calm l r H fs gs) (hr : r + 1 < 255) : (L.balanced.D.down = false ∧ RunL L.balanced.calm l (r + 1) (tookHs H gs) [] []) ∨ (L.D.left ≠ none ∧ L.balanced.D.down = true ∧ CrashTA L.balanced.D.ta l (r + 1) (Some1 H gs)) := by
  cases hb : L.balanced.D.down with
  | false =>
    obtain ⟨e, _⟩ := calm_balanced hb
    obtain ⟨h1, h2⟩ := balanced_live R.live hr
    refine .inl ⟨rfl, ?_⟩
    rw [e]
    exact RunL.fresh h1 h2
  | true =>
    refine .inr ⟨fun q => ?_, rfl, ?_⟩
    · have : L.calm = L := by unfold LS.calm DS.calm; rw [← q]
      have h1 := (balanced_live R.live hr).1.quiet.down
      rw [this, hb] at h1
      cases h1
    · cases hs : (L.D.step .settle).down with
      | true =>
        have e : L.balanced.D = L.D.step .settle := by unfold LS.balanced; rw [if_pos hs]
        rw [e, step_ta_down hs]
        exact R.crash.mono (fun _ h => h) (by omega)
      | false =>
        have e : L.balanced = { L with D := L.D.step .settle : LS }.next := by unfold LS.balanced; rw [if_neg (by rw [hs]; decide)]
        rw [e, next_D]
        obtain ⟨j, _, h2, _⟩ := run_ta (L.D.step .settle) { L with D := L.D.step .settle : LS }.nextT
        have hnt : { L with D := L.D.step .settle : LS }.nextT = homeT l 0 (wrote (tookHs H gs) (fs ++ gs)) ++ beginT (r + 1) l := by
          show homeT L.leaves 0 L.ws ++ beginT (L.round + 1) L.leaves = _
          have a1 : L.leaves = l := R.live.leaves
          have a2 : L.ws = _ := R.live.ws
          have a3 : L.round = r := R.live.round
          rw [a1, a2, a3]
        rw [hnt, step_ta hs] at h2
        show CrashTA ((L.D.step .settle).run { L with D := L.D.step .settle : LS }.nextT).ta _ _ _
        rw [hnt, h2]
        exact (crash_next R.recE hr j).mono (fun H' h => by rw [h]; exact some1_all H gs) (Nat.le_refl _)
theorem layP_break (_hd : L.D.down = false) (R : RunL L.calm l r H fs gs) {e : List Ent} (hg : Goes e H.length) (ht : ∀ x ∈ e, Trk x.2) (hroom : L.laid + leavesOf e.length ≤ l) : ((L.layP e).D.down = false ∧ RunL (L.layP e).calm l r H fs (gs ++ [e])) ∨ (L.D.left ≠ none ∧ (L.layP e).D.down = true ∧ CrashTA (L.layP e).D.ta l r (Some1 H (gs ++ [e]))) := by
  have M := R.more hg ht hroom
  cases hb : (L.layP e).D.down with
  | false => exact .inl ⟨rfl, by rw [calm_layP hb]; exact M⟩
  | true =>
    refine .inr ⟨fun q => ?_, rfl, ?_⟩
    · have h0 : L.calm = L := by unfold LS.calm DS.calm; rw [← q]
      have h1 := M.live.quiet.down
      rw [h0, hb] at h1
      cases h1
    · obtain ⟨j, _, h2, _⟩ := run_ta L.D (leafT (2 + L.laid) (posting L.round (L.posts + 1) e))
      rw [layP_D, h2]
      have hpe : posts r (fs.length + 1) (gs ++ [e]) = posts r (fs.length + 1) gs ++ posting r (fs.length + gs.length + 1) e := by
        rw [posts_append]
        show _ ++ (posting r (fs.length + 1 + gs.length) e ++ []) = _
        rw [List.append_nil, show fs.length + 1 + gs.length = fs.length + gs.length + 1 by omega]
      have hp2 : (posts r 1 (fs ++ gs)).length = (posts r 1 fs).length + (posts r (fs.length + 1) gs).length := by rw [posts_append, List.length_append, Nat.add_comm 1]
      have a1 : L.round = r := R.live.round
      have a2 : L.posts = (fs ++ gs).length := R.live.count
      have a3 : L.laid = (posts r 1 (fs ++ gs)).length := R.live.laid
      have a4 : L.D.A = leafA (2 + (posts r 1 fs).length) (posts r (fs.length + 1) gs) := R.afl.lays
      refine (Afloat.crash (Z := posts r (fs.length + 1) gs ++ (posting r (fs.length + gs.length + 1) e).take j) ⟨?_, ?_, ?_, M.afl.goes, M.afl.etrk, M.afl.room⟩).mono (fun _ h => h) (Nat.le_refl _)
      · rw [leafT_lays, layTs_take, ideals_lays]; exact R.afl.live
      · rw [leafT_lays, layTs_take, ideals_lays, leafA_append]
        show L.D.A ++ (leafA (2 + L.laid) (posting L.round (L.posts + 1) e)).take j = _
        have htk : ∀ (k : Nat) (bs : List (List Nat)) (j : Nat), (leafA k bs).take j = leafA k (bs.take j) := fun k bs => by
          induction bs generalizing k with
          | nil => intro j; simp [leafA]
          | cons b bs ih =>
            intro j
            cases j with
            | zero => simp [leafA]
            | succ j => simp only [leafA, List.take_succ_cons, ih]
        rw [a4, a1, a2, a3, hp2, List.length_append, htk]
        congr 2
        omega
      · exact ⟨(posting r (fs.length + gs.length + 1) e).drop j, by rw [hpe, List.append_assoc, List.take_append_drop]⟩
/-- Write. -/
theorem write_break (hd : L.D.down = false) (R : RunL L.calm l r H fs gs) (hr : r + 1 < 255) {e : List Ent} (ht : ∀ x ∈ e, Trk x.2) :
    (L.writeE e = 1 ∧ L.write e = L ∧ ¬ Goes e H.length) ∨ (L.writeE e = 5 ∧ L.write e = L ∧ l < leavesOf e.length) ∨
    (L.writeE e = 0 ∧ Goes e H.length ∧ (L.write e).D.down = false ∧ ∃ r' H' fs' gs', r' ≤ r + 1 ∧ RunL (L.write e).calm l r' H' fs' gs' ∧ tookHs H' gs' = tookH (tookHs H gs) e ∧ fs'.length + gs'.length ≤ fs.length + gs.length + 1 ∧ ∀ X, Some1 H' gs' X → Some1 H gs X ∨ X = tookH (tookHs H gs) e) ∨
    (L.writeE e = 4 ∧ Goes e H.length ∧ L.D.left ≠ none ∧ (L.write e).D.down = true ∧ CrashTA (L.write e).D.ta l (r + 1) (fun X => Some1 H gs X ∨ X = tookH (tookHs H gs) e)) := by
  have hlost : L.lost = false := R.live.lost
  have hlv : L.leaves = l := R.live.leaves
  have hwl : L.ws.length = H.length := by have h1 : L.ws.length = (tookHs H gs).length := R.live.hlen; rw [h1, tookHs_length]
  by_cases hg : Goes e H.length
  · have hg' : Goes e L.ws.length := by rw [hwl]; exact hg
    by_cases hbig : l < leavesOf e.length
    · refine .inr (.inl ⟨?_, ?_, hbig⟩)
      · unfold LS.writeE; rw [if_pos hg', hlost, hlv, if_pos hbig]; rfl
      · unfold LS.write; rw [if_pos hg', hlost, hlv, if_pos hbig]; rfl
    · right; right
      have e1 : L.writeE e = (L.post e).D.bad := by unfold LS.writeE; rw [if_pos hg', hlost, hlv, if_neg hbig]; rfl
      have e2 : L.write e = (L.post e).heed := by unfold LS.write; rw [if_pos hg', hlost, hlv, if_neg hbig]; rfl
      have e3 : (L.post e).heed.D = (L.post e).D := by unfold LS.heed; split <;> rfl
      have e4 : (L.post e).D.down = false → (L.post e).heed = L.post e := fun q => by unfold LS.heed; rw [q]; rfl
      rw [e1, e2, e3]
      have snoc : ∀ X, Some1 H (gs ++ [e]) X → Some1 H gs X ∨ X = tookH (tookHs H gs) e := fun X ⟨j, hj, hx⟩ => by
        rw [List.length_append, List.length_singleton] at hj
        rcases Nat.lt_or_ge gs.length j with q | q
        · have : j = gs.length + 1 := by omega
          right
          rw [hx, List.take_of_length_le (by rw [List.length_append, List.length_singleton]; omega), tookHs_snoc]
        · exact .inl ⟨j, q, by rw [hx, List.take_append_of_le_length q]⟩
      by_cases hroom : L.leaves - L.laid < leavesOf e.length
      · have ep : L.post e = if L.balanced.D.down then L.balanced else L.balanced.layP e := by unfold LS.post; rw [if_pos hroom]
        rcases balanced_break hd R hr with ⟨hb, Rb⟩ | ⟨hl, hb, C⟩
        · rw [if_neg (by rw [hb]; decide)] at ep
          have one : ∀ X, Some1 (tookHs H gs) ([] ++ [e]) X → Some1 H gs X ∨ X = tookH (tookHs H gs) e := fun X ⟨j, hj, hx⟩ => by
            rw [List.nil_append, List.length_singleton] at hj
            rcases Nat.lt_or_ge 0 j with q | q
            · right
              have : j = 1 := by omega
              subst this
              rw [hx]; rfl
            · have : j = 0 := by omega
              subst this
              left
              rw [hx]
              exact some1_all H gs
          have hlaid : L.balanced.laid = 0 := by have := Rb.live.laid; exact this
          rcases layP_break hb Rb (e := e) (by rw [tookHs_length]; exact hg) ht (by rw [hlaid]; omega) with ⟨h1, h2⟩ | ⟨h1, h2, h3⟩
          · rw [← ep] at h1 h2
            refine .inl ⟨bad_up h1, hg, h1, r + 1, _, _, _, Nat.le_refl _, by rw [e4 h1]; exact h2, ?_, by simp, one⟩
            rfl
          · rw [← ep] at h2 h3
            refine .inr ⟨bad_down h2, hg, fun q => ?_, h2, h3.mono one (Nat.le_refl _)⟩
            have h0 : L.calm = L := by unfold LS.calm DS.calm; rw [← q]
            have hq := (balanced_live R.live hr).1.quiet.left
            rw [h0] at hq
            exact h1 hq
        · rw [if_pos (by rw [hb])] at ep
          rw [ep]
          exact .inr ⟨bad_down hb, hg, hl, hb, C.mono (fun _ h => .inl h) (Nat.le_refl _)⟩
      · have ep : L.post e = L.layP e := by unfold LS.post; rw [if_neg hroom]
        have hlaid : L.laid ≤ l := by
          have a3 : L.laid = (posts r 1 (fs ++ gs)).length := R.live.laid
          rw [a3]; exact R.afl.room
        rw [hlv] at hroom
        rw [ep]
        rcases layP_break hd R hg ht (by omega) with ⟨h1, h2⟩ | ⟨h1, h2, h3⟩
        · rw [ep] at e4
          refine .inl ⟨bad_up h1, hg, h1, r, _, _, _, by omega, by rw [e4 h1]; exact h2, tookHs_snoc _ _ _, by simp; omega, snoc⟩
        · exact .inr ⟨bad_down h2, hg, h1, h2, h3.mono snoc (by omega)⟩
  · refine .inl ⟨?_, ?_, hg⟩
    · exact by unfold LS.writeE; rw [if_neg (by rw [hwl]; exact hg)]
    · exact by unfold LS.write; rw [if_neg (by rw [hwl]; exact hg)]
/-- Open. -/
theorem open_break {D : DS} {es : List (List Ent)} (hd : D.down = false) (hA : D.A = []) (R : RecE D.seen l r H es) (hr : r + 1 < 255) :
    coverK D = some (r % 2) ∧ ((openE D = 0 ∧ openD D = (openL D (r % 2)).D ∧ (openL D (r % 2)).D.down = false ∧ RunL (openL D (r % 2)).calm l (r + 1) H [] []) ∨
    (openE D = 4 ∧ D.left ≠ none ∧ (openD D).down = true ∧ CrashTA (openD D).ta l (r + 1) (fun X => X = H))) := by
  have hk := R.coverK
  refine ⟨hk, ?_⟩
  have eD : openD D = (openL D (r % 2)).D := by unfold openD; rw [hd, hk]; rfl
  have eE : openE D = (openL D (r % 2)).D.bad := by unfold openE; rw [hd, hk]; rfl
  cases hb : (openL D (r % 2)).D.down with
  | false =>
    refine .inl ⟨by rw [eE]; exact bad_up hb, eD, rfl, ?_⟩
    obtain ⟨_, _, _, h1, h2⟩ := open_live (calm_quiet hd) (show RecE D.calm.seen l r H es from R) hr
    have e : (openL D (r % 2)).calm = openL D.calm (r % 2) := calm_next hb
    rw [e]
    exact RunL.fresh h1 h2
  | true =>
    refine .inr ⟨by rw [eE]; exact bad_down hb, fun q => ?_, by rw [eD]; exact hb, ?_⟩
    · have := (open_live ⟨q, hd⟩ R hr).2.2.2.1.quiet.down
      rw [hb] at this
      cases this
    · have hrd := R.reads
      rw [eD]
      show CrashTA (LS.counted D (r % 2)).reads.next.D.ta _ _ _
      rw [next_D, hrd]
      obtain ⟨j, _, h2, _⟩ := run_ta D (homeT l 0 (wrote H es) ++ beginT (r + 1) l)
      have hT : RecE D.T l r H es := by have := R; unfold DS.seen at this; rw [hA] at this; exact this
      have e2 : D.ta = (D.T, []) := by unfold DS.ta; rw [hA]
      rw [e2] at h2
      show CrashTA (D.run (homeT l 0 (wrote H es) ++ beginT (r + 1) l)).ta _ _ _
      rw [h2]
      exact crash_next hT hr j
end
end Go.Proofs.YtjajenkagcdhlaaGreat
/- A law's ledger on a drum that may break, and falls: what each call answers. -/
namespace Go.Proofs.YtjajenkagcdhlaaGreat
open Go.RowKit
set_option maxRecDepth 100000

theorem RecE.htrk {T : List (List Nat)} {l r : Nat} {H : List (List Nat)} {es : List (List Ent)} (R : RecE T l r H es) : ∀ b ∈ H, Trk b := fun b hb => by
  obtain ⟨k, hk⟩ := List.getElem?_of_mem hb
  have hl := lt_of_get hk
  have hlen := R.len
  rw [R.home k hl] at hk
  injection hk with hk
  rw [← hk]
  unfold homeOf
  cases hw : (wrote H es).getD k none with
  | some x =>
    simp only
    refine tookAll_trk (none_trk H.length) R.etrk k x ?_
    rw [List.getD_eq_getElem?_getD] at hw
    cases hq : (wrote H es)[k]? with
    | none => rw [hq] at hw; cases hw
    | some y => rw [hq] at hw; exact congrArg some hw
  | none =>
    simp only
    obtain ⟨y, hy⟩ := get_of_lt (l := T) (n := 2 + l + k) (by omega)
    rw [getD_of hy]
    exact R.trk y (mem_of_get hy)

abbrev Hom := List (List Nat)
/-- Whatever falls of it: home is one of P. -/
def Wreck (w0 : Fr) (d l h t : Nat) (P : Hom → Prop) (w : World) : Prop := ∃ b D, St w0 d b D w ∧ CrashTA D.ta l (2 + t) P ∧ D.T.length = 2 + l + h ∧ D.turns ≤ 1000 + t * 300
/-- A drum that is broken. -/
def Sunk (w0 : Fr) (d l h t : Nat) (P : Hom → Prop) (w : World) : Prop := ∃ b D, St w0 d b D w ∧ D.down = true ∧ CrashTA D.ta l (2 + t) P ∧ D.T.length = 2 + l + h ∧ D.turns ≤ 1000 + t * 300
/-- A drum behind a fall; q: no break is set. -/
def Fell (w0 : Fr) (d l h t : Nat) (q : Bool) (P : Hom → Prop) (w : World) : Prop := ∃ b D r H es, St w0 d b D w ∧ D.down = false ∧ D.A = [] ∧ (q = true → D.left = none) ∧ RecE D.seen l r H es ∧ P H ∧ H.length = h ∧ r ≤ 2 + t ∧ D.turns ≤ 1000 + t * 300
/-- A ledger that runs: home is N; whatever falls, it is one of P. -/
def Sail (w0 : Fr) (lp d l h t : Nat) (q : Bool) (P : Hom → Prop) (N : Hom) (w : World) : Prop := ∃ g b L r H fs gs, LAt w0 lp d b g L w ∧ L.D.down = false ∧ RunL L.calm l r H fs gs ∧ (q = true → L.D.left = none) ∧ (∀ X, Some1 H gs X → P X) ∧ tookHs H gs = N ∧ N.length = h ∧ r ≤ 2 + t ∧ fs.length + gs.length ≤ t ∧ L.D.turns ≤ 1000 + t * 300

section
variable {w0 : Fr} {w w' : World} {lp d l h t t' : Nat} {q : Bool} {P P' : Hom → Prop} {N : Hom}
theorem Sunk.wreck (x : Sunk w0 d l h t P w) : Wreck w0 d l h t P w := by
  obtain ⟨b, D, h1, _, h2⟩ := x
  exact ⟨b, D, h1, h2⟩
theorem Wreck.mono (x : Wreck w0 d l h t P w) (hp : ∀ X, P X → P' X) (ht : t ≤ t') : Wreck w0 d l h t' P' w := by
  obtain ⟨b, D, h1, h2, h3, h4⟩ := x
  exact ⟨b, D, h1, h2.mono hp (by omega), h3, by omega⟩
theorem Sunk.mono (x : Sunk w0 d l h t P w) (hp : ∀ X, P X → P' X) (ht : t ≤ t') : Sunk w0 d l h t' P' w := by
  obtain ⟨b, D, h1, h0, h2, h3, h4⟩ := x
  exact ⟨b, D, h1, h0, h2.mono hp (by omega), h3, by omega⟩
theorem Fell.mono (x : Fell w0 d l h t q P w) (hp : ∀ X, P X → P' X) (ht : t ≤ t') : Fell w0 d l h t' q P' w := by
  obtain ⟨b, D, r, H, es, h1, h2, h3, h4, h5, h6, h7, h8, h9⟩ := x
  exact ⟨b, D, r, H, es, h1, h2, h3, h4, h5, hp _ h6, h7, by omega, by omega⟩
theorem Sail.mono (x : Sail w0 lp d l h t q P N w) (hp : ∀ X, P X → P' X) (ht : t ≤ t') : Sail w0 lp d l h t' q P' N w := by
  obtain ⟨g, b, L, r, H, fs, gs, h1, h2, h3, h4, h5, h6, h7, h8, h9, h10⟩ := x
  exact ⟨g, b, L, r, H, fs, gs, h1, h2, h3, h4, fun X hX => hp X (h5 X hX), h6, h7, by omega, by omega, by omega⟩
theorem Sail.wreck (x : Sail w0 lp d l h t q P N w) : Wreck w0 d l h t P w := by
  obtain ⟨g, b, L, r, H, fs, gs, h1, h2, h3, h4, h5, h6, h7, h8, h9, h10⟩ := x
  refine ⟨b, L.D, h1.st, h3.crash.mono h5 h8, ?_, h10⟩
  have := h3.recE.len
  rw [DS.seen_length] at this
  rw [this, h6, h7]
theorem Fell.old (x : Fell w0 d l h t q P w) (m : Old w w') : Fell w0 d l h t q P w' := by
  obtain ⟨b, D, r, H, es, h1, h2⟩ := x
  exact ⟨b, D, r, H, es, h1.step m, h2⟩
theorem Wreck.old (x : Wreck w0 d l h t P w) (m : Old w w') : Wreck w0 d l h t P w' := by
  obtain ⟨b, D, h1, h2⟩ := x
  exact ⟨b, D, h1.step m, h2⟩
theorem Sunk.old (x : Sunk w0 d l h t P w) (m : Old w w') : Sunk w0 d l h t P w' := by
  obtain ⟨b, D, h1, h2⟩ := x
  exact ⟨b, D, h1.step m, h2⟩
theorem Sail.old (x : Sail w0 lp d l h t q P N w) (m : Old w w') : Sail w0 lp d l h t q P N w' := by
  obtain ⟨g, b, L, r, H, fs, gs, h1, h2⟩ := x
  exact ⟨g, b, L, r, H, fs, gs, h1.step m, h2⟩
theorem Sail.old0 (x : Sail w0 lp d l h t q P N w) : Old w0.w w := by
  obtain ⟨g, b, L, r, H, fs, gs, h1, h2⟩ := x
  exact h1.st.old
theorem Wreck.old0 (x : Wreck w0 d l h t P w) : Old w0.w w := by
  obtain ⟨b, D, h1, h2⟩ := x
  exact h1.old
theorem Fell.old0 (x : Fell w0 d l h t q P w) : Old w0.w w := by
  obtain ⟨b, D, r, H, es, h1, h2⟩ := x
  exact h1.old
theorem Sail.len (x : Sail w0 lp d l h t q P N w) : N.length = h := by
  obtain ⟨g, b, L, r, H, fs, gs, h1, h2, h3, h4, h5, h6, h7, _⟩ := x
  exact h7
theorem Sail.trk (x : Sail w0 lp d l h t q P N w) : ∀ b ∈ N, Trk b := by
  obtain ⟨g, b, L, r, H, fs, gs, h1, h2, h3, h4, h5, h6, h7, _⟩ := x
  have := h3.recE.htrk
  rwa [h6] at this
theorem Sail.now (x : Sail w0 lp d l h t q P N w) : P N := by
  obtain ⟨g, b, L, r, H, fs, gs, h1, h2, h3, h4, h5, h6, h7, _⟩ := x
  rw [← h6]
  exact h5 _ (some1_all H gs)
theorem calm_ok {L : LS} (h : L.calm.Ok) : L.Ok := ⟨h.leaves, h.home, h.len, h.laid, h.round, h.posts⟩

theorem sail_settle (x : Sail w0 lp d l h t q P N w) (ht : t ≤ 200) : Calls Tryz.prog 46 #[.pointer (some ⟨lp, 0, none⟩)] w fun y w' => KeptL w w' ∧ ((y = .returned (.int .i64 0) ∧ Sail w0 lp d l h (t + 1) q (fun X => X = N) N w') ∨ (y = .returned (.int .i64 4) ∧ q = false ∧ Sunk w0 d l h (t + 1) P w')) := by
  obtain ⟨g, b, L, r, H, fs, gs, A, hd, R, hq, hP, hN, hh, hr, hc, hx⟩ := x
  refine (lsettle_any A (by omega)).mono ?_
  rintro y w' ⟨rfl, M⟩
  obtain ⟨b', A'⟩ := M.1
  have htu := settle_turns L
  refine ⟨M.2.1, ?_⟩
  rcases settle_break hd R with ⟨e1, e2, e3⟩ | ⟨e1, e2, e3, e4⟩
  · refine .inl ⟨by rw [e1]; rfl, g, b', L.settle, r, _, _, [], A', e2, e3, fun hqq => ?_, fun X ⟨j, hj, hX⟩ => ?_, hN, hh, by omega, by rw [List.length_append, List.length_nil]; omega, by omega⟩
    · have e : L.settle = { L with D := L.D.step .settle } := (settle_live (L := L) (by
        have h0 : L.calm = L := by unfold LS.calm DS.calm; rw [← hq hqq]
        have := R.live
        rwa [h0] at this)).2.2
      rw [e]
      exact ((⟨hq hqq, hd⟩ : Quiet L.D).step .settle).left
    · have : j = 0 := Nat.le_zero.1 hj
      subst this
      rw [hX]
      exact hN
  · refine .inr ⟨by rw [e1]; rfl, ?_, b', L.settle.D, A'.st, e3, e4.mono hP (by omega), ?_, by omega⟩
    · cases q with
      | false => rfl
      | true => exact absurd (hq rfl) e2
    · have h1 := R.recE.len
      rw [DS.seen_length] at h1
      have h2 : L.settle.D.T.length = L.D.T.length := by
        unfold LS.settle
        split
        · rfl
        · rw [show ({ L with D := L.D.step .settle } : LS).heed.D = L.D.step .settle by unfold LS.heed; split <;> rfl]
          exact DS.run_len L.D [.settle]
      rw [h2, h1, hN, hh]
theorem quiet_of {L : LS} {r : Nat} {H : Hom} {fs gs : List (List Ent)} (R : RunL L.calm l r H fs gs) (h : L.D.left = none) : RunL L l r H fs gs := by
  have h0 : L.calm = L := by unfold LS.calm DS.calm; rw [← h]
  rwa [h0] at R
theorem heed_D (L : LS) : L.heed.D = L.D := by unfold LS.heed; split <;> rfl
theorem balance_len (L : LS) : L.balance.D.T.length = L.D.T.length := by
  unfold LS.balance
  split
  · rfl
  · rw [heed_D]
    unfold LS.balanced
    split
    · exact DS.run_len L.D [.settle]
    · rw [next_len]; exact DS.run_len L.D [.settle]
theorem write_len (L : LS) (e : List Ent) : (L.write e).D.T.length = L.D.T.length := by
  have hb : L.balanced.D.T.length = L.D.T.length := by
    unfold LS.balanced
    split
    · exact DS.run_len L.D [.settle]
    · rw [next_len]; exact DS.run_len L.D [.settle]
  unfold LS.write
  split
  · split
    · rfl
    · split
      · rfl
      · rw [heed_D]
        unfold LS.post
        split
        · split
          · exact hb
          · rw [layP_D, DS.run_len, hb]
        · rw [layP_D, DS.run_len]
  · rfl
theorem sail_balance (x : Sail w0 lp d l h t q P N w) (ht : t ≤ 200) (hl : 2 + l + h ≤ 120) : Calls Tryz.prog 58 #[.pointer (some ⟨lp, 0, none⟩)] w fun y w' => KeptL w w' ∧ ((y = .returned (.int .i64 0) ∧ Sail w0 lp d l h (t + 1) q (fun X => X = N) N w') ∨ (y = .returned (.int .i64 4) ∧ q = false ∧ Sunk w0 d l h (t + 1) P w')) := by
  obtain ⟨g, b, L, r, H, fs, gs, A, hd, R, hq, hP, hN, hh, hr, hc, hx⟩ := x
  have hok := calm_ok (R.live.ok (by rw [List.length_append]; omega))
  refine (lbalance_any A hok (by omega)).mono ?_
  rintro y w' ⟨rfl, M⟩
  obtain ⟨b', A'⟩ := M.1
  have htu := balance_turns L
  have hws : L.ws.length = h := by have h1 : L.ws.length = (tookHs H gs).length := R.live.hlen; rw [h1, hN, hh]
  have hlost : L.lost = false := R.live.lost
  rw [hws] at htu
  have eE : L.balanceE = L.balanced.D.bad := by unfold LS.balanceE; rw [hlost]; rfl
  have eB : L.balance = L.balanced.heed := by unfold LS.balance; rw [hlost]; rfl
  refine ⟨M.2.1, ?_⟩
  rcases balanced_break hd R (by omega) with ⟨e2, e3⟩ | ⟨e2, e3, e4⟩
  · have eh : L.balance = L.balanced := by rw [eB]; unfold LS.heed; rw [e2]; rfl
    rw [← eh] at e2 e3
    refine .inl ⟨by rw [eE, ← eh, bad_up e2]; rfl, g, b', L.balance, r + 1, _, [], [], A', e2, e3, fun hqq => ?_, fun X ⟨j, hj, hX⟩ => ?_, hN, hh, by omega, by simp, by omega⟩
    · exact (balance_live (quiet_of R (hq hqq)).live (by omega)).2.1.quiet.left
    · have : j = 0 := Nat.le_zero.1 hj
      subst this
      rw [hX]
      exact hN
  · refine .inr ⟨by rw [eE, bad_down e3]; rfl, ?_, b', L.balance.D, A'.st, by rw [eB, heed_D]; exact e3, by rw [eB, heed_D]; exact e4.mono hP (by omega), ?_, by omega⟩
    · cases q with
      | false => rfl
      | true => exact absurd (hq rfl) e2
    · have h1 := R.recE.len
      rw [DS.seen_length] at h1
      rw [balance_len, h1, hN, hh]
theorem heed_ws (L : LS) : L.heed.ws = L.ws := by unfold LS.heed; split <;> rfl
theorem next_ws (L : LS) : L.next.ws.length = L.ws.length := by
  unfold LS.next
  simp only
  split
  · rfl
  · simp
theorem balanced_ws (L : LS) : L.balanced.ws.length = L.ws.length := by
  unfold LS.balanced
  split
  · rfl
  · rw [next_ws]
theorem layP_ws (L : LS) (e : List Ent) : (L.layP e).ws.length = L.ws.length := by
  unfold LS.layP
  simp only
  split
  · rfl
  · simp [took_length]
theorem write_ws (L : LS) (e : List Ent) : (L.write e).ws.length = L.ws.length := by
  unfold LS.write
  split
  · split
    · rfl
    · split
      · rfl
      · rw [heed_ws]
        unfold LS.post
        split
        · split
          · exact balanced_ws L
          · rw [layP_ws, balanced_ws]
        · rw [layP_ws]
  · rfl
theorem heed_lost {L : LS} (h : L.heed.D.down = true) : L.heed.lost = true := by
  rw [heed_D] at h
  unfold LS.heed
  rw [h]
  rfl
theorem write_lost {L : LS} {e : List Ent} (h : (L.write e).D.down = true) (h0 : L.D.down = false) : (L.write e).lost = true := by
  unfold LS.write at h ⊢
  split
  · split
    · rename_i q1 q2
      rw [if_pos q1, if_pos q2] at h
      rw [h0] at h
      cases h
    · split
      · rename_i q1 q2 q3
        rw [if_pos q1, if_neg q2, if_pos q3, h0] at h
        cases h
      · rename_i q1 q2 q3
        rw [if_pos q1, if_neg q2, if_neg q3] at h
        exact heed_lost h
  · rename_i q1
    rw [if_neg q1, h0] at h
    cases h
/-- What Write answers. -/
def Writes (w0 : Fr) (lp d l h t : Nat) (q : Bool) (P : Hom → Prop) (N : Hom) (e : List Ent) (E : Nat) (w' : World) : Prop :=
  (E = 1 ∧ ¬ Goes e h ∧ Sail w0 lp d l h (t + 1) q P N w') ∨ (E = 5 ∧ l < leavesOf e.length ∧ Sail w0 lp d l h (t + 1) q P N w') ∨ (E = 0 ∧ Goes e h ∧ Sail w0 lp d l h (t + 1) q (fun X => P X ∨ X = tookH N e) (tookH N e) w') ∨ (E = 4 ∧ q = false ∧ Goes e h ∧ Sunk w0 d l h (t + 1) (fun X => P X ∨ X = tookH N e) w' ∧ ∃ g L', Blk w' lp 129 (lhead d g L') ∧ L'.ws.length = h ∧ L'.lost = true)
theorem sail_write (x : Sail w0 lp d l h t q P N w) (ht : t ≤ 200) (hl : 2 + l + h ≤ 120) (a : Option Addr) (e : List Ent) (len cap : Nat) (En : Ents w a e) (hlen : e.length = len) (hlm : len ≤ 60) (hT : ∀ x ∈ e, Trk x.2) :
    Calls Tryz.prog 44 #[.pointer (some ⟨lp, 0, none⟩), .slice a len cap] w fun y w' => ∃ E : Nat, y = .returned (.int .i64 (E : Int)) ∧ KeptL w w' ∧ Writes w0 lp d l h t q P N e E w' := by
  obtain ⟨g, b, L, r, H, fs, gs, A, hd, R, hq, hP, hN, hh, hr, hc, hx⟩ := x
  have hok := calm_ok (R.live.ok (by rw [List.length_append]; omega))
  have hws : L.ws.length = h := by have h1 : L.ws.length = (tookHs H gs).length := R.live.hlen; rw [h1, hN, hh]
  have hHl : H.length = h := by rw [← hh, ← hN, tookHs_length]
  have a1 : L.round = r := R.live.round
  have a2 : L.posts = (fs ++ gs).length := R.live.count
  have hwt := write_turns L e
  rw [hws, hlen] at hwt
  have hle := leavesOf_le len
  refine (write_any A hok (by rw [a1]; omega) (by rw [a2, List.length_append]; omega) (by omega) a e len cap En hlen (by omega)).mono ?_
  rintro y w' ⟨rfl, M⟩
  obtain ⟨b', A'⟩ := M.1
  refine ⟨_, rfl, M.2.1, ?_⟩
  rcases write_break hd R (by omega) hT with ⟨e1, e2, e9⟩ | ⟨e1, e2, e9⟩ | ⟨e1, hg, e2, r', H', fs', gs', k1, k2, k3, k4, k5⟩ | ⟨e1, hg, e2, e3, e4⟩
  · rw [e2] at A'
    exact .inl ⟨e1, by rw [← hHl]; exact e9, g, b', L, r, H, fs, gs, A', hd, R, hq, hP, hN, hh, by omega, by omega, by omega⟩
  · rw [e2] at A'
    exact .inr (.inl ⟨e1, e9, g, b', L, r, H, fs, gs, A', hd, R, hq, hP, hN, hh, by omega, by omega, by omega⟩)
  · rw [hN] at k3 k5
    refine .inr (.inr (.inl ⟨e1, by rw [← hHl]; exact hg, g, b', L.write e, r', H', fs', gs', A', e2, k2, fun hqq => ?_, fun X hX => ?_, k3, by rw [tookH_length, hh], by omega, by omega, by omega⟩))
    · rcases write_live (quiet_of R (hq hqq)).live (e := e) (by omega) hT with ⟨q1, q2, _⟩ | ⟨q1, q2, _⟩ | ⟨q1, q2, _, _, _, _, q5⟩
      · rw [q2]; exact hq hqq
      · rw [q2]; exact hq hqq
      · exact q5.quiet.left
    · rcases k5 X hX with c | c
      · exact .inl (hP X c)
      · exact .inr c
  · rw [hN] at e4
    refine .inr (.inr (.inr ⟨e1, ?_, by rw [← hHl]; exact hg, ⟨b', (L.write e).D, A'.st, e3, e4.mono (fun X hX => ?_) (by omega), ?_, by omega⟩, g, L.write e, A'.head, by rw [write_ws, hws], write_lost e3 hd⟩))
    · cases q with
      | false => rfl
      | true => exact absurd (hq rfl) e2
    · rcases hX with c | c
      · exact .inl (hP X c)
      · exact .inr c
    · have h1 := R.recE.len
      rw [DS.seen_length] at h1
      rw [write_len, h1, hN, hh]
theorem sail_break (x : Sail w0 lp d l h t q P N w) (n : Int) (hn : n ≤ 1000) : Calls Tryz.prog 24 #[.pointer (some ⟨d, 0, none⟩), .int .i64 n] w fun y w' => y = .returned (.tuple #[]) ∧ KeptL w w' ∧ Sail w0 lp d l h t false P N w' := by
  obtain ⟨g, b, L, r, H, fs, gs, A, hd, R, hq, hP, hN, hh, hr, hc, hx⟩ := x
  refine (break_st A.st n hn).mono ?_
  rintro y w' ⟨rfl, M⟩
  obtain ⟨b', A'⟩ := A.next M
  exact ⟨rfl, .of_kept M.2.1, g, b', _, r, H, fs, gs, A', hd, R, (fun q => by cases q), hP, hN, hh, hr, hc, hx⟩
theorem fell_break (x : Fell w0 d l h t q P w) (n : Int) (hn : n ≤ 1000) : Calls Tryz.prog 24 #[.pointer (some ⟨d, 0, none⟩), .int .i64 n] w fun y w' => y = .returned (.tuple #[]) ∧ KeptL w w' ∧ Fell w0 d l h t false P w' := by
  obtain ⟨b, D, r, H, es, S, hd, hA, hq, R, hP, hh, hr, hx⟩ := x
  refine (break_st S n hn).mono ?_
  rintro y w' ⟨rfl, M⟩
  obtain ⟨b', S'⟩ := M.1
  exact ⟨rfl, .of_kept M.2.1, b', _, r, H, es, S', hd, hA, (fun q => by cases q), R, hP, hh, hr, hx⟩
theorem wreck_fall (x : Wreck w0 d l h t P w) (ht : t ≤ 300) (a : Option Addr) (ys : List Int) (len cap : Nat) (torn cut : Int) (hI : HasI w a ys) (hlen : ys.length = len) (hlm : len ≤ 1000) :
    Calls Tryz.prog 26 #[.pointer (some ⟨d, 0, none⟩), .slice a len cap, .int .i64 torn, .int .i64 cut] w fun y w' => y = .returned (.tuple #[]) ∧ KeptL w w' ∧ Fell w0 d l h t true P w' := by
  obtain ⟨b, D, S, C, hl, hx⟩ := x
  refine (fall_st S (by omega) a ys len cap torn cut hI hlen (by omega)).mono ?_
  rintro y w' ⟨rfl, M⟩
  obtain ⟨b', S'⟩ := M.1
  obtain ⟨r, H, es, R, hP, hr⟩ := C (partOf ys torn cut) (partOf_le ys torn cut)
  have hR : RecE (D.fall (partOf ys torn cut)).seen l r H es := R
  refine ⟨rfl, .of_kept M.2.1, b', _, r, H, es, S', rfl, rfl, fun _ => rfl, hR, hP, ?_, hr, hx⟩
  have h1 := R.len
  rw [falls_length] at h1
  have h2 : D.T.length = 2 + l + h := hl
  have h3 : D.ta.1.length = 2 + l + h := hl
  omega
theorem sail_broken (x : Sail w0 lp d l h t q P N w) : Calls Tryz.prog 25 #[.pointer (some ⟨d, 0, none⟩)] w fun y w' => y = .returned (.bool false) ∧ w = w' := by
  obtain ⟨g, b, L, r, H, fs, gs, A, hd, _⟩ := x
  refine (broken_any d b L.D _ w A.st.dr.at_).mono ?_
  rintro y w' ⟨rfl, rfl⟩
  exact ⟨by rw [hd], rfl⟩
theorem sunk_broken (x : Sunk w0 d l h t P w) : Calls Tryz.prog 25 #[.pointer (some ⟨d, 0, none⟩)] w fun y w' => y = .returned (.bool true) ∧ w = w' := by
  obtain ⟨b, D, S, hd, _⟩ := x
  refine (broken_any d b D _ w S.dr.at_).mono ?_
  rintro y w' ⟨rfl, rfl⟩
  exact ⟨by rw [hd], rfl⟩
/-- Open, no break being set. -/
theorem fell_open (x : Fell w0 d l h t true P w) (ht : t ≤ 200) (hl : 2 + l + h ≤ 120) : Calls Tryz.prog 47 #[.pointer (some ⟨d, 0, none⟩)] w fun y w' => ∃ mp N, y = .returned (.tuple #[.pointer (some ⟨mp, 0, none⟩), .int .i64 0]) ∧ P N ∧ Sail w0 mp d l h (t + 1) true (fun X => X = N) N w' ∧ KeptL w w' := by
  obtain ⟨b, D, r, H, es, S, hd, hA, hq, R, hP, hh, hr, hx⟩ := x
  obtain ⟨hk, ⟨e1, e2, e3, e4⟩ | ⟨e1, e2, _⟩⟩ := open_break hd hA R (by omega)
  · have htn := openL_turns (D := D) (k := r % 2)
    have hTl : D.T.length = 2 + l + H.length := by rw [← DS.seen_length]; exact R.len
    have hlv := open_live ⟨hq rfl, hd⟩ R (by omega)
    refine (open_any S (by omega)).mono ?_
    rintro y w' ⟨K, _, ⟨b', _, hne, _⟩ | ⟨k, mp, g', b', hk', _, _, rfl, A'⟩⟩
    · exact absurd e1 hne
    · obtain rfl : r % 2 = k := by rw [hk] at hk'; injection hk'
      refine ⟨mp, H, rfl, hP, ⟨g', b', _, r + 1, H, [], [], A', e3, e4, fun _ => hlv.2.2.2.1.quiet.left, fun X ⟨j, hj, hX⟩ => ?_, rfl, hh, by omega, by simp, by omega⟩, K⟩
      have : j = 0 := Nat.le_zero.1 hj
      subst this
      exact hX
  · exact absurd (hq rfl) e2
/-- Open, while it may break: whatever it answers. -/
theorem fell_open_any (x : Fell w0 d l h t q P w) (ht : t ≤ 200) (hl : 2 + l + h ≤ 120) : Calls Tryz.prog 47 #[.pointer (some ⟨d, 0, none⟩)] w fun y w' => ∃ a b, y = .returned (.tuple #[a, b]) ∧ Wreck w0 d l h (t + 1) P w' ∧ KeptL w w' := by
  obtain ⟨b, D, r, H, es, S, hd, hA, hq, R, hP, hh, hr, hx⟩ := x
  have htn := openL_turns (D := D) (k := r % 2)
  have hTl : D.T.length = 2 + l + H.length := by rw [← DS.seen_length]; exact R.len
  have hlen : (openL D (r % 2)).D.T.length = D.T.length := by
    show (LS.counted D (r % 2)).reads.next.D.T.length = _
    rw [next_len]
    rfl
  refine (open_any S (by omega)).mono ?_
  obtain ⟨hk, ⟨e1, e2, e3, e4⟩ | ⟨e1, e2, e3, e4⟩⟩ := open_break hd hA R (by omega)
  · rintro y w' ⟨K, _, ⟨b', _, hne, _⟩ | ⟨k, mp, g', b', hk', _, _, rfl, A'⟩⟩
    · exact absurd e1 hne
    · obtain rfl : r % 2 = k := by rw [hk] at hk'; injection hk'
      refine ⟨_, _, rfl, ⟨b', _, A'.st, e4.crash.mono (fun X ⟨j, hj, hX⟩ => ?_) (by omega), by rw [hlen, hTl, hh], by omega⟩, K⟩
      have : j = 0 := Nat.le_zero.1 hj
      subst this
      rw [hX]
      exact hP
  · rintro y w' ⟨K, _, ⟨b', rfl, hne, S'⟩ | ⟨k, mp, g', b', hk', h0, _, rfl, A'⟩⟩
    · have eD : openD D = (openL D (r % 2)).D := by unfold openD; rw [hd, hk]; rfl
      refine ⟨_, _, rfl, ⟨b', _, S', e4.mono (fun X hX => by rw [hX]; exact hP) (by omega), by rw [eD, hlen, hTl, hh], by rw [eD]; omega⟩, K⟩
    · rw [e1] at h0; cases h0
/-- Opened again. -/
theorem sail_open (x : Sail w0 lp d l h t true P N w) (ht : t ≤ 200) (hl : 2 + l + h ≤ 120) : Calls Tryz.prog 47 #[.pointer (some ⟨d, 0, none⟩)] w fun y w' => ∃ mp, y = .returned (.tuple #[.pointer (some ⟨mp, 0, none⟩), .int .i64 0]) ∧ Sail w0 mp d l h (t + 1) true (fun X => X = N) N w' ∧ KeptL w w' := by
  obtain ⟨g, b, L, r, H, fs, gs, A, hd, R, hq, hP, hN, hh, hr, hc, hx⟩ := x
  have R' := quiet_of R (hq rfl)
  have hRe : RecE L.D.seen l r N (fs ++ gs) := by have := R'.live.live.is; rwa [hN] at this
  obtain ⟨e1, e2, e3, e4, e5⟩ := open_live R'.live.quiet hRe (by omega)
  have hTl : L.D.T.length = 2 + l + N.length := by rw [← DS.seen_length]; exact hRe.len
  have htn := openL_turns (D := L.D) (k := r % 2)
  refine (open_any A.st (by omega)).mono ?_
  rintro y w' ⟨K, _, ⟨b', _, hne, _⟩ | ⟨k, mp, g', b', hk, _, _, rfl, A'⟩⟩
  · exact absurd e2 hne
  · obtain rfl : r % 2 = k := by rw [e1] at hk; injection hk
    have h0 : (openL L.D (r % 2)).calm = openL L.D (r % 2) := by unfold LS.calm DS.calm; rw [← e4.quiet.left]
    refine ⟨mp, rfl, ⟨g', b', _, r + 1, N, [], [], A', e4.quiet.down, by rw [h0]; exact RunL.fresh e4 e5, fun _ => e4.quiet.left, fun X ⟨j, hj, hX⟩ => ?_, rfl, hh, by omega, by simp, by omega⟩, K⟩
    have : j = 0 := Nat.le_zero.1 hj
    subst this
    exact hX
theorem sail_size (x : Sail w0 lp d l h t q P N w) : Calls Tryz.prog 48 #[.pointer (some ⟨lp, 0, none⟩)] w fun y w' => y = .returned (.int .i64 (h : Int)) ∧ w = w' := by
  obtain ⟨g, b, L, r, H, fs, gs, A, hd, R, hq, hP, hN, hh, hr, hc, hx⟩ := x
  have hws : L.ws.length = h := by have h1 : L.ws.length = (tookHs H gs).length := R.live.hlen; rw [h1, hN, hh]
  refine (home_any A.head).mono ?_
  rintro y w' ⟨rfl, rfl⟩
  exact ⟨by rw [hws], rfl⟩
end
end Go.Proofs.YtjajenkagcdhlaaGreat
