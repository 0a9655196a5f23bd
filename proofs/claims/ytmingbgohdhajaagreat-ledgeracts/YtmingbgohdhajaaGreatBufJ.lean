/- Bytes that are appended to: nil, or a row of one's own; ledger.put, number, closed, layCover. -/
import Derived.Test.YtmingbgohdhajaaGreatSealJ
import Derived.Laws.Strings
import Derived.Lib.SliceRun
namespace Go.Proofs.YtmingbgohdhajaaGreat
open Go.RowKit
set_option maxRecDepth 100000
set_option linter.unusedSimpArgs false

theorem Grows.old {w w' : World} {g c : Nat} {xs : List Nat} (h : Grows w g c xs) (m : Old w w') : Grows w' g c xs := by
  obtain ⟨rest, hg, hl⟩ := h.row
  exact ⟨h.byte, rest, by rw [m.block g h.own.lt (fun h => h)]; exact hg, hl⟩

/-- A slice that is nil, or a row of one's own, not older than B. -/
def Mine (w : World) (B : Nat) (v : Value) (xs : List Nat) : Prop := (v = .slice none 0 0 ∧ xs = []) ∨ ∃ g c, v = .slice (some ⟨g, 0, none⟩) xs.length c ∧ B ≤ g ∧ Grows w g c xs
/-- The block of a slice. -/
def blk (v : Value) (k : Nat) : Prop := v.ownBlock = some k
theorem Mine.byte {w : World} {B : Nat} {v : Value} {xs : List Nat} (h : Mine w B v xs) : ∀ x ∈ xs, x < 256 := by
  rcases h with ⟨_, rfl⟩ | ⟨g, c, _, _, G⟩
  · exact fun _ h => by cases h
  · exact G.byte
theorem Mine.form {w : World} {B : Nat} {v : Value} {xs : List Nat} (h : Mine w B v xs) : ∃ a c, v = .slice a xs.length c ∧ xs.length ≤ c ∧ Has w a xs := by
  rcases h with ⟨rfl, rfl⟩ | ⟨g, c, rfl, _, G⟩
  · exact ⟨none, 0, rfl, Nat.le_refl _, Has.nil _ _⟩
  · refine ⟨_, c, rfl, ?_, G.own.has⟩
    obtain ⟨_, _, hl⟩ := G.row
    omega
theorem Mine.nil (w : World) (B : Nat) : Mine w B (.slice none 0 0) [] := .inl ⟨rfl, rfl⟩
theorem Mine.touch {S : Nat → Prop} {w w' : World} {B : Nat} {v : Value} {xs : List Nat} (h : Mine w B v xs) (m : Touch S w w') (hn : ∀ k, blk v k → ¬ S k) : Mine w' B v xs := by
  rcases h with h | ⟨g, c, rfl, hb, G⟩
  · exact .inl h
  · refine .inr ⟨g, c, rfl, hb, G.byte, ?_⟩
    obtain ⟨rest, hg, hl⟩ := G.row
    exact ⟨rest, by rw [m.block g G.own.lt (hn g rfl)]; exact hg, hl⟩
theorem Mine.old {w w' : World} {B : Nat} {v : Value} {xs : List Nat} (h : Mine w B v xs) (m : Old w w') : Mine w' B v xs := h.touch m (fun _ _ q => q)
theorem Mine.lt {w : World} {B : Nat} {v : Value} {xs : List Nat} (h : Mine w B v xs) : ∀ k, blk v k → B ≤ k ∧ k < w.heap.size := by
  rcases h with ⟨rfl, _⟩ | ⟨g, c, rfl, hb, G⟩
  · intro k hk; cases hk
  · intro k hk
    have : g = k := by injection hk
    subst this
    exact ⟨hb, G.own.lt⟩
theorem Mine.less {w : World} {B B' : Nat} {v : Value} {xs : List Nat} (h : Mine w B v xs) (hB : B' ≤ B) : Mine w B' v xs := by
  rcases h with h | ⟨g, c, e, hb, G⟩
  · exact .inl h
  · exact .inr ⟨g, c, e, by omega, G⟩
/-- Nothing older than B turned. -/
theorem Touch.blk_old {w0 w w' : World} {v : Value} {B : Nat} {xs : List Nat} (h : Old w0 w) (hB : w0.heap.size ≤ B) (M : Mine w B v xs) (t : Touch (blk v) w w') : Old w0 w' :=
  ⟨t.os.trans h.os, t.tape.trans h.tape, t.output.trans h.output, Nat.le_trans h.size t.size, fun k hk hn => (t.block k (Nat.lt_of_lt_of_le hk h.size) (fun q => by have := (M.lt k q).1; omega)).trans (h.block k hk hn)⟩

/-- What an append makes of a slice of one's own. -/
structure Put (w : World) (B : Nat) (v : Value) (xs : List Nat) (v' : Value) (w' : World) : Prop where
  mine : Mine w' B v' xs
  touch : Touch (blk v) w w'
  same : ∀ k, blk v' k → blk v k ∨ w.heap.size ≤ k

theorem mine_append (w : World) (B : Nat) (v : Value) (xs ys : List Nat) (a : Option Addr) (len cap : Nat) (h : Mine w B v xs) (hB : B ≤ w.heap.size) (hH : Has w a ys) (hlen : ys.length = len) (hm : xs.length + len ≤ 140737488355328) :
    ∃ v' w', (∀ ty, (Builtin.append_ #[61, 61] ty #[v, .slice a len cap]).run Tryz.prog w = .ok v' w') ∧ Put w B v (xs ++ ys) v' w' := by
  rcases h with ⟨rfl, rfl⟩ | ⟨g, c, rfl, hb, G⟩
  · obtain ⟨i0, hi, hz0, hz1, hz2⟩ := info_parts info5
    have hs : Src Tryz.prog i0.size 61 (.slice a len cap) len (cells ys) w := by rw [hz1]; exact hH.src hlen
    rcases Nat.eq_zero_or_pos len with h0 | h0
    · subst h0
      have hx : ys = [] := List.eq_nil_of_length_eq_zero hlen
      subst hx
      refine ⟨.slice none 0 0, w, fun ty => ?_, .inl ⟨rfl, rfl⟩, Touch.refl _ _, fun k hk => .inl hk⟩
      rcases hs.kind with ⟨e', hk⟩ | hk
      · simp [Builtin.append_, run_underlying Tryz.underlying61, run_underlying hk, sizeOf, typeInfo, hi, hs.len, hs.cells]
      · simp [Builtin.append_, run_underlying Tryz.underlying61, run_underlying hk, sizeOf, typeInfo, hi, hs.len, hs.cells]
    · have hr := fun ty => run_append_grow_src (P := Tryz.prog) w 61 61 ty 5 i0 (.int .u8 0) Tryz.underlying61 hi hz0 none 0 0 []
        (run_firstCells_none (P := Tryz.prog) _ i0.size 0 0 0) (.slice a len cap) len _ hs (by omega) (by omega) (growslice_fits (by omega) (by rw [hz2]; omega))
      simp only [Nat.zero_add, List.nil_append] at hr
      have hge := grownCap_ge w len 0 5
      refine ⟨_, _, hr, .inr ⟨_, _, by rw [List.nil_append, hlen], hB, by rw [List.nil_append]; exact hH.byte, (Builtin.zeroCells (Value.int .u8 0).cells (grownCap w len 0 5 - len)).toList, ?_, ?_⟩, ((Touch.refl _ w).drew).alloc _, fun k hk => .inr ?_⟩
      · rw [show w.heap.size = w.drew.heap.size from rfl, heap_alloc_new]
        congr 2
        apply Array.ext'
        simp only [Array.toList_append, List.nil_append]
      · rw [zero_length, List.nil_append]; omega
      · have : w.heap.size = k := by injection hk
        omega
  · obtain ⟨g', c', w', hr, hg', G', T'⟩ := append_onto w g c xs.length xs ys a len cap G hH rfl hlen hm
    refine ⟨_, w', hr, .inr ⟨g', c', by rw [List.length_append, hlen], ?_, G'⟩, T'.mono (fun k _ hk => by subst hk; rfl), fun k hk => ?_⟩
    · rcases hg' with h | h <;> omega
    · have e : g' = k := by injection hk
      subst e
      rcases hg' with h | h
      · left; subst h; rfl
      · exact .inr h

theorem wrap_nat {n : Nat} (h : n ≤ 140737488355328) : IntKind.i64.wrap (n : Int) = n := by rw [IntKind.wrap_i64]; omega
theorem zeroCells_bytes (n : Nat) : Builtin.zeroCells (Value.int .u8 0).cells n = (cells (zeros n)).toArray := by
  rw [← made_zeros]
  unfold Builtin.zeroCells madeCells
  rw [show (Value.int .u8 0).cells.size = 1 from rfl, Nat.mul_one]

/-- 'append(x, make([]byte, n)...)'. -/
theorem mine_zeros (w : World) (B : Nat) (v : Value) (xs : List Nat) (n : Nat) (h : Mine w B v xs) (hB : B ≤ w.heap.size) (hm : xs.length + n ≤ 140737488355328) :
    ∃ v' w', (∀ ty, (Builtin.append_ #[61, 3] ty #[v, .int .i64 n]).run Tryz.prog w = .ok v' w') ∧ Put w B v (xs ++ zeros n) v' w' := by
  obtain ⟨i0, hi, hz0, hz1, hz2⟩ := info_parts info5
  have hw := wrap_nat (n := n) (by omega)
  have hneg : ¬ ((n : Int) < 0) := by omega
  have h48 : ¬ (281474976710656 < (n : Int) * (i0.bytes : Int)) := by rw [hz2]; omega
  have hby : ∀ x ∈ xs ++ zeros n, x < 256 := fun x hx => by
    rcases List.mem_append.1 hx with h1 | h1
    · exact h.byte x h1
    · exact zeros_byte n x h1
  rcases Nat.eq_zero_or_pos n with h0 | h0
  · subst h0
    refine ⟨v, w, fun ty => ?_, by rw [show zeros 0 = [] from rfl, List.append_nil]; exact h, Touch.refl _ _, fun k hk => .inl hk⟩
    obtain ⟨a, c, rfl, hc, _⟩ := h.form
    have hw0 : IntKind.i64.wrap 0 = 0 := rfl
    cases a with
    | none => simp [Builtin.append_, run_underlying Tryz.underlying61, run_underlying Tryz.underlying3, sizeOf, typeInfo, hi, hc, asInt, asIntOf, hw0]
    | some a => simp [Builtin.append_, run_underlying Tryz.underlying61, run_underlying Tryz.underlying3, sizeOf, typeInfo, hi, hc, asInt, asIntOf, hw0, storeCells]
  · have hns : ¬ (n * i0.size = 0) := by rw [hz1]; omega
    have hns' : n ≠ 0 := by omega
    by_cases hroom : ∃ g c, v = .slice (some ⟨g, 0, none⟩) xs.length c ∧ xs.length + n ≤ c
    · obtain ⟨g, c, rfl, hr⟩ := hroom
      rcases h with ⟨e, _⟩ | ⟨g', c', e, hb, G⟩
      · cases e
      · obtain ⟨rfl, rfl⟩ : g' = g ∧ c' = c := by
          injection e with e1 e2 e3
          injection e1 with e1
          injection e1 with e1
          exact ⟨e1.symm, e3.symm⟩
        obtain ⟨rest, hg, hl⟩ := G.row
        have K : Blk w g' 5 (cells xs ++ rest) := hg
        have hst := run_storeCells_cells (P := Tryz.prog) g' (xs.length * 1) (cells (zeros n)) 0 w
          (fun j hj => by rw [K.cell, List.getElem?_eq_getElem (by rw [cells_length, zeros_length] at hj; rw [List.length_append, cells_length]; omega)]; rfl)
          (fun j _ => K.frozen _) (cells_one _)
        simp only [Nat.add_zero] at hst
        have hz : (zeroCells_bytes n) = (zeroCells_bytes n) := rfl
        refine ⟨.slice (some ⟨g', 0, none⟩) (xs.length + n) c', w.setCells g' (xs.length * 1) (cells (zeros n)), fun ty => ?_, .inr ⟨g', c', by rw [List.length_append, zeros_length], hb, hby, rest.drop n, ?_, ?_⟩, (setCells_touch g' _ _ _).mono (fun k _ hk => by subst hk; rfl), fun k hk => .inl hk⟩
        · simp [Builtin.append_, run_underlying Tryz.underlying61, run_underlying Tryz.underlying3, sizeOf, typeInfo, zeroValue, hi, hz0, hz1, hw, hneg, h48, hr, hns', asInt, asIntOf, zeroCells_bytes, Addr.add_lit]
          rw [Nat.mul_one] at hst
          rw [hst]
          rfl
        · have := Blk.setCells (cells (zeros n)) (xs.length * 1) _ w K (by rw [cells_length, zeros_length, List.length_append, cells_length]; omega)
          rw [Nat.mul_one] at this
          rw [Nat.mul_one]
          unfold Blk at this
          rw [this]
          congr 2
          unfold splice
          rw [cells_append]
          rw [List.take_append_of_le_length (by rw [cells_length]; omega), List.take_of_length_le (by rw [cells_length]; omega), List.drop_append, List.drop_eq_nil_of_le (by simp only [cells_length]; omega)]
          simp only [cells_length, zeros_length, List.nil_append]
          rw [show xs.length + n - xs.length = n by omega, List.append_assoc]
        · rw [List.length_append, zeros_length, List.length_drop]; omega
    · obtain ⟨a, c, e, hold, hcap⟩ : ∃ a c, v = .slice a xs.length c ∧ (Builtin.firstCells i0.size xs.length (.slice a xs.length c)).run Tryz.prog w.drew = .ok (cells xs).toArray w.drew ∧ c < xs.length + n := by
        rcases h with ⟨rfl, rfl⟩ | ⟨g, c, rfl, hb, G⟩
        · exact ⟨none, 0, rfl, run_firstCells_none (P := Tryz.prog) _ i0.size 0 0 0, by simp; omega⟩
        · refine ⟨_, c, rfl, run_firstCells_some (P := Tryz.prog) _ i0.size xs.length ⟨g, 0, none⟩ xs.length c (cells xs) (by rw [cells_length, hz1, Nat.mul_one]) (fun j u hu => ?_), ?_⟩
          · have hj : j < xs.length := by
              rcases Nat.lt_or_ge j (cells xs).length with h | h
              · rwa [cells_length] at h
              · rw [List.getElem?_eq_none h] at hu; cases hu
            rw [cells_get xs j hj] at hu
            cases hu
            rw [show (⟨g, 0, none⟩ : Addr).add j = ⟨g, j, none⟩ by unfold Addr.add; split <;> simp_all]
            exact G.own.cell j hj
          · exact Nat.lt_of_not_le (fun q => hroom ⟨g, c, rfl, q⟩)
      have hfit := growslice_fits (need := xs.length + n) (old := c) (bytes := i0.bytes) hcap (by rw [hz2]; omega)
      have hge := grownCap_ge w (xs.length + n) c 5
      have hn : ¬ (xs.length + n ≤ c) := by omega
      have h63' : ¬ (9223372036854775807 < ((xs.length : Int) + (n : Int))) := by omega
      have h48' : ¬ (281474976710656 < Builtin.nextslicecap (xs.length + n) c * i0.bytes) := by omega
      refine ⟨.slice (some ⟨w.heap.size, 0, none⟩) (xs.length + n) (grownCap w (xs.length + n) c 5), w.drew.alloc (.cells (cells (xs ++ zeros n) ++ cells (zeros (grownCap w (xs.length + n) c 5 - (xs.length + n)))).toArray 5), fun ty => ?_, .inr ⟨_, _, by rw [List.length_append, zeros_length], hB, hby, cells (zeros (grownCap w (xs.length + n) c 5 - (xs.length + n))), ?_, ?_⟩, ((Touch.refl _ w).drew).alloc _, fun k hk => .inr ?_⟩
      · rw [e]
        simp [Builtin.append_, run_underlying Tryz.underlying61, run_underlying Tryz.underlying3, sizeOf, typeInfo, zeroValue, hi, hz0, hz1, hw, hneg, h48, hns', asInt, asIntOf, hn, h63', h48', Question.forced, newRow, grownCap, zeroCells_bytes]
        rw [hz1] at hold
        rw [hold]
        simp [cells_append]
      · rw [show w.heap.size = w.drew.heap.size from rfl, heap_alloc_new]
      · rw [List.length_append, zeros_length, cells_length, zeros_length]; omega
      · have : w.heap.size = k := by injection hk
        omega
end Go.Proofs.YtmingbgohdhajaaGreat
/- Contracts of ledger.put, number, closed, layCover, Leaves, fits. -/
namespace Go.Proofs.YtmingbgohdhajaaGreat
open Go.RowKit
set_option maxRecDepth 100000

theorem Put.refl {w : World} {B : Nat} {v : Value} {xs : List Nat} (h : Mine w B v xs) : Put w B v xs v w := ⟨h, Touch.refl _ _, fun _ h => .inl h⟩
theorem Put.trans {w w1 w2 : World} {B : Nat} {v v1 v2 : Value} {xs ys : List Nat} (h : Put w B v xs v1 w1) (k : Put w1 B v1 ys v2 w2) : Put w B v ys v2 w2 :=
  ⟨k.mine, ⟨k.touch.os.trans h.touch.os, k.touch.tape.trans h.touch.tape, k.touch.output.trans h.touch.output, Nat.le_trans h.touch.size k.touch.size, fun i hi hn => (k.touch.block i (Nat.lt_of_lt_of_le hi h.touch.size) (fun q => by
      rcases h.same i q with h1 | h1
      · exact hn h1
      · omega)).trans (h.touch.block i hi hn)⟩, fun i hi => by
    rcases k.same i hi with h1 | h1
    · exact h.same i h1
    · exact .inr (Nat.le_trans h.touch.size h1)⟩
theorem Put.ahead {w w0 w1 : World} {B : Nat} {v v1 : Value} {xs : List Nat} (o : Old w w0) (k : Put w0 B v xs v1 w1) : Put w B v xs v1 w1 :=
  ⟨k.mine, (Touch.of_old o).trans k.touch, fun i hi => by
    rcases k.same i hi with h1 | h1
    · exact .inl h1
    · exact .inr (Nat.le_trans o.size h1)⟩
theorem Put.behind {w w1 w2 : World} {B : Nat} {v v1 : Value} {xs : List Nat} (k : Put w B v xs v1 w1) (o : Old w1 w2) : Put w B v xs v1 w2 :=
  ⟨k.mine.old o, k.touch.trans (Touch.of_old o), k.same⟩
theorem Put.size {w w1 : World} {B : Nat} {v v1 : Value} {xs : List Nat} (k : Put w B v xs v1 w1) (hB : B ≤ w.heap.size) : B ≤ w1.heap.size := Nat.le_trans hB k.touch.size
/-- What came of nil turned nothing old. -/
theorem Put.of_nil {w w1 : World} {B : Nat} {v1 : Value} {xs : List Nat} (k : Put w B (.slice none 0 0) xs v1 w1) : Old w w1 := k.touch.mono (fun i _ hi => by cases hi)
theorem Put.fresh {w w1 : World} {B : Nat} {v1 : Value} {xs : List Nat} (k : Put w B (.slice none 0 0) xs v1 w1) : Mine w1 w.heap.size v1 xs := by
  have h := k.same
  rcases k.mine with h1 | ⟨g, c, e, hb, G⟩
  · exact .inl h1
  · refine .inr ⟨g, c, e, ?_, G⟩
    rcases h g (by rw [e]; rfl) with q | q
    · cases q
    · exact q

/-- One more byte. -/
theorem mine_more (w : World) (B : Nat) (v : Value) (xs : List Nat) (x : Nat) (h : Mine w B v xs) (hB : B ≤ w.heap.size) (hx : x < 256) (hl : xs.length ≤ 100000000) :
    ∃ v' w', (∀ ty, (Builtin.append_ #[61, 61] ty #[v, .slice (some ⟨w.heap.size, 0, none⟩) 1 1]).run Tryz.prog (w.alloc (.cells #[.int .u8 (x : Int)] 5)) = .ok v' w') ∧ Put w B v (xs ++ [x]) v' w' := by
  have T1 : Old w (w.alloc (.cells #[.int .u8 (x : Int)] 5)) := (Touch.refl _ w).alloc _
  have hH : Has (w.alloc (.cells #[.int .u8 (x : Int)] 5)) (some ⟨w.heap.size, 0, none⟩) [x] := Has.new w [x] (fun y hy => by simp at hy; omega) (0, 0)
  obtain ⟨v', w', hr, P⟩ := mine_append _ B v xs [x] _ 1 1 (h.old T1) (Nat.le_trans hB T1.size) hH rfl (by omega)
  exact ⟨v', w', hr, P.ahead T1⟩

set_option maxHeartbeats 1600000 in
theorem put_any (v : Value) (xs : List Nat) (n s B : Nat) (w : World) (h : Mine w B v xs) (hB : B ≤ w.heap.size) (hs : s ≤ 4) (_hn : n ≤ 140737488355328) (hl : xs.length ≤ 10000000) :
    Calls Tryz.prog 90 #[v, .int .i64 n, .int .i64 s] w fun e w' => ∃ v', e = .returned v' ∧ Put w B v (xs ++ high n s) v' w' := by
  have H0 : Hid (Put w B v (xs ++ (high n s).take (s - s)) v w) := by rw [Nat.sub_self, List.take_zero, List.append_nil]; exact Put.refl h
  clear h
  go_enter Tryz.func90, Tryz.ntmps90
  go_wp2_with fail
  go_loopw [0, 7] (fun a i wx => ∃ m : Nat, m ≤ s ∧ i = .int .i64 ((m : Int) - 1) ∧ Hid (Put w B v (xs ++ (high n s).take (s - m)) a wx)) (fun _ i _ => (intOf i + 1).toNat)
  case atStart => exact ⟨s, Nat.le_refl _, rfl, H0⟩
  case round =>
    obtain ⟨m, hm, rfl, HP⟩ := hrel
    clear H0
    have hB' := Lib.hid (HP.out.size hB)
    match m, hm with
    | 0, _ =>
      go_wp2_with fail
      go_ret
      refine ⟨_, rfl, ?_⟩
      have := HP.out
      rw [Nat.sub_zero, List.take_of_length_le (by rw [high_length]; exact Nat.le_refl _)] at this
      exact this
    | j + 1, hm =>
      obtain ⟨v', w', hap, P⟩ := mine_more wr B u0 _ (n / 256 ^ j % 256) HP.out.mine hB'.out (Nat.mod_lt _ (by decide)) (by rw [List.length_append, List.length_take, high_length]; omega)
      have hst := high_step n s (s - (j + 1)) (by omega)
      rw [show s - 1 - (s - (j + 1)) = j by omega, show s - (j + 1) + 1 = s - j by omega] at hst
      rw [List.append_assoc, ← hst] at P
      have HP' := Lib.hid (HP.out.trans P)
      clear P hst HP hB'
      have hj : j = 0 ∨ j = 1 ∨ j = 2 ∨ j = 3 := by omega
      rcases hj with rfl | rfl | rfl | rfl
      all_goals
        simp only [Nat.pow_zero, Nat.div_one, Nat.reducePow, Int.natCast_emod, Int.natCast_ediv, Int.cast_ofNat_Int] at hap
        go_wp2_with (first | (at_builtin; refine wpList_append_run rfl _ _ 61 61 rfl _ _ rfl rfl _ _ (hap _) ?_))
        exact ⟨⟨_, by omega, by rfl, HP'⟩, by simp [intOf]⟩
end Go.Proofs.YtmingbgohdhajaaGreat
/- Contracts of ledger.number, closed, layCover, Leaves, fits, bytes.Equal, slices.Clone. -/
namespace Go.Proofs.YtmingbgohdhajaaGreat
open Go.RowKit
set_option maxRecDepth 100000

theorem or_join64 (n c : Nat) (hn : n < 281474976710656) (hc : c < 256) : bits .or .i64 ((n : Int) * 256) (c : Int) = ((n * 256 + c : Nat) : Int) := by
  have := bits_join .i64 62 (by decide) (fun x h0 h1 => by rw [IntKind.wrap_i64]; omega) 8 ((n : Int) * 256) (c : Int) (by omega) (by omega) (by omega) (by omega) (by omega) (by omega)
  rw [this]
  omega

theorem number_any (a : Option Addr) (xs : List Nat) (len cap : Nat) (w : World) (h : Has w a xs) (hlen : xs.length = len) (hl : len ≤ 4) :
    Calls Tryz.prog 92 #[.slice a len cap] w fun e w' => e = .returned (.int .i64 (num xs len : Nat)) ∧ w = w' := by
  go_enter Tryz.func92, Tryz.ntmps92
  go_wp2
  go_loop [3, 8] (fun n i => ∃ k : Nat, k ≤ len ∧ i = .int .i64 k ∧ n = .int .i64 (num xs k : Nat)) (fun _ i => len - (intOf i).toNat)
  case atStart => exact ⟨0, by omega, rfl, rfl⟩
  case round =>
    obtain ⟨k, hk, rfl, rfl⟩ := hrel
    by_cases hlt : k < len
    · obtain ⟨b, off, rfl, hc⟩ := h.cell k (by omega)
      have h1 := num_small h.byte (k := k) (by omega)
      have h2 := at0_lt h.byte k
      have h3 := or_join64 (num xs k) (at0 xs k) (by omega) h2
      have h4 : num xs (k + 1) = num xs k * 256 + at0 xs k := rfl
      generalize num xs k = n at *
      generalize at0 xs k = c at *
      have hil : (k : Int) < (len : Int) := by omega
      have hil' : (0 : Int) ≤ (k : Int) := by omega
      go_wp2
      go_round
      case rel => exact ⟨k + 1, by omega, by go_num, by rw [h4]; simp⟩
      case measure => simp [intOf]; omega
    · obtain rfl : k = len := by omega
      go_wp2
      go_ret
      exact ⟨rfl, rfl⟩

/-- A call's answer: a new row of 96 bytes. -/
def Row96 (xs : List Nat) (w : World) (e : Ending) (w' : World) : Prop := ∃ g, e = .returned (.slice (some ⟨g, 0, none⟩) 96 96) ∧ w.heap.size ≤ g ∧ Own w' g xs ∧ Old w w'

theorem closed_any (a : Option Addr) (xs : List Nat) (len cap : Nat) (w : World) (h : Has w a xs) (hlen : xs.length = len) (hl : len ≤ 84) :
    Calls Tryz.prog 91 #[.slice a len cap] w (Row96 (track xs) w) := by
  have H := Lib.hid (close_any a xs len cap w h hlen hl)
  clear h
  go_enter Tryz.func91, Tryz.ntmps91
  go_wp2_with fail
  refine H.out.mono ?_
  rintro e w1 ⟨rfl, O1, T1⟩
  have HO := Lib.hid O1
  have HT := Lib.hid T1
  clear O1 T1 H
  go_wp2_with fail
  go_ret
  exact ⟨_, rfl, Nat.le_refl _, HO.out, HT.out⟩

theorem coverText_length (r l : Nat) : (coverText r l).length = 84 := by simp [coverText, high_length, zeros_length]

set_option maxHeartbeats 1600000 in
theorem layCover_any (r l : Nat) (w : World) (hr : r ≤ 140737488355328) (hl : l ≤ 140737488355328) :
    Calls Tryz.prog 78 #[.int .i64 r, .int .i64 l] w (Row96 (cover r l) w) := by
  go_enter Tryz.func78, Tryz.ntmps78
  go_wp2_with fail
  refine (put_any (.slice none 0 0) [] r 4 w.heap.size w (Mine.nil _ _) (Nat.le_refl _) (by omega) hr (by simp)).mono ?_
  rintro e w1 ⟨v1, rfl, P1⟩
  have HP1 := Lib.hid P1
  clear P1
  go_wp2_with fail
  refine (put_any v1 _ l 2 w.heap.size w1 HP1.out.mine (HP1.out.size (Nat.le_refl _)) (by omega) hl (by simp [high_length])).mono ?_
  rintro e w2 ⟨v2, rfl, P2⟩
  obtain ⟨v3, w3, hap, P3⟩ := mine_zeros w2 w.heap.size v2 _ 74 P2.mine (P2.size (HP1.out.size (Nat.le_refl _))) (by simp [high_length])
  obtain ⟨a2, c2, rfl, hc2, _⟩ := P2.mine.form
  have hlen : ([] ++ high r 4 ++ high l 2).length = 6 := by simp [high_length]
  have HP3 := Lib.hid ((HP1.out.trans P2).trans P3)
  rw [hlen] at hap ⊢
  clear P2 P3 HP1 hlen hc2
  have hap' : ∀ ty, (Builtin.append_ #[61, 3] ty #[.slice a2 6 c2, .int .i64 74]).run Tryz.prog w2 = .ok v3 w3 := hap
  clear hap
  go_wp2_with (first | (at_builtin; refine wpList_append_run rfl _ _ 61 3 rfl _ _ rfl rfl _ _ (hap' _) ?_))
  refine (put_any v3 _ r 4 w.heap.size w3 HP3.out.mine (HP3.out.size (Nat.le_refl _)) (by omega) hr (by simp [high_length, zeros_length])).mono ?_
  rintro e w4 ⟨v4, rfl, P4⟩
  have HP4 := Lib.hid (HP3.out.trans P4)
  obtain ⟨a4, c4, e4, hc4, H4⟩ := P4.mine.form
  have hT : [] ++ high r 4 ++ high l 2 ++ zeros 74 ++ high r 4 = coverText r l := by simp [coverText]
  rw [hT] at e4 H4 HP4
  rw [coverText_length] at e4
  subst e4
  have HH := Lib.hid H4
  clear P4 HP3 H4 hT hap' hc4
  go_wp2_with fail
  refine (closed_any a4 (coverText r l) 84 c4 w4 HH.out (coverText_length r l) (by omega)).mono ?_
  rintro e w5 ⟨g, rfl, hg, O5, T5⟩
  have HO := Lib.hid O5
  have HT := Lib.hid (HP4.out.of_nil.trans T5)
  have Hg := Lib.hid (Nat.le_trans HP4.out.touch.size hg)
  clear O5 T5 hg
  go_wp2_with fail
  go_ret
  exact ⟨g, rfl, Hg.out, HO.out, HT.out⟩

theorem leaves_any (n : Nat) (w : World) (hn : n ≤ 1000000) : Calls Tryz.prog 36 #[.int .i64 n] w fun e w' => e = .returned (.int .i64 (leavesOf n : Nat)) ∧ w = w' := by
  unfold leavesOf
  by_cases h0 : n = 0
  · subst h0
    go_enter Tryz.func36, Tryz.ntmps36
    go_wp2
    go_ret
    exact ⟨rfl, rfl⟩
  · have h1 : ¬ (n : Int) < 1 := by omega
    rw [if_neg h0]
    have e1 : (n : Int).tdiv 64 = ((n / 64 : Nat) : Int) := by rw [Int.tdiv_eq_ediv_of_nonneg (by omega)]; omega
    have e2 : (n : Int).tmod 64 = ((n % 64 : Nat) : Int) := by rw [Int.tmod_eq_emod_of_nonneg (by omega)]; omega
    have hq : n / 64 * 98 + (2 + n % 64 * 98 + 63) / 64 = (2 + n * 98 + 63) / 64 := by omega
    have hb : n / 64 ≤ 1000000 := by omega
    have hc : n % 64 < 64 := by omega
    rw [← hq]
    clear hq
    generalize n / 64 = q at *
    generalize n % 64 = r at *
    have e3 : (2 + (r : Int) * 98 + 64 - 1).tdiv 64 = (((2 + r * 98 + 63) / 64 : Nat) : Int) := by rw [Int.tdiv_eq_ediv_of_nonneg (by omega)]; omega
    have hd : (2 + r * 98 + 63) / 64 ≤ 1000 := by omega
    generalize (2 + r * 98 + 63) / 64 = m at *
    have e4 : (9223372036854775807 - (m : Int)).tdiv 98 = (9223372036854775807 - (m : Int)) / 98 := Int.tdiv_eq_ediv_of_nonneg (by omega)
    have h5 : ¬ (9223372036854775807 - (m : Int)) / 98 < (q : Int) := by omega
    go_enter Tryz.func36, Tryz.ntmps36
    go_wp2
    go_ret
    exact ⟨rfl, rfl⟩
theorem leaves_neg (n : Int) (w : World) (hn : n < 0) : Calls Tryz.prog 36 #[.int .i64 n] w fun e w' => e = .returned (.int .i64 0) ∧ w = w' := by
  have h1 : n < 1 := by omega
  go_enter Tryz.func36, Tryz.ntmps36
  go_wp2
  go_ret
  exact ⟨rfl, rfl⟩

theorem fits_any (l n : Nat) (w : World) (hn : n ≤ 4096) : Calls Tryz.prog 55 #[.int .i64 l, .int .i64 n] w fun e w' => e = .returned (.bool (fits l n)) ∧ w = w' := by
  unfold fits
  by_cases h1 : (5 : Int) ≤ (l : Int)
  · by_cases h2 : (l : Int) ≤ (n : Int) - 2 - 2
    · have e : (5 ≤ l ∧ l + 4 ≤ n) := by omega
      simp only [e, and_self, decide_true]
      clear e
      go_enter Tryz.func55, Tryz.ntmps55
      go_wp2
      go_ret
      exact ⟨rfl, rfl⟩
    · have e : ¬ (5 ≤ l ∧ l + 4 ≤ n) := by omega
      simp only [e, decide_false]
      clear e
      go_enter Tryz.func55, Tryz.ntmps55
      go_wp2
      go_ret
      exact ⟨rfl, rfl⟩
  · have e : ¬ (5 ≤ l ∧ l + 4 ≤ n) := by omega
    simp only [e, decide_false]
    clear e
    go_enter Tryz.func55, Tryz.ntmps55
    go_wp2
    go_ret
    exact ⟨rfl, rfl⟩

theorem str_beq {xs ys : List Nat} (hx : ∀ x ∈ xs, x < 256) (hy : ∀ x ∈ ys, x < 256) : ((strOf xs).toList == (strOf ys).toList) = decide (xs = ys) := by
  rw [ByteArray.toList_eq, ByteArray.toList_eq]
  by_cases h : xs = ys
  · subst h; simp
  · have hn : ¬ (strOf xs).data.toList = (strOf ys).data.toList := fun e => h (strOf_inj hx hy (ByteArray.ext (Array.toList_inj.1 e)))
    simp only [h, decide_false, beq_eq_false_iff_ne, ne_eq]
    exact hn

theorem equal_any (a b : Option Addr) (xs ys : List Nat) (n m c d : Nat) (w : World) (ha : Has w a xs) (hb : Has w b ys) (hn : xs.length = n) (hm : ys.length = m) :
    Calls Tryz.prog 93 #[.slice a n c, .slice b m d] w fun e w' => e = .returned (.bool (decide (xs = ys))) ∧ w = w' := by
  have h1 := str_any w a xs n c ha hn
  have h2 := str_any w b ys m d hb hm
  have HB := Lib.hid (str_beq ha.byte hb.byte)
  clear ha hb hn hm
  rw [← HB.out]
  clear HB
  go_enter Tryz.func93, Tryz.ntmps93
  go_wp2
  go_ret
  exact ⟨rfl, rfl⟩

theorem eql_nil (a : Option Addr) (n c : Nat) (w : World) : (binOp .eql 61 (.slice a n c) (.slice none 0 0)).run Tryz.prog w = .ok (.bool a.isNone) w := Lib.run_eql_slice_nil w 61 5 a n c 0 0 Tryz.underlying61
theorem neq_nil (a : Option Addr) (n c : Nat) (w : World) : (binOp .neq 61 (.slice a n c) (.slice none 0 0)).run Tryz.prog w = .ok (.bool (!a.isNone)) w := by
  simp only [binOp]
  simp [Op.equal, Op.maxDepth, Lib.run_equalIn_slice_nil w 9999 61 5 a n c 0 0 Tryz.underlying61]

theorem clone_any (a : Addr) (xs : List Nat) (n c : Nat) (w : World) (h : Has w (some a) xs) (hn : xs.length = n) (hm : n ≤ 1000000) :
    Calls Tryz.prog 70 #[.slice (some a) n c] w fun e w' => ∃ g d, e = .returned (.slice (some ⟨g, 0, none⟩) n d) ∧ w.heap.size ≤ g ∧ Grows w' g d xs ∧ Old w w' := by
  obtain ⟨g, d, w', hap, hg, G, T⟩ := append_new w (some a) xs n c h hn (by omega)
  have HG := Lib.hid G
  have HT := Lib.hid T
  have Hg := Lib.hid hg
  clear h G T hg
  have hq := eql_nil (some a) n c
  go_enter Tryz.func70, Tryz.ntmps70
  go_wp2_with (first | (at_builtin; refine wpList_append_run rfl _ _ 61 61 rfl _ _ rfl rfl _ _ (hap _) ?_))
  go_ret
  exact ⟨g, d, rfl, Hg.out, HG.out, HT.out⟩
end Go.Proofs.YtmingbgohdhajaaGreat
