/- Bytes that are appended to: nil, or a row of one's own; ledger.put, number, closed, layCover. -/
import Derived.Test.YtjajenkagcdhlaaGreatLed
namespace Go.Proofs.YtjajenkagcdhlaaGreat
open Go.RowKit
set_option maxRecDepth 100000
set_option linter.unusedSimpArgs false

theorem Grows.old {w w' : World} {g c : Nat} {xs : List Nat} (h : Grows w g c xs) (m : Old w w') : Grows w' g c xs := by
  obtain ⟨rest, hg, hl⟩ := h.row
  exact ⟨h.byte, rest, by rw [m.block g h.own.lt (fun h => h)]; exact hg, hl⟩

/-- A slice that is nil, or a row of one's own, not older than B. -/
def Mine (w : World) (B : Nat) (v : Value) (xs : List Nat) : Prop := (v = .slice none 0 0 ∧ xs = []) ∨ ∃ g c, v = .slice (some ⟨g, 0, none⟩) xs.length c ∧ B ≤ g ∧ Grows w g c xs
/-- The block of a slice. -/
def blk (v : Value) (k : Nat) : Prop := v.ownBlock = some k
theorem Mine.byte {w : World} {B : Nat} {v : Value} {xs : List Nat} (h : Mine w B v xs) : ∀ x ∈ xs, x < 256 := by
  rcases h with ⟨_, rfl⟩ | ⟨g, c, _, _, G⟩
  · exact fun _ h => by cases h
  · exact G.byte
theorem Mine.form {w : World} {B : Nat} {v : Value} {xs : List Nat} (h : Mine w B v xs) : ∃ a c, v = .slice a xs.length c ∧ xs.length ≤ c ∧ Has w a xs := by
  rcases h with ⟨rfl, rfl⟩ | ⟨g, c, rfl, _, G⟩
  · exact ⟨none, 0, rfl, Nat.le_refl _, Has.nil _ _⟩
  · refine ⟨_, c, rfl, ?_, G.own.has⟩
    obtain ⟨_, _, hl⟩ := G.row
    omega
theorem Mine.nil (w : World) (B : Nat) : Mine w B (.slice none 0 0) [] := .inl ⟨rfl, rfl⟩
theorem Mine.touch {S : Nat → Prop} {w w' : World} {B : Nat} {v : Value} {xs : List Nat} (h : Mine w B v xs) (m : Touch S w w') (hn : ∀ k, blk v k → ¬ S k) : Mine w' B v xs := by
  rcases h with h | ⟨g, c, rfl, hb, G⟩
  · exact .inl h
  · refine .inr ⟨g, c, rfl, hb, G.byte, ?_⟩
    obtain ⟨rest, hg, hl⟩ := G.row
    exact ⟨rest, by rw [m.block g G.own.lt (hn g rfl)]; exact hg, hl⟩
theorem Mine.old {w w' : World} {B : Nat} {v : Value} {xs : List Nat} (h : Mine w B v xs) (m : Old w w') : Mine w' B v xs := h.touch m (fun _ _ q => q)
theorem Mine.lt {w : World} {B : Nat} {v : Value} {xs : List Nat} (h : Mine w B v xs) : ∀ k, blk v k → B ≤ k ∧ k < w.heap.size := by
  rcases h with ⟨rfl, _⟩ | ⟨g, c, rfl, hb, G⟩
  · intro k hk; cases hk
  · intro k hk
    have : g = k := by injection hk
    subst this
    exact ⟨hb, G.own.lt⟩
theorem Mine.less {w : World} {B B' : Nat} {v : Value} {xs : List Nat} (h : Mine w B v xs) (hB : B' ≤ B) : Mine w B' v xs := by
  rcases h with h | ⟨g, c, e, hb, G⟩
  · exact .inl h
  · exact .inr ⟨g, c, e, by omega, G⟩
/-- Nothing older than B turned. -/
theorem Touch.blk_old {w0 w w' : World} {v : Value} {B : Nat} {xs : List Nat} (h : Old w0 w) (hB : w0.heap.size ≤ B) (M : Mine w B v xs) (t : Touch (blk v) w w') : Old w0 w' :=
  ⟨t.os.trans h.os, t.tape.trans h.tape, t.output.trans h.output, Nat.le_trans h.size t.size, fun k hk hn => (t.block k (Nat.lt_of_lt_of_le hk h.size) (fun q => by have := (M.lt k q).1; omega)).trans (h.block k hk hn)⟩

/-- What an append makes of a slice of one's own. -/
structure Put (w : World) (B : Nat) (v : Value) (xs : List Nat) (v' : Value) (w' : World) : Prop where
  mine : Mine w' B v' xs
  touch : Touch (blk v) w w'
  same : ∀ k, blk v' k → blk v k ∨ w.heap.size ≤ k

theorem mine_append (w : World) (B : Nat) (v : Value) (xs ys : List Nat) (a : Option Addr) (len cap : Nat) (h : Mine w B v xs) (hB : B ≤ w.heap.size) (hH : Has w a ys) (hlen : ys.length = len) (hm : xs.length + len ≤ 140737488355328) :
    ∃ v' w', (∀ ty, (Builtin.append_ #[30, 30] ty #[v, .slice a len cap]).run Tryz.prog w = .ok v' w') ∧ Put w B v (xs ++ ys) v' w' := by
  rcases h with ⟨rfl, rfl⟩ | ⟨g, c, rfl, hb, G⟩
  · obtain ⟨i0, hi, hz0, hz1, hz2⟩ := info_parts info5
    have hs : Src Tryz.prog i0.size 30 (.slice a len cap) len (cells ys) w := by rw [hz1]; exact hH.src hlen
    rcases Nat.eq_zero_or_pos len with h0 | h0
    · subst h0
      have hx : ys = [] := List.eq_nil_of_length_eq_zero hlen
      subst hx
      refine ⟨.slice none 0 0, w, fun ty => ?_, .inl ⟨rfl, rfl⟩, Touch.refl _ _, fun k hk => .inl hk⟩
      rcases hs.kind with ⟨e', hk⟩ | hk
      · simp [Builtin.append_, run_underlying Tryz.underlying30, run_underlying hk, sizeOf, typeInfo, hi, hs.len, hs.cells]
      · simp [Builtin.append_, run_underlying Tryz.underlying30, run_underlying hk, sizeOf, typeInfo, hi, hs.len, hs.cells]
    · have hr := fun ty => run_append_grow_src (P := Tryz.prog) w 30 30 ty 5 i0 (.int .u8 0) Tryz.underlying30 hi hz0 none 0 0 []
        (run_firstCells_none (P := Tryz.prog) _ i0.size 0 0 0) (.slice a len cap) len _ hs (by omega) (by omega) (growslice_fits (by omega) (by rw [hz2]; omega))
      simp only [Nat.zero_add, List.nil_append] at hr
      have hge := grownCap_ge w len 0 5
      refine ⟨_, _, hr, .inr ⟨_, _, by rw [List.nil_append, hlen], hB, by rw [List.nil_append]; exact hH.byte, (Builtin.zeroCells (Value.int .u8 0).cells (grownCap w len 0 5 - len)).toList, ?_, ?_⟩, ((Touch.refl _ w).drew).alloc _, fun k hk => .inr ?_⟩
      · rw [show w.heap.size = w.drew.heap.size from rfl, heap_alloc_new]
        congr 2
        apply Array.ext'
        simp only [Array.toList_append, List.nil_append]
      · rw [zero_length, List.nil_append]; omega
      · have : w.heap.size = k := by injection hk
        omega
  · obtain ⟨g', c', w', hr, hg', G', T'⟩ := append_onto w g c xs.length xs ys a len cap G hH rfl hlen hm
    refine ⟨_, w', hr, .inr ⟨g', c', by rw [List.length_append, hlen], ?_, G'⟩, T'.mono (fun k _ hk => by subst hk; rfl), fun k hk => ?_⟩
    · rcases hg' with h | h <;> omega
    · have e : g' = k := by injection hk
      subst e
      rcases hg' with h | h
      · left; subst h; rfl
      · exact .inr h

theorem wrap_nat {n : Nat} (h : n ≤ 140737488355328) : IntKind.i64.wrap (n : Int) = n := by rw [IntKind.wrap_i64]; omega
theorem zeroCells_bytes (n : Nat) : Builtin.zeroCells (Value.int .u8 0).cells n = (cells (zeros n)).toArray := by
  rw [← made_zeros]
  unfold Builtin.zeroCells madeCells
  rw [show (Value.int .u8 0).cells.size = 1 from rfl, Nat.mul_one]

/-- 'append(x, make([]byte, n)...)'. -/
theorem mine_zeros (w : World) (B : Nat) (v : Value) (xs : List Nat) (n : Nat) (h : Mine w B v xs) (hB : B ≤ w.heap.size) (hm : xs.length + n ≤ 140737488355328) :
    ∃ v' w', (∀ ty, (Builtin.append_ #[30, 3] ty #[v, .int .i64 n]).run Tryz.prog w = .ok v' w') ∧ Put w B v (xs ++ zeros n) v' w' := by
  obtain ⟨i0, hi, hz0, hz1, hz2⟩ := info_parts info5
  have hw := wrap_nat (n := n) (by omega)
  have hneg : ¬ ((n : Int) < 0) := by omega
  have h48 : ¬ (281474976710656 < (n : Int) * (i0.bytes : Int)) := by rw [hz2]; omega
  have hby : ∀ x ∈ xs ++ zeros n, x < 256 := fun x hx => by
    rcases List.mem_append.1 hx with h1 | h1
    · exact h.byte x h1
    · exact zeros_byte n x h1
  rcases Nat.eq_zero_or_pos n with h0 | h0
  · subst h0
    refine ⟨v, w, fun ty => ?_, by rw [show zeros 0 = [] from rfl, List.append_nil]; exact h, Touch.refl _ _, fun k hk => .inl hk⟩
    obtain ⟨a, c, rfl, hc, _⟩ := h.form
    have hw0 : IntKind.i64.wrap 0 = 0 := rfl
    cases a with
    | none => simp [Builtin.append_, run_underlying Tryz.underlying30, run_underlying Tryz.underlying3, sizeOf, typeInfo, hi, hc, asInt, asIntOf, hw0]
    | some a => simp [Builtin.append_, run_underlying Tryz.underlying30, run_underlying Tryz.underlying3, sizeOf, typeInfo, hi, hc, asInt, asIntOf, hw0, storeCells]
  · have hns : ¬ (n * i0.size = 0) := by rw [hz1]; omega
    have hns' : n ≠ 0 := by omega
    by_cases hroom : ∃ g c, v = .slice (some ⟨g, 0, none⟩) xs.length c ∧ xs.length + n ≤ c
    · obtain ⟨g, c, rfl, hr⟩ := hroom
      rcases h with ⟨e, _⟩ | ⟨g', c', e, hb, G⟩
      · cases e
      · obtain ⟨rfl, rfl⟩ : g' = g ∧ c' = c := by
          injection e with e1 e2 e3
          injection e1 with e1
          injection e1 with e1
          exact ⟨e1.symm, e3.symm⟩
        obtain ⟨rest, hg, hl⟩ := G.row
        have K : Blk w g' 5 (cells xs ++ rest) := hg
        have hst := run_storeCells_cells (P := Tryz.prog) g' (xs.length * 1) (cells (zeros n)) 0 w
          (fun j hj => by rw [K.cell, List.getElem?_eq_getElem (by rw [cells_length, zeros_length] at hj; rw [List.length_append, cells_length]; omega)]; rfl)
          (fun j _ => K.frozen _) (cells_one _)
        simp only [Nat.add_zero] at hst
        have hz : (zeroCells_bytes n) = (zeroCells_bytes n) := rfl
        refine ⟨.slice (some ⟨g', 0, none⟩) (xs.length + n) c', w.setCells g' (xs.length * 1) (cells (zeros n)), fun ty => ?_, .inr ⟨g', c', by rw [List.length_append, zeros_length], hb, hby, rest.drop n, ?_, ?_⟩, (setCells_touch g' _ _ _).mono (fun k _ hk => by subst hk; rfl), fun k hk => .inl hk⟩
        · simp [Builtin.append_, run_underlying Tryz.underlying30, run_underlying Tryz.underlying3, sizeOf, typeInfo, zeroValue, hi, hz0, hz1, hw, hneg, h48, hr, hns', asInt, asIntOf, zeroCells_bytes, Addr.add_lit]
          rw [Nat.mul_one] at hst
          rw [hst]
          rfl
        · have := Blk.setCells (cells (zeros n)) (xs.length * 1) _ w K (by rw [cells_length, zeros_length, List.length_append, cells_length]; omega)
          rw [Nat.mul_one] at this
          rw [Nat.mul_one]
          unfold Blk at this
          rw [this]
          congr 2
          unfold splice
          rw [cells_append]
          rw [List.take_append_of_le_length (by rw [cells_length]; omega), List.take_of_length_le (by rw [cells_length]; omega), List.drop_append, List.drop_eq_nil_of_le (by simp only [cells_length]; omega)]
          simp only [cells_length, zeros_length, List.nil_append]
          rw [show xs.length + n - xs.length = n by omega, List.append_assoc]
        · rw [List.length_append, zeros_length, List.length_drop]; omega
    · obtain ⟨a, c, e, hold, hcap⟩ : ∃ a c, v = .slice a xs.length c ∧ (Builtin.firstCells i0.size xs.length (.slice a xs.length c)).run Tryz.prog w.drew = .ok (cells xs).toArray w.drew ∧ c < xs.length + n := by
        rcases h with ⟨rfl, rfl⟩ | ⟨g, c, rfl, hb, G⟩
        · exact ⟨none, 0, rfl, run_firstCells_none (P := Tryz.prog) _ i0.size 0 0 0, by simp; omega⟩
        · refine ⟨_, c, rfl, run_firstCells_some (P := Tryz.prog) _ i0.size xs.length ⟨g, 0, none⟩ xs.length c (cells xs) (by rw [cells_length, hz1, Nat.mul_one]) (fun j u hu => ?_), ?_⟩
          · have hj : j < xs.length := by
              rcases Nat.lt_or_ge j (cells xs).length with h | h
              · rwa [cells_length] at h
              · rw [List.getElem?_eq_none h] at hu; cases hu
            rw [cells_get xs j hj] at hu
            cases hu
            rw [show (⟨g, 0, none⟩ : Addr).add j = ⟨g, j, none⟩ by unfold Addr.add; split <;> simp_all]
            exact G.own.cell j hj
          · exact Nat.lt_of_not_le (fun q => hroom ⟨g, c, rfl, q⟩)
      have hfit := growslice_fits (need := xs.length + n) (old := c) (bytes := i0.bytes) hcap (by rw [hz2]; omega)
      have hge := grownCap_ge w (xs.length + n) c 5
      have hn : ¬ (xs.length + n ≤ c) := by omega
      have h63' : ¬ (9223372036854775807 < ((xs.length : Int) + (n : Int))) := by omega
      have h48' : ¬ (281474976710656 < Builtin.nextslicecap (xs.length + n) c * i0.bytes) := by omega
      refine ⟨.slice (some ⟨w.heap.size, 0, none⟩) (xs.length + n) (grownCap w (xs.length + n) c 5), w.drew.alloc (.cells (cells (xs ++ zeros n) ++ cells (zeros (grownCap w (xs.length + n) c 5 - (xs.length + n)))).toArray 5), fun ty => ?_, .inr ⟨_, _, by rw [List.length_append, zeros_length], hB, hby, cells (zeros (grownCap w (xs.length + n) c 5 - (xs.length + n))), ?_, ?_⟩, ((Touch.refl _ w).drew).alloc _, fun k hk => .inr ?_⟩
      · rw [e]
        simp [Builtin.append_, run_underlying Tryz.underlying30, run_underlying Tryz.underlying3, sizeOf, typeInfo, zeroValue, hi, hz0, hz1, hw, hneg, h48, hns', asInt, asIntOf, hn, h63', h48', Question.forced, newRow, grownCap, zeroCells_bytes]
        rw [hz1] at hold
        rw [hold]
        simp [cells_append]
      · rw [show w.heap.size = w.drew.heap.size from rfl, heap_alloc_new]
      · rw [List.length_append, zeros_length, cells_length, zeros_length]; omega
      · have : w.heap.size = k := by injection hk
        omega
end Go.Proofs.YtjajenkagcdhlaaGreat
