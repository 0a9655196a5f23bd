/- Lays by value: out of a row, into a new block; the contract of a drum's Afloat. -/
import Derived.Test.YtjajenkagcdhlaaGreatAll
namespace Go.Proofs.YtjajenkagcdhlaaGreat
open Go.RowKit
set_option maxRecDepth 100000

theorem size107 : (Tryz.prog.info? 107).map (·.size) = some 97 := by kernel_rfl
theorem size105 : (Tryz.prog.info? 105).map (·.size) = some 96 := by kernel_rfl
/-- No Lay: all 0. -/
def noLain : List Value := lain (0, zeros 96)
theorem info107 : (Tryz.prog.info? 107).map (fun i => (i.zero, i.size, i.bytes)) = some (some (.agg noLain.toArray), 97, 104) := by kernel_rfl
theorem alloc78 (w : World) : (Instr.alloc 107 true (.tuple #[])).run Tryz.prog w = .ok (.pointer (some ⟨w.heap.size, 0, none⟩)) (w.alloc (.cells noLain.toArray 107)) := by
  obtain ⟨i, hi, hz, _, _⟩ := info_parts info107
  simp [Instr.alloc, zeroValue, typeInfo, hi, hz, newVar, newRow, Value.cells]
theorem noLain_length : noLain.length = 97 := by simp [noLain, lain, cells_length, zeros_length]
theorem lain_length {x : Nat × List Nat} (h : Trk x.2) : (lain x).length = 97 := by simp [lain, cells_length, h.len]

/-- A Lay of a row of Lays. -/
theorem lains_at {w : World} {base g cap n : Nat} {A : List (Nat × List Nat)} (hA : ∀ x ∈ A, Trk x.2) (hn : A.length = n) (h : w.ownsRow base 107 97 (.slice (some ⟨g, 0, none⟩) n cap) n (lains A)) {k : Nat} {x : Nat × List Nat} (hk : A[k]? = some x) : w.rangeAt g (k * 97) (lain x) := fun j v hv => by
  have hj : j < 97 := by
    have := lt_of_get hv
    rwa [lain_length (hA x (mem_of_get hk))] at this
  have hkl := lt_of_get hk
  rw [h.cellAt (k * 97 + j) (by omega), lains, flatten_get 97 _ k j (lains_len hA) hj, List.getElem?_map, hk]
  exact hv
theorem lains_form {w : World} {base n : Nat} {v : Value} {xs : List Value} (h : w.ownsRow base 107 97 v n xs) : ∃ a c, v = .slice a n c := by
  rcases h.2 with ⟨rfl, rfl⟩ | ⟨g, cap, cur, rfl, _⟩
  · exact ⟨none, 0, rfl⟩
  · exact ⟨_, _, rfl⟩
theorem lains_ptr {w : World} {base n c : Nat} {a : Option Addr} {xs : List Value} (h : w.ownsRow base 107 97 (.slice a n c) n xs) (hn : 0 < n) : ∃ g, a = some ⟨g, 0, none⟩ := by
  rcases h.2 with ⟨_, rfl⟩ | ⟨g, cap, cur, e, _⟩
  · omega
  · injection e with e1 e2 e3
    exact ⟨g, e1⟩

section
variable {ops : Array Oper} {rest : List Oper} {op : Oper} {a : Act} {w : World} {Q : Exit → Act → World → Prop}
theorem wpList_load_lain (hgd : op.guard = none) (p : Operand) (ho : op.op = .load 107 p) (b o : Nat) (hx : a.eval p = .pointer (some ⟨b, o, none⟩)) (x : Nat × List Nat) (ht : Trk x.2) (hc : w.rangeAt b o (lain x))
    (h : wpList Tryz.prog ops Q rest (a.put op.dst (.agg (lain x).toArray)) w) : wpList Tryz.prog ops Q (op :: rest) a w :=
  wpList_load_mid hgd 107 p ho b o hx (lain x) _ hc Tryz.underlying107 rfl (by rw [size107, lain_length ht]) h
theorem wpList_alloc_lain (hgd : op.guard = none) (ho : op.op = .alloc 107)
    (h : wpList Tryz.prog ops Q rest (a.put op.dst (.pointer (some ⟨w.heap.size, 0, none⟩))) (w.alloc (.cells noLain.toArray 107))) : wpList Tryz.prog ops Q (op :: rest) a w :=
  wpList_plain hgd fun K hK => by
    unfold Oper.wp execOp
    simp only [ho, Sem.run_bind, Sem.run_pure, Result.andThen_ok, alloc78]
    exact hK _ _ h
theorem wpList_store_lain (hgd : op.guard = none) (p y : Operand) (ho : op.op = .store 107 p y) (g : Nat) (x : Nat × List Nat) (ht : Trk x.2) (hx : a.eval p = .pointer (some ⟨g, 0, none⟩)) (hy : a.eval y = .agg (lain x).toArray) (Z : List Value) (hZ : Z.length = 97) (K : Blk w g 107 Z)
    (h : ∀ w', Blk w' g 107 (lain x) → Touch (fun k => k = g) w w' → wpList Tryz.prog ops Q rest (a.put op.dst undef) w') : wpList Tryz.prog ops Q (op :: rest) a w := by
  have hl := lain_length ht
  refine wpList_store_mid hgd 107 p y ho g 0 (lain x).toArray hx hy (fun j hj => ⟨?_, K.frozen _⟩) (by rw [size107, List.size_toArray, hl]) (all_oneCell_toArray (lain_one x)) ?_
  · rw [K.cell, List.getElem?_eq_getElem (by rw [List.size_toArray, hl] at hj; omega)]
    rfl
  · refine h _ ?_ (setCells_touch _ _ _ _)
    have := Blk.setCells (lain x) 0 Z w K (by omega)
    rwa [show splice Z 0 (lain x) = lain x from by unfold splice; rw [List.drop_eq_nil_of_le (by omega)]; simp] at this
end

/-- Numbers in memory. -/
def ints (xs : List Nat) : List Value := xs.map fun (x : Nat) => Value.int .i64 (x : Int)
theorem ints_length (xs : List Nat) : (ints xs).length = xs.length := by simp [ints]
theorem info3 : (Tryz.prog.info? 3).map (fun i => (i.zero, i.size, i.bytes)) = some (some (.int .i64 0), 1, 8) := by kernel_rfl
theorem made_ints (n : Nat) : madeCells (Value.int .i64 0).cells n = (ints (List.replicate n 0)).toArray := by
  apply Array.ext'
  apply List.ext_getElem?
  intro i
  rcases Nat.lt_or_ge i n with h | h
  · simp only [madeCells, ints]
    simp [h, Value.cells, Nat.mod_one]
  · simp [madeCells, ints, Nat.not_lt.2 h]
theorem make_ints (n : Nat) (hn : n ≤ 281474976710) (w : World) : (Instr.makeSlice 31 (.int .i64 n) (.int .i64 n)).run Tryz.prog w = .ok (.slice (some ⟨w.heap.size, 0, none⟩) n n) (w.alloc (.cells (ints (List.replicate n 0)).toArray 3)) := by
  obtain ⟨i0, hi, hz0, hz1, hz2⟩ := info_parts info3
  have h := run_make (P := Tryz.prog) w 31 3 i0 (.int .i64 0) Tryz.underlying31 hi hz0 .i64 .i64 (n : Int) (n : Int) (by omega) (by omega) (by rw [hz2]; omega) (by omega)
  rw [hz1] at h
  rw [h, ← made_ints]
  simp

/-- The first t of ks; the rest is 0. -/
def told (ks : List Nat) (t : Nat) : List Nat := ks.take t ++ List.replicate (ks.length - t) 0
theorem told_set (ks : List Nat) (t k : Nat) (h : ks[t]? = some k) : (told ks t).set t k = told ks (t + 1) := by
  have hl := lt_of_get h
  unfold told
  have hk : ks.take (t + 1) = ks.take t ++ [k] := by
    rw [List.take_succ_eq_append_getElem hl]
    congr 2
    rw [List.getElem?_eq_getElem hl] at h
    injection h
  have h2 : (ks.take t).length = t := by rw [List.length_take]; omega
  rw [List.set_append_right _ _ (by omega), h2, show ks.length - t = (ks.length - (t + 1)) + 1 by omega, List.replicate_succ, Nat.sub_self, List.set_cons_zero, hk]
  simp
theorem told_length (ks : List Nat) (t : Nat) (h : t ≤ ks.length) : (told ks t).length = ks.length := by simp [told]; omega
theorem told_all (ks : List Nat) : told ks ks.length = ks := by simp [told]
theorem ints_set (xs : List Nat) (i x : Nat) : (ints xs).set i (.int .i64 (x : Int)) = ints (xs.set i x) := by simp [ints, List.map_set]
theorem ints_get (xs : List Nat) (i : Nat) (h : i < xs.length) : (ints xs)[i]? = some (.int .i64 (at0 xs i : Int)) := by
  simp [ints, at0, List.getD_eq_getElem?_getD, List.getElem?_eq_getElem h]

end Go.Proofs.YtjajenkagcdhlaaGreat
