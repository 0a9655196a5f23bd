/- Lays by value: out of a row, into a new block; the contract of a drum's Afloat. -/
import Derived.Test.YtmingbgohdhajaaGreatTextJ
namespace Go.Proofs.YtmingbgohdhajaaGreat
open Go.RowKit
set_option maxRecDepth 100000

theorem size102 : (Tryz.prog.info? 102).map (·.size) = some 97 := by kernel_rfl
theorem size100 : (Tryz.prog.info? 100).map (·.size) = some 96 := by kernel_rfl
/-- No Lay: all 0. -/
def noLain : List Value := lain (0, zeros 96)
theorem info102 : (Tryz.prog.info? 102).map (fun i => (i.zero, i.size, i.bytes)) = some (some (.agg noLain.toArray), 97, 104) := by kernel_rfl
theorem alloc78 (w : World) : (Instr.alloc 102 true (.tuple #[])).run Tryz.prog w = .ok (.pointer (some ⟨w.heap.size, 0, none⟩)) (w.alloc (.cells noLain.toArray 102)) := by
  obtain ⟨i, hi, hz, _, _⟩ := info_parts info102
  simp [Instr.alloc, zeroValue, typeInfo, hi, hz, newVar, newRow, Value.cells]
theorem noLain_length : noLain.length = 97 := by simp [noLain, lain, cells_length, zeros_length]
theorem lain_length {x : Nat × List Nat} (h : Trk x.2) : (lain x).length = 97 := by simp [lain, cells_length, h.len]

/-- A Lay of a row of Lays. -/
theorem lains_at {w : World} {base g cap n : Nat} {A : List (Nat × List Nat)} (hA : ∀ x ∈ A, Trk x.2) (hn : A.length = n) (h : w.ownsRow base 102 97 (.slice (some ⟨g, 0, none⟩) n cap) n (lains A)) {k : Nat} {x : Nat × List Nat} (hk : A[k]? = some x) : w.rangeAt g (k * 97) (lain x) := fun j v hv => by
  have hj : j < 97 := by
    have := lt_of_get hv
    rwa [lain_length (hA x (mem_of_get hk))] at this
  have hkl := lt_of_get hk
  rw [h.cellAt (k * 97 + j) (by omega), lains, flatten_get 97 _ k j (lains_len hA) hj, List.getElem?_map, hk]
  exact hv
theorem lains_form {w : World} {base n : Nat} {v : Value} {xs : List Value} (h : w.ownsRow base 102 97 v n xs) : ∃ a c, v = .slice a n c := by
  rcases h.2 with ⟨rfl, rfl⟩ | ⟨g, cap, cur, rfl, _⟩
  · exact ⟨none, 0, rfl⟩
  · exact ⟨_, _, rfl⟩
theorem lains_ptr {w : World} {base n c : Nat} {a : Option Addr} {xs : List Value} (h : w.ownsRow base 102 97 (.slice a n c) n xs) (hn : 0 < n) : ∃ g, a = some ⟨g, 0, none⟩ := by
  rcases h.2 with ⟨_, rfl⟩ | ⟨g, cap, cur, e, _⟩
  · omega
  · injection e with e1 e2 e3
    exact ⟨g, e1⟩

section
variable {ops : Array Oper} {rest : List Oper} {op : Oper} {a : Act} {w : World} {Q : Exit → Act → World → Prop}
theorem wpList_load_lain (hgd : op.guard = none) (p : Operand) (ho : op.op = .load 102 p) (b o : Nat) (hx : a.eval p = .pointer (some ⟨b, o, none⟩)) (x : Nat × List Nat) (ht : Trk x.2) (hc : w.rangeAt b o (lain x))
    (h : wpList Tryz.prog ops Q rest (a.put op.dst (.agg (lain x).toArray)) w) : wpList Tryz.prog ops Q (op :: rest) a w :=
  wpList_load_mid hgd 102 p ho b o hx (lain x) _ hc Tryz.underlying102 rfl (by rw [size102, lain_length ht]) h
theorem wpList_alloc_lain (hgd : op.guard = none) (ho : op.op = .alloc 102)
    (h : wpList Tryz.prog ops Q rest (a.put op.dst (.pointer (some ⟨w.heap.size, 0, none⟩))) (w.alloc (.cells noLain.toArray 102))) : wpList Tryz.prog ops Q (op :: rest) a w :=
  wpList_plain hgd fun K hK => by
    unfold Oper.wp execOp
    simp only [ho, Sem.run_bind, Sem.run_pure, Result.andThen_ok, alloc78]
    exact hK _ _ h
theorem wpList_store_lain (hgd : op.guard = none) (p y : Operand) (ho : op.op = .store 102 p y) (g : Nat) (x : Nat × List Nat) (ht : Trk x.2) (hx : a.eval p = .pointer (some ⟨g, 0, none⟩)) (hy : a.eval y = .agg (lain x).toArray) (Z : List Value) (hZ : Z.length = 97) (K : Blk w g 102 Z)
    (h : ∀ w', Blk w' g 102 (lain x) → Touch (fun k => k = g) w w' → wpList Tryz.prog ops Q rest (a.put op.dst undef) w') : wpList Tryz.prog ops Q (op :: rest) a w := by
  have hl := lain_length ht
  refine wpList_store_mid hgd 102 p y ho g 0 (lain x).toArray hx hy (fun j hj => ⟨?_, K.frozen _⟩) (by rw [size102, List.size_toArray, hl]) (all_oneCell_toArray (lain_one x)) ?_
  · rw [K.cell, List.getElem?_eq_getElem (by rw [List.size_toArray, hl] at hj; omega)]
    rfl
  · refine h _ ?_ (setCells_touch _ _ _ _)
    have := Blk.setCells (lain x) 0 Z w K (by omega)
    rwa [show splice Z 0 (lain x) = lain x from by unfold splice; rw [List.drop_eq_nil_of_le (by omega)]; simp] at this
end

/-- Numbers in memory. -/
def ints (xs : List Nat) : List Value := xs.map fun (x : Nat) => Value.int .i64 (x : Int)
theorem ints_length (xs : List Nat) : (ints xs).length = xs.length := by simp [ints]
theorem info3 : (Tryz.prog.info? 3).map (fun i => (i.zero, i.size, i.bytes)) = some (some (.int .i64 0), 1, 8) := by kernel_rfl
theorem made_ints (n : Nat) : madeCells (Value.int .i64 0).cells n = (ints (List.replicate n 0)).toArray := by
  apply Array.ext'
  apply List.ext_getElem?
  intro i
  rcases Nat.lt_or_ge i n with h | h
  · simp only [madeCells, ints]
    simp [h, Value.cells, Nat.mod_one]
  · simp [madeCells, ints, Nat.not_lt.2 h]
theorem make_ints (n : Nat) (hn : n ≤ 281474976710) (w : World) : (Instr.makeSlice 36 (.int .i64 n) (.int .i64 n)).run Tryz.prog w = .ok (.slice (some ⟨w.heap.size, 0, none⟩) n n) (w.alloc (.cells (ints (List.replicate n 0)).toArray 3)) := by
  obtain ⟨i0, hi, hz0, hz1, hz2⟩ := info_parts info3
  have h := run_make (P := Tryz.prog) w 36 3 i0 (.int .i64 0) Tryz.underlying36 hi hz0 .i64 .i64 (n : Int) (n : Int) (by omega) (by omega) (by rw [hz2]; omega) (by omega)
  rw [hz1] at h
  rw [h, ← made_ints]
  simp

/-- The first t of ks; the rest is 0. -/
def told (ks : List Nat) (t : Nat) : List Nat := ks.take t ++ List.replicate (ks.length - t) 0
theorem told_set (ks : List Nat) (t k : Nat) (h : ks[t]? = some k) : (told ks t).set t k = told ks (t + 1) := by
  have hl := lt_of_get h
  unfold told
  have hk : ks.take (t + 1) = ks.take t ++ [k] := by
    rw [List.take_succ_eq_append_getElem hl]
    congr 2
    rw [List.getElem?_eq_getElem hl] at h
    injection h
  have h2 : (ks.take t).length = t := by rw [List.length_take]; omega
  rw [List.set_append_right _ _ (by omega), h2, show ks.length - t = (ks.length - (t + 1)) + 1 by omega, List.replicate_succ, Nat.sub_self, List.set_cons_zero, hk]
  simp
theorem told_length (ks : List Nat) (t : Nat) (h : t ≤ ks.length) : (told ks t).length = ks.length := by simp [told]; omega
theorem told_all (ks : List Nat) : told ks ks.length = ks := by simp [told]
theorem ints_set (xs : List Nat) (i x : Nat) : (ints xs).set i (.int .i64 (x : Int)) = ints (xs.set i x) := by simp [ints, List.map_set]
theorem ints_get (xs : List Nat) (i : Nat) (h : i < xs.length) : (ints xs)[i]? = some (.int .i64 (at0 xs i : Int)) := by
  simp [ints, at0, List.getD_eq_getElem?_getD, List.getElem?_eq_getElem h]

end Go.Proofs.YtmingbgohdhajaaGreat
/- The contract of drum.New. -/
namespace Go.Proofs.YtmingbgohdhajaaGreat
open Go.RowKit
set_option maxRecDepth 100000

theorem info100 : (Tryz.prog.info? 100).map (fun i => (i.zero, i.size, i.bytes)) = some (some (.agg (cells (zeros 96)).toArray), 96, 96) := by kernel_rfl
theorem cells_zeros (n : Nat) : cells (zeros n) = List.replicate n (Value.int .u8 0) := by simp [cells, zeros]
theorem rows_zeros : ∀ n : Nat, rows (List.replicate n (zeros 96)) = List.replicate (n * 96) (Value.int .u8 0)
  | 0 => rfl
  | n + 1 => by
    have ih := rows_zeros n
    unfold rows at ih ⊢
    rw [List.replicate_succ, List.map_cons, List.flatten_cons, ih, cells_zeros, Nat.add_mul, Nat.one_mul, Nat.add_comm, List.replicate_append_replicate]
theorem made_same (z m : Nat) (v : Value) (hz : 0 < z) : madeCells (List.replicate z v).toArray m = (List.replicate m v).toArray := by
  apply Array.ext'
  apply List.ext_getElem?
  intro i
  rcases Nat.lt_or_ge i m with h | h
  · have hm : i % z < z := Nat.mod_lt _ hz
    simp [madeCells, h, hm]
  · simp [madeCells, Nat.not_lt.2 h]
theorem made_tracks (n : Nat) : madeCells (Value.agg (cells (zeros 96)).toArray).cells (n * 96) = (rows (List.replicate n (zeros 96))).toArray := by
  rw [rows_zeros, show (Value.agg (cells (zeros 96)).toArray).cells = (cells (zeros 96)).toArray from rfl, cells_zeros]
  exact made_same 96 _ _ (by decide)
theorem make_tracks (n : Nat) (hn : n ≤ 4096) (w : World) : (Instr.makeSlice 84 (.int .i64 n) (.int .i64 n)).run Tryz.prog w = .ok (.slice (some ⟨w.heap.size, 0, none⟩) n n) (w.alloc (.cells (rows (List.replicate n (zeros 96))).toArray 100)) := by
  obtain ⟨i0, hi, hz0, hz1, hz2⟩ := info_parts info100
  have h := run_make (P := Tryz.prog) w 84 100 i0 _ Tryz.underlying84 hi hz0 .i64 .i64 (n : Int) (n : Int) (by omega) (by omega) (by rw [hz2]; omega) (by omega)
  rw [hz1] at h
  rw [h, ← made_tracks]
  simp

theorem four (w : World) (A B C E : List Value) (a b c e : TypeId) :
    Blk ((((w.alloc (.cells A.toArray a)).alloc (.cells B.toArray b)).alloc (.cells C.toArray c)).alloc (.cells E.toArray e)) w.heap.size a A ∧
    Blk ((((w.alloc (.cells A.toArray a)).alloc (.cells B.toArray b)).alloc (.cells C.toArray c)).alloc (.cells E.toArray e)) (w.heap.size + 1) b B ∧
    Blk ((((w.alloc (.cells A.toArray a)).alloc (.cells B.toArray b)).alloc (.cells C.toArray c)).alloc (.cells E.toArray e)) (w.heap.size + 1 + 1) c C ∧
    Blk ((((w.alloc (.cells A.toArray a)).alloc (.cells B.toArray b)).alloc (.cells C.toArray c)).alloc (.cells E.toArray e)) (w.heap.size + 1 + 1 + 1) e E ∧
    Old w ((((w.alloc (.cells A.toArray a)).alloc (.cells B.toArray b)).alloc (.cells C.toArray c)).alloc (.cells E.toArray e)) := by
  have old : ∀ (x : World) (o : Obj), Old x (x.alloc o) := fun x o => (Touch.refl _ _).alloc o
  refine ⟨(((Blk.new w a A).touch (old _ _) (fun q => q)).touch (old _ _) (fun q => q)).touch (old _ _) (fun q => q), ?_, ?_, ?_, (((Touch.refl _ _).alloc _).alloc _).alloc _ |>.alloc _⟩
  · have := ((Blk.new (w.alloc (.cells A.toArray a)) b B).touch (old _ (.cells C.toArray c)) (fun q => q)).touch (old _ (.cells E.toArray e)) (fun q => q)
    rwa [World.size_alloc] at this
  · have := (Blk.new ((w.alloc (.cells A.toArray a)).alloc (.cells B.toArray b)) c C).touch (old _ (.cells E.toArray e)) (fun q => q)
    rwa [World.size_alloc, World.size_alloc] at this
  · have := Blk.new (((w.alloc (.cells A.toArray a)).alloc (.cells B.toArray b)).alloc (.cells C.toArray c)) e E
    rwa [World.size_alloc, World.size_alloc, World.size_alloc] at this

/-- What New answers. -/
def Made (n : Nat) (w : World) (e : Ending) (w' : World) : Prop := ∃ d b, e = .returned (.tuple #[.pointer (some ⟨d, 0, none⟩), .int .i64 0]) ∧ Dr d b (DS.new n) w' ∧ Old w w' ∧ ∀ k, foot d b k → w.heap.size ≤ k

theorem made_of {n : Nat} (h : 10 ≤ n) (h' : n ≤ 4096) {w w' : World} {d s v f : Nat} (hd : Blk w' d 96 (head ⟨s, v, f, .slice none 0 0, .pointer none⟩ n 0)) (hs : Blk w' s 100 (rows (List.replicate n (zeros 96)))) (hv : Blk w' v 100 (rows (List.replicate n (zeros 96)))) (hf : Blk w' f 107 [.int .u32 0])
    (hsv : s ≠ v) (old : Old w w') (h1 : w.heap.size ≤ d) (h2 : w.heap.size ≤ s) (h3 : w.heap.size ≤ v) (h4 : w.heap.size ≤ f) : Made n w (.returned (.tuple #[.pointer (some ⟨d, 0, none⟩), .int .i64 0])) w' := by
  refine ⟨d, ⟨s, v, f, .slice none 0 0, .pointer none⟩, rfl, ⟨DS.Ok.new h h', ⟨?_, hs, hv, hsv, hf, World.ownsRow_nil _ _ _ _, .inl ⟨rfl, rfl⟩⟩⟩, old, ?_⟩
  · simpa [DS.new] using hd
  · rintro k (rfl | rfl | rfl | rfl | hk | hk)
    · exact h1
    · exact h2
    · exact h3
    · exact h4
    · cases hk
    · cases hk

theorem new_no (n : Int) (h : n < 10 ∨ 4096 < n) (w : World) :
    Calls Tryz.prog 38 #[.int .i64 n] w fun e w' => e = .returned (.tuple #[.pointer none, .int .i64 1]) ∧ w = w' := by
  by_cases h0 : n < 10
  · clear h
    go_enter Tryz.func38, Tryz.ntmps38
    go_wp2
    go_ret2
    exact ⟨rfl, rfl⟩
  · have h1 : 4096 < n := by omega
    clear h
    go_enter Tryz.func38, Tryz.ntmps38
    go_wp2
    go_ret2
    exact ⟨rfl, rfl⟩

set_option maxRecDepth 100000 in
set_option maxHeartbeats 1600000 in
theorem new_yes (n : Nat) (h : 10 ≤ n) (h' : n ≤ 4096) (w : World) : Calls Tryz.prog 38 #[.int .i64 n] w (Made n w) := by
  have H := Lib.hid h
  have H' := Lib.hid h'
  have h0 : ¬ (n : Int) < 10 := by omega
  have h1 : ¬ 4096 < (n : Int) := by omega
  have hmk : ∀ w, (Instr.makeSlice 84 (.int .i64 n) (.int .i64 n)).run Tryz.prog w = .ok (.slice (some ⟨w.heap.size, 0, none⟩) n n) (w.alloc (.cells (rows (List.replicate n (zeros 96))).toArray 100)) := make_tracks n h'
  have hgo : ∀ (W : World) (d s v f : Nat), Blk W d 96 (head ⟨s, v, f, .slice none 0 0, .pointer none⟩ n 0) → Blk W s 100 (rows (List.replicate n (zeros 96))) → Blk W v 100 (rows (List.replicate n (zeros 96))) → Blk W f 107 [.int .u32 0] → s ≠ v → Old w W → w.heap.size ≤ d → w.heap.size ≤ s → w.heap.size ≤ v → w.heap.size ≤ f → Made n w (.returned (.tuple #[.pointer (some ⟨d, 0, none⟩), .int .i64 0])) W := fun W d s v f a1 a2 a3 a4 a5 a6 a7 a8 a9 a10 => made_of h h' a1 a2 a3 a4 a5 a6 a7 a8 a9 a10
  have HGo := Lib.hid hgo
  clear h h' hgo
  generalize rows (List.replicate n (zeros 96)) = R at *
  go_enter Tryz.func38, Tryz.ntmps38
  go_wp2_with fail
  go_region_held3 (fun _ => True) (trivial) (fail)
  all_goals
    clear hmk
    go_wp2_with fail
    go_ret2
    first
    | (have F := four w R R [.int .u32 0] (head ⟨w.heap.size, w.heap.size + 1, w.heap.size + 1 + 1, .slice none 0 0, .pointer none⟩ n 0) 100 100 107 96
       exact HGo.out _ _ _ _ _ F.2.2.2.1 F.1 F.2.1 F.2.2.1 (by omega) F.2.2.2.2.drew (by omega) (by omega) (by omega) (by omega))
    | (have F := four w R R [.int .u32 0] (head ⟨w.heap.size + 1, w.heap.size, w.heap.size + 1 + 1, .slice none 0 0, .pointer none⟩ n 0) 100 100 107 96
       exact HGo.out _ _ _ _ _ F.2.2.2.1 F.2.1 F.1 F.2.2.1 (by omega) F.2.2.2.2.drew (by omega) (by omega) (by omega) (by omega))
    | (have F := four w R [.int .u32 0] R (head ⟨w.heap.size, w.heap.size + 1 + 1, w.heap.size + 1, .slice none 0 0, .pointer none⟩ n 0) 100 107 100 96
       exact HGo.out _ _ _ _ _ F.2.2.2.1 F.1 F.2.2.1 F.2.1 (by omega) F.2.2.2.2.drew (by omega) (by omega) (by omega) (by omega))
    | (have F := four w R [.int .u32 0] R (head ⟨w.heap.size + 1 + 1, w.heap.size, w.heap.size + 1, .slice none 0 0, .pointer none⟩ n 0) 100 107 100 96
       exact HGo.out _ _ _ _ _ F.2.2.2.1 F.2.2.1 F.1 F.2.1 (by omega) F.2.2.2.2.drew (by omega) (by omega) (by omega) (by omega))
    | (have F := four w [.int .u32 0] R R (head ⟨w.heap.size + 1, w.heap.size + 1 + 1, w.heap.size, .slice none 0 0, .pointer none⟩ n 0) 107 100 100 96
       exact HGo.out _ _ _ _ _ F.2.2.2.1 F.2.1 F.2.2.1 F.1 (by omega) F.2.2.2.2.drew (by omega) (by omega) (by omega) (by omega))
    | (have F := four w [.int .u32 0] R R (head ⟨w.heap.size + 1 + 1, w.heap.size + 1, w.heap.size, .slice none 0 0, .pointer none⟩ n 0) 107 100 100 96
       exact HGo.out _ _ _ _ _ F.2.2.2.1 F.2.2.1 F.2.1 F.1 (by omega) F.2.2.2.2.drew (by omega) (by omega) (by omega) (by omega))
end Go.Proofs.YtmingbgohdhajaaGreat
