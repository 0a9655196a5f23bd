/- The contract of drum.New. -/
import Derived.Test.YtjajenkagcdhlaaGreatLain
namespace Go.Proofs.YtjajenkagcdhlaaGreat
open Go.RowKit
set_option maxRecDepth 100000

theorem info105 : (Tryz.prog.info? 105).map (fun i => (i.zero, i.size, i.bytes)) = some (some (.agg (cells (zeros 96)).toArray), 96, 96) := by kernel_rfl
theorem cells_zeros (n : Nat) : cells (zeros n) = List.replicate n (Value.int .u8 0) := by simp [cells, zeros]
theorem rows_zeros : ∀ n : Nat, rows (List.replicate n (zeros 96)) = List.replicate (n * 96) (Value.int .u8 0)
  | 0 => rfl
  | n + 1 => by
    have ih := rows_zeros n
    unfold rows at ih ⊢
    rw [List.replicate_succ, List.map_cons, List.flatten_cons, ih, cells_zeros, Nat.add_mul, Nat.one_mul, Nat.add_comm, List.replicate_append_replicate]
theorem made_same (z m : Nat) (v : Value) (hz : 0 < z) : madeCells (List.replicate z v).toArray m = (List.replicate m v).toArray := by
  apply Array.ext'
  apply List.ext_getElem?
  intro i
  rcases Nat.lt_or_ge i m with h | h
  · have hm : i % z < z := Nat.mod_lt _ hz
    simp [madeCells, h, hm]
  · simp [madeCells, Nat.not_lt.2 h]
theorem made_tracks (n : Nat) : madeCells (Value.agg (cells (zeros 96)).toArray).cells (n * 96) = (rows (List.replicate n (zeros 96))).toArray := by
  rw [rows_zeros, show (Value.agg (cells (zeros 96)).toArray).cells = (cells (zeros 96)).toArray from rfl, cells_zeros]
  exact made_same 96 _ _ (by decide)
theorem make_tracks (n : Nat) (hn : n ≤ 4096) (w : World) : (Instr.makeSlice 89 (.int .i64 n) (.int .i64 n)).run Tryz.prog w = .ok (.slice (some ⟨w.heap.size, 0, none⟩) n n) (w.alloc (.cells (rows (List.replicate n (zeros 96))).toArray 105)) := by
  obtain ⟨i0, hi, hz0, hz1, hz2⟩ := info_parts info105
  have h := run_make (P := Tryz.prog) w 89 105 i0 _ Tryz.underlying89 hi hz0 .i64 .i64 (n : Int) (n : Int) (by omega) (by omega) (by rw [hz2]; omega) (by omega)
  rw [hz1] at h
  rw [h, ← made_tracks]
  simp

theorem four (w : World) (A B C E : List Value) (a b c e : TypeId) :
    Blk ((((w.alloc (.cells A.toArray a)).alloc (.cells B.toArray b)).alloc (.cells C.toArray c)).alloc (.cells E.toArray e)) w.heap.size a A ∧
    Blk ((((w.alloc (.cells A.toArray a)).alloc (.cells B.toArray b)).alloc (.cells C.toArray c)).alloc (.cells E.toArray e)) (w.heap.size + 1) b B ∧
    Blk ((((w.alloc (.cells A.toArray a)).alloc (.cells B.toArray b)).alloc (.cells C.toArray c)).alloc (.cells E.toArray e)) (w.heap.size + 1 + 1) c C ∧
    Blk ((((w.alloc (.cells A.toArray a)).alloc (.cells B.toArray b)).alloc (.cells C.toArray c)).alloc (.cells E.toArray e)) (w.heap.size + 1 + 1 + 1) e E ∧
    Old w ((((w.alloc (.cells A.toArray a)).alloc (.cells B.toArray b)).alloc (.cells C.toArray c)).alloc (.cells E.toArray e)) := by
  have old : ∀ (x : World) (o : Obj), Old x (x.alloc o) := fun x o => (Touch.refl _ _).alloc o
  refine ⟨(((Blk.new w a A).touch (old _ _) (fun q => q)).touch (old _ _) (fun q => q)).touch (old _ _) (fun q => q), ?_, ?_, ?_, (((Touch.refl _ _).alloc _).alloc _).alloc _ |>.alloc _⟩
  · have := ((Blk.new (w.alloc (.cells A.toArray a)) b B).touch (old _ (.cells C.toArray c)) (fun q => q)).touch (old _ (.cells E.toArray e)) (fun q => q)
    rwa [World.size_alloc] at this
  · have := (Blk.new ((w.alloc (.cells A.toArray a)).alloc (.cells B.toArray b)) c C).touch (old _ (.cells E.toArray e)) (fun q => q)
    rwa [World.size_alloc, World.size_alloc] at this
  · have := Blk.new (((w.alloc (.cells A.toArray a)).alloc (.cells B.toArray b)).alloc (.cells C.toArray c)) e E
    rwa [World.size_alloc, World.size_alloc, World.size_alloc] at this

/-- What New answers. -/
def Made (n : Nat) (w : World) (e : Ending) (w' : World) : Prop := ∃ d b, e = .returned (.tuple #[.pointer (some ⟨d, 0, none⟩), .int .i64 0]) ∧ Dr d b (DS.new n) w' ∧ Old w w' ∧ ∀ k, foot d b k → w.heap.size ≤ k

theorem made_of {n : Nat} (h : 10 ≤ n) (h' : n ≤ 4096) {w w' : World} {d s v f : Nat} (hd : Blk w' d 100 (head ⟨s, v, f, .slice none 0 0, .pointer none⟩ n 0)) (hs : Blk w' s 105 (rows (List.replicate n (zeros 96)))) (hv : Blk w' v 105 (rows (List.replicate n (zeros 96)))) (hf : Blk w' f 112 [.int .u32 0])
    (hsv : s ≠ v) (old : Old w w') (h1 : w.heap.size ≤ d) (h2 : w.heap.size ≤ s) (h3 : w.heap.size ≤ v) (h4 : w.heap.size ≤ f) : Made n w (.returned (.tuple #[.pointer (some ⟨d, 0, none⟩), .int .i64 0])) w' := by
  refine ⟨d, ⟨s, v, f, .slice none 0 0, .pointer none⟩, rfl, ⟨DS.Ok.new h h', ⟨?_, hs, hv, hsv, hf, World.ownsRow_nil _ _ _ _, .inl ⟨rfl, rfl⟩⟩⟩, old, ?_⟩
  · simpa [DS.new] using hd
  · rintro k (rfl | rfl | rfl | rfl | hk | hk)
    · exact h1
    · exact h2
    · exact h3
    · exact h4
    · cases hk
    · cases hk

theorem new_no (n : Int) (h : n < 10 ∨ 4096 < n) (w : World) :
    Calls Tryz.prog 36 #[.int .i64 n] w fun e w' => e = .returned (.tuple #[.pointer none, .int .i64 1]) ∧ w = w' := by
  by_cases h0 : n < 10
  · clear h
    go_enter Tryz.func36, Tryz.ntmps36
    go_wp2
    go_ret2
    exact ⟨rfl, rfl⟩
  · have h1 : 4096 < n := by omega
    clear h
    go_enter Tryz.func36, Tryz.ntmps36
    go_wp2
    go_ret2
    exact ⟨rfl, rfl⟩

set_option maxRecDepth 100000 in
set_option maxHeartbeats 1600000 in
theorem new_yes (n : Nat) (h : 10 ≤ n) (h' : n ≤ 4096) (w : World) : Calls Tryz.prog 36 #[.int .i64 n] w (Made n w) := by
  have H := Lib.hid h
  have H' := Lib.hid h'
  have h0 : ¬ (n : Int) < 10 := by omega
  have h1 : ¬ 4096 < (n : Int) := by omega
  have hmk : ∀ w, (Instr.makeSlice 89 (.int .i64 n) (.int .i64 n)).run Tryz.prog w = .ok (.slice (some ⟨w.heap.size, 0, none⟩) n n) (w.alloc (.cells (rows (List.replicate n (zeros 96))).toArray 105)) := make_tracks n h'
  have hgo : ∀ (W : World) (d s v f : Nat), Blk W d 100 (head ⟨s, v, f, .slice none 0 0, .pointer none⟩ n 0) → Blk W s 105 (rows (List.replicate n (zeros 96))) → Blk W v 105 (rows (List.replicate n (zeros 96))) → Blk W f 112 [.int .u32 0] → s ≠ v → Old w W → w.heap.size ≤ d → w.heap.size ≤ s → w.heap.size ≤ v → w.heap.size ≤ f → Made n w (.returned (.tuple #[.pointer (some ⟨d, 0, none⟩), .int .i64 0])) W := fun W d s v f a1 a2 a3 a4 a5 a6 a7 a8 a9 a10 => made_of h h' a1 a2 a3 a4 a5 a6 a7 a8 a9 a10
  have HGo := Lib.hid hgo
  clear h h' hgo
  generalize rows (List.replicate n (zeros 96)) = R at *
  go_enter Tryz.func36, Tryz.ntmps36
  go_wp2_with fail
  go_region_held3 (fun _ => True) (trivial) (fail)
  all_goals
    clear hmk
    go_wp2_with fail
    go_ret2
    first
    | (have F := four w R R [.int .u32 0] (head ⟨w.heap.size, w.heap.size + 1, w.heap.size + 1 + 1, .slice none 0 0, .pointer none⟩ n 0) 105 105 112 100
       exact HGo.out _ _ _ _ _ F.2.2.2.1 F.1 F.2.1 F.2.2.1 (by omega) F.2.2.2.2.drew (by omega) (by omega) (by omega) (by omega))
    | (have F := four w R R [.int .u32 0] (head ⟨w.heap.size + 1, w.heap.size, w.heap.size + 1 + 1, .slice none 0 0, .pointer none⟩ n 0) 105 105 112 100
       exact HGo.out _ _ _ _ _ F.2.2.2.1 F.2.1 F.1 F.2.2.1 (by omega) F.2.2.2.2.drew (by omega) (by omega) (by omega) (by omega))
    | (have F := four w R [.int .u32 0] R (head ⟨w.heap.size, w.heap.size + 1 + 1, w.heap.size + 1, .slice none 0 0, .pointer none⟩ n 0) 105 112 105 100
       exact HGo.out _ _ _ _ _ F.2.2.2.1 F.1 F.2.2.1 F.2.1 (by omega) F.2.2.2.2.drew (by omega) (by omega) (by omega) (by omega))
    | (have F := four w R [.int .u32 0] R (head ⟨w.heap.size + 1 + 1, w.heap.size, w.heap.size + 1, .slice none 0 0, .pointer none⟩ n 0) 105 112 105 100
       exact HGo.out _ _ _ _ _ F.2.2.2.1 F.2.2.1 F.1 F.2.1 (by omega) F.2.2.2.2.drew (by omega) (by omega) (by omega) (by omega))
    | (have F := four w [.int .u32 0] R R (head ⟨w.heap.size + 1, w.heap.size + 1 + 1, w.heap.size, .slice none 0 0, .pointer none⟩ n 0) 112 105 105 100
       exact HGo.out _ _ _ _ _ F.2.2.2.1 F.2.1 F.2.2.1 F.1 (by omega) F.2.2.2.2.drew (by omega) (by omega) (by omega) (by omega))
    | (have F := four w [.int .u32 0] R R (head ⟨w.heap.size + 1 + 1, w.heap.size + 1, w.heap.size, .slice none 0 0, .pointer none⟩ n 0) 112 105 105 100
       exact HGo.out _ _ _ _ _ F.2.2.2.1 F.2.2.1 F.2.1 F.1 (by omega) F.2.2.2.2.drew (by omega) (by omega) (by omega) (by omega))
end Go.Proofs.YtjajenkagcdhlaaGreat
