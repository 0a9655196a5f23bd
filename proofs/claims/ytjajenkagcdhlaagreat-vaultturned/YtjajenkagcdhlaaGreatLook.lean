/- Contracts of a drum's Break, Look, Afloat, New; of lariatlaw4.all. -/
import Derived.Test.YtjajenkagcdhlaaGreatMeth
import Derived.Test.YtjajenkagcdhlaaGreatText
namespace Go.Proofs.YtjajenkagcdhlaaGreat
open Go.RowKit
set_option maxRecDepth 100000

/-- The break that a number sets. -/
def breakOf (n : Int) : Option Nat := if n < 0 then none else some n.toNat

theorem head_well (b : Bl) (n t : Nat) (v : Value) : (head b n t).set 4 v = head { b with well := v } n t := rfl
theorem head_afl (b : Bl) (n t : Nat) (v : Value) : (head b n t).set 2 v = head { b with afl := v } n t := rfl
theorem head_flag (b : Bl) (n t g : Nat) : (head b n t).set 5 (.pointer (some ⟨g, 0, none⟩)) = head { b with f := g } n t := rfl

/-- A drum's other cells stay where one of its own is written. -/
theorem At.well_set {d : Nat} {b : Bl} {D : DS} {V : List (List Nat)} {w : World} (A : At d b D V w) (v : Value) (l : Option Nat) (hl : Well l v (w.setCell ⟨d, 4, none⟩ v)) : At d { b with well := v } { D with left := l } V (w.setCell ⟨d, 4, none⟩ v) := by
  have T : Touch (fun k => k = d) w (w.setCell ⟨d, 4, none⟩ v) := Touch.one ⟨d, 4, none⟩ v
  exact ⟨by rw [← head_well]; exact A.head.set 4 v, A.set.touch T A.ds.symm, A.see.touch T A.dv.symm, A.sv, A.flag.touch T A.df.symm, owns_touch A.own T (fun k hk e => own_blk A.own A.head (by decide) (by rw [hk, e])), hl⟩

theorem break_any (d : Nat) (b : Bl) (D : DS) (n : Int) (hn : n ≤ 1000) (w : World) (h : Dr d b D w) :
    Calls Tryz.prog 24 #[.pointer (some ⟨d, 0, none⟩), .int .i64 n] w fun e w' => e = .returned (.tuple #[]) ∧ Done d b (D.brk (breakOf n)) w w' := by
  have hc : w.cell? ⟨d, 4, none⟩ = some b.well := h.at_.head.cell 4
  have hf : w.frozen? ⟨d, 4, none⟩ = false := h.at_.head.frozen 4
  have A1 := h.at_.well_set (.pointer none) none (.inl ⟨rfl, rfl⟩)
  have T1 : Touch (foot d b) w (w.setCell ⟨d, 4, none⟩ (.pointer none)) := (Touch.one ⟨d, 4, none⟩ (.pointer none)).mono (fun k _ hk => .inl hk)
  have H := Lib.hid h
  have HA := Lib.hid A1
  have HT := Lib.hid T1
  clear h A1 T1
  by_cases h0 : n < 0
  · have e : breakOf n = none := if_pos h0
    have E := Lib.hid e
    clear e
    have h1 : ¬ 0 ≤ n := by omega
    go_enter Tryz.func24, Tryz.ntmps24
    go_wp2_with fail
    go_end0
    refine ⟨rfl, { b with well := .pointer none }, ⟨H.out.ok.brk (by rw [E.out]; intro m hm; cases hm), ?_⟩, HT.out, ?_⟩
    · rw [E.out]; exact HA.out
    · rintro k (hk | hk | hk | hk | hk | hk)
      · exact .inl (.inl hk)
      · exact .inl (.inr (.inl hk))
      · exact .inl (.inr (.inr (.inl hk)))
      · exact .inl (.inr (.inr (.inr (.inl hk))))
      · exact .inl (.inr (.inr (.inr (.inr (.inl hk)))))
      · cases hk
  · obtain ⟨m, rfl⟩ : ∃ m : Nat, n = (m : Int) := ⟨n.toNat, by omega⟩
    have e : breakOf (m : Int) = some m := by unfold breakOf; rw [if_neg h0]; rfl
    have E := Lib.hid e
    clear e
    have h1 : (0 : Int) ≤ (m : Int) := by omega
    generalize hw1 : w.setCell ⟨d, 4, none⟩ (.pointer none) = w1 at *
    have hsz : w.heap.size ≤ w1.heap.size := HT.out.size
    have HS := Lib.hid hsz
    clear hsz
    go_enter Tryz.func24, Tryz.ntmps24
    go_wp2_with fail
    refine (new_budget m (by unfold most; omega) w1).mono ?_
    rintro e w2 ⟨rfl, K, T⟩
    have hlt := HA.out.head.lt
    have A2 := HA.out.touch T (fun _ _ q => q)
    have hc2 : w2.cell? ⟨d, 4, none⟩ = some (.pointer none) := A2.head.cell 4
    have hf2 : w2.frozen? ⟨d, 4, none⟩ = false := A2.head.frozen 4
    have hgd : w1.heap.size ≠ d := by omega
    have K3 := K.touch (Touch.one ⟨d, 4, none⟩ (.pointer (some ⟨w1.heap.size, 0, none⟩))) hgd
    have A3 := Lib.hid (A2.well_set (.pointer (some ⟨w1.heap.size, 0, none⟩)) (some m) (.inr ⟨_, m, _, rfl, rfl, K3⟩))
    have HT2 := Lib.hid T
    clear K T A2 K3 hc hf hw1
    go_wp2_with fail
    go_end0
    refine ⟨rfl, { b with well := .pointer (some ⟨w1.heap.size, 0, none⟩) }, ⟨H.out.ok.brk (by rw [E.out]; intro m hm; cases hm; omega), ?_⟩, (HT.out.trans (Touch.of_old HT2.out)).trans ((Touch.one ⟨d, 4, none⟩ _).mono (fun k _ hk => .inl hk)), ?_⟩
    · rw [E.out]; exact A3.out
    · rintro k (hk | hk | hk | hk | hk | hk)
      · exact .inl (.inl hk)
      · exact .inl (.inr (.inl hk))
      · exact .inl (.inr (.inr (.inl hk)))
      · exact .inl (.inr (.inr (.inr (.inl hk))))
      · exact .inl (.inr (.inr (.inr (.inr (.inl hk)))))
      · right
        have : w1.heap.size = k := by simpa using hk
        have := HS.out
        omega

/-- What a Look answers: bytes, or an error. -/
def Looked (xs : List Nat) (w : World) (e : Ending) (w' : World) : Prop := ∃ g, e = .returned (.tuple #[.slice (some ⟨g, 0, none⟩) 96 96, .int .i64 0]) ∧ w.heap.size ≤ g ∧ Blk w' g 5 (cells xs) ∧ Old w w'

theorem look_arg (d : Nat) (k : Int) (b : Bl) (D : DS) (V : List (List Nat)) (w : World) (h : At d b D V w) (hk : k < 0 ∨ (D.T.length : Int) ≤ k) :
    Calls Tryz.prog 28 #[.pointer (some ⟨d, 0, none⟩), .int .i64 k] w fun e w' => e = .returned (.tuple #[.slice none 0 0, .int .i64 1]) ∧ w = w' := by
  have H := Lib.hid (has_no d k b D V w h hk)
  clear h hk
  go_enter Tryz.func28, Tryz.ntmps28
  go_wp2_with fail
  refine H.out.mono ?_
  rintro e w' ⟨rfl, rfl⟩
  go_wp2_with fail
  go_ret2
  exact ⟨rfl, rfl⟩

theorem look_down (d k : Nat) (b : Bl) (D : DS) (V : List (List Nat)) (w : World) (h : At d b D V w) (hk : k < D.T.length) (hd : D.down = true) :
    Calls Tryz.prog 28 #[.pointer (some ⟨d, 0, none⟩), .int .i64 k] w fun e w' => e = .returned (.tuple #[.slice none 0 0, .int .i64 4]) ∧ w = w' := by
  have H := Lib.hid (has_yes d k b D V w h hk)
  have hc : w.cell? ⟨d, 5, none⟩ = some (.pointer (some ⟨b.f, 0, none⟩)) := h.head.cell 5
  have hf : Hid (w.cell? ⟨b.f, 0, none⟩ = some (.int .u32 (bit D.down))) := h.flag.cell 0
  have Hd := Lib.hid hd
  clear h hk hd
  go_enter Tryz.func28, Tryz.ntmps28
  go_wp2_with fail
  refine H.out.mono ?_
  rintro e w' ⟨rfl, rfl⟩
  go_wp2_with fail
  refine (flag_raised b.f D.down w hf.out).mono ?_
  rintro e w' ⟨rfl, rfl⟩
  rw [Hd.out]
  go_wp2_with fail
  go_ret2
  exact ⟨rfl, rfl⟩

set_option maxRecDepth 100000 in
theorem look_ok (d k : Nat) (b : Bl) (D : DS) (V : List (List Nat)) (w : World) (h : At d b D V w) (hV : ∀ b ∈ V, Trk b) (hk : k < D.T.length) (hl : V.length = D.T.length) (hd : D.down = false) :
    Calls Tryz.prog 28 #[.pointer (some ⟨d, 0, none⟩), .int .i64 k] w (Looked (V.getD k []) w) := by
  have H := Lib.hid (has_yes d k b D V w h hk)
  have hc : w.cell? ⟨d, 5, none⟩ = some (.pointer (some ⟨b.f, 0, none⟩)) := h.head.cell 5
  have hf : Hid (w.cell? ⟨b.f, 0, none⟩ = some (.int .u32 (bit D.down))) := h.flag.cell 0
  have Hd := Lib.hid hd
  obtain ⟨xs, hx⟩ := get_of_lt (l := V) (n := k) (by omega)
  rw [getD_of hx]
  have hT := hV xs (mem_of_get hx)
  have hmk : (Instr.makeSlice 30 (.int .i64 96) (.int .i64 96)).run Tryz.prog w = .ok (.slice (some ⟨w.heap.size, 0, none⟩) 96 96) (w.alloc (.cells (cells (zeros 96)).toArray 5)) := make_bytes 96 (by decide) w
  have T0 : Old w (w.alloc (.cells (cells (zeros 96)).toArray 5)) := (Touch.refl _ _).alloc _
  have A1 := h.touch T0 (fun _ _ q => q)
  have hc1 : (w.alloc (.cells (cells (zeros 96)).toArray 5)).cell? ⟨d, 1, none⟩ = some (.slice (some ⟨b.v, 0, none⟩) D.T.length D.T.length) := A1.head.cell 1
  obtain ⟨w1, hcp, K1, T1⟩ := copy_at _ _ 5 _ 0 xs _ 96 96 96 96 (Blk.new w 5 (cells (zeros 96))) (rows_has hV A1.see hx) hT.len (by rw [cells_length, zeros_length]; omega)
  have hsp : splice (cells (zeros 96)) 0 (cells (xs.take 96)) = cells xs := by
    rw [List.take_of_length_le (by rw [hT.len]; exact Nat.le_refl _)]
    unfold splice
    rw [List.drop_eq_nil_of_le (by rw [cells_length, cells_length, zeros_length, hT.len]; omega)]
    simp
  rw [hsp] at K1
  have HK := Lib.hid K1
  have HT := Lib.hid (T0.own T1 (Nat.le_refl _))
  generalize w.alloc (.cells (cells (zeros 96)).toArray 5) = w0 at *
  generalize D.T.length = n at *
  have hk0 : (0 : Int) ≤ (k : Int) := by omega
  have hk1 : (k : Int) < (n : Int) := by omega
  clear h hd hx hT T0 A1 K1 T1 hsp hV hl
  go_enter Tryz.func28, Tryz.ntmps28
  go_wp2_with fail
  refine H.out.mono ?_
  rintro e w' ⟨rfl, rfl⟩
  go_wp2_with fail
  refine (flag_raised b.f D.down w hf.out).mono ?_
  rintro e w' ⟨rfl, rfl⟩
  rw [Hd.out]
  go_wp2_with fail
  go_ret2
  exact ⟨_, rfl, Nat.le_refl _, HK.out, HT.out⟩
end Go.Proofs.YtjajenkagcdhlaaGreat
