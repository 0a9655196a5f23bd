/- The contract of drum.marked; numbers that came in. -/
import Derived.Test.YtjajenkagcdhlaaGreatSettle
namespace Go.Proofs.YtjajenkagcdhlaaGreat
open Go.RowKit
set_option maxRecDepth 100000

/-- The slice whose cells begin at a has the numbers ys. -/
structure HasI (w : World) (a : Option Addr) (ys : List Int) : Prop where
  cell : ∀ i, i < ys.length → ∃ b off, a = some ⟨b, off, none⟩ ∧ w.cell? ⟨b, off + i, none⟩ = some (.int .i64 (ys.getD i 0))
theorem HasI.nil (w : World) (a : Option Addr) : HasI w a [] := ⟨fun _ hi => absurd hi (Nat.not_lt_zero _)⟩
theorem HasI.touch {S : Nat → Prop} {w w' : World} {a : Option Addr} {ys : List Int} (h : HasI w a ys) (m : Touch S w w') (hn : ∀ b o, a = some ⟨b, o, none⟩ → ¬ S b) : HasI w' a ys :=
  ⟨fun i hi => by
    obtain ⟨b, off, rfl, hc⟩ := h.cell i hi
    exact ⟨b, off, rfl, (m.cell (p := ⟨b, off + i, none⟩) (lt_of_cell? hc) (hn b off rfl)).trans hc⟩⟩
theorem HasI.old {w w' : World} {a : Option Addr} {ys : List Int} (h : HasI w a ys) (m : Old w w') : HasI w' a ys := h.touch m (fun _ _ _ h => h)

/-- Truths in memory. -/
def flags (f : Nat → Bool) (n : Nat) : List Value := (List.range n).map fun i => Value.bool (f i)
theorem flags_length (f : Nat → Bool) (n : Nat) : (flags f n).length = n := by simp [flags]
theorem flags_get (f : Nat → Bool) (n i : Nat) (h : i < n) : (flags f n)[i]? = some (.bool (f i)) := by simp [flags, h]
theorem flags_congr {f g : Nat → Bool} {n : Nat} (h : ∀ i, i < n → f i = g i) : flags f n = flags g n := by
  apply List.ext_getElem?
  intro i
  rcases Nat.lt_or_ge i n with hi | hi
  · rw [flags_get _ _ _ hi, flags_get _ _ _ hi, h i hi]
  · rw [List.getElem?_eq_none (by rw [flags_length]; exact hi), List.getElem?_eq_none (by rw [flags_length]; exact hi)]
theorem flags_set {f g : Nat → Bool} {n k : Nat} (_hk : k < n) (h : ∀ i, i < n → g i = (f i || i == k)) : (flags f n).set k (.bool true) = flags g n := by
  apply List.ext_getElem?
  intro i
  rcases Nat.lt_or_ge i n with hi | hi
  · rw [flags_get _ _ _ hi, h i hi]
    by_cases e : k = i
    · subst e
      rw [List.getElem?_set_self (by rw [flags_length]; exact hi)]
      simp
    · rw [List.getElem?_set_ne e, flags_get _ _ _ hi]
      have : (i == k) = false := by simp; omega
      rw [this, Bool.or_false]
  · rw [List.getElem?_eq_none (by rw [List.length_set, flags_length]; exact hi), List.getElem?_eq_none (by rw [flags_length]; exact hi)]

/-- Is the number i among them? -/
def among (ys : List Int) (i : Nat) : Bool := decide ((i : Int) ∈ ys)
theorem among_snoc (ys : List Int) (y : Int) (i : Nat) : among (ys ++ [y]) i = (among ys i || decide ((i : Int) = y)) := by
  unfold among
  rw [Bool.eq_iff_iff]
  simp

theorem info4 : (Tryz.prog.info? 4).map (fun i => (i.zero, i.size, i.bytes)) = some (some (.bool false), 1, 1) := by kernel_rfl
theorem made_bools (n : Nat) : madeCells (Value.bool false).cells n = (flags (fun _ => false) n).toArray := by
  apply Array.ext'
  apply List.ext_getElem?
  intro i
  rcases Nat.lt_or_ge i n with h | h
  · simp only [madeCells, flags]
    simp [h, Value.cells, Nat.mod_one]
  · simp [madeCells, flags, Nat.not_lt.2 h]
theorem make_bools (n : Nat) (hn : n ≤ 281474976710) (w : World) : (Instr.makeSlice 102 (.int .i64 n) (.int .i64 n)).run Tryz.prog w = .ok (.slice (some ⟨w.heap.size, 0, none⟩) n n) (w.alloc (.cells (flags (fun _ => false) n).toArray 4)) := by
  obtain ⟨i0, hi, hz0, hz1, hz2⟩ := info_parts info4
  have h := run_make (P := Tryz.prog) w 102 4 i0 (.bool false) Tryz.underlying102 hi hz0 .i64 .i64 (n : Int) (n : Int) (by omega) (by omega) (by rw [hz2]; omega) (by omega)
  rw [hz1] at h
  rw [h, ← made_bools]
  simp

theorem take_get {α : Type} {l : List α} {i : Nat} {x : α} (h : l[i]? = some x) : l.take (i + 1) = l.take i ++ [x] := by
  have hl := lt_of_get h
  rw [List.take_succ_eq_append_getElem hl]
  congr 2
  rw [List.getElem?_eq_getElem hl] at h
  injection h

set_option maxRecDepth 100000 in
theorem marked_any (a : Option Addr) (ys : List Int) (len cap n : Nat) (hn : n ≤ 100000) (w : World) (h : HasI w a ys) (hlen : ys.length = len) (hm : len ≤ 9223372036854775806) :
    Calls Tryz.prog 57 #[.slice a len cap, .int .i64 n] w fun e w' => e = .returned (.slice (some ⟨w.heap.size, 0, none⟩) n n) ∧ Blk w' w.heap.size 4 (flags (among ys) n) ∧ Old w w' := by
  have hmk := make_bools n (by omega) w
  have HK0 : Hid (Blk (w.alloc (.cells (flags (fun _ => false) n).toArray 4)) w.heap.size 4 (flags (among (ys.take 0)) n)) := by
    show Blk _ _ _ _
    rw [show flags (among (ys.take 0)) n = flags (fun _ => false) n from flags_congr (fun i _ => by simp [among])]
    exact Blk.new w 4 _
  have HT0 : Hid (Old w (w.alloc (.cells (flags (fun _ => false) n).toArray 4))) := (Touch.refl _ _).alloc _
  have H := Lib.hid h
  have HL := Lib.hid hlen
  clear h hlen
  generalize w.alloc (.cells (flags (fun _ => false) n).toArray 4) = w0 at *
  go_enter Tryz.func57, Tryz.ntmps57
  go_wp2_with fail
  go_loopw [12] (fun i wx => ∃ t : Nat, t ≤ len ∧ i = .int .i64 t ∧ Hid (Blk wx w.heap.size 4 (flags (among (ys.take t)) n)) ∧ Hid (Old w wx)) (fun i _ => len - (intOf i).toNat)
  case atStart => exact ⟨0, by omega, rfl, HK0, HT0⟩
  case round =>
    obtain ⟨t, hle, rfl, HK, HT⟩ := hrel
    clear HK0 HT0 hmk
    by_cases hlt : t < len
    · obtain ⟨y, hy⟩ := get_of_lt (l := ys) (n := t) (by rw [HL.out]; exact hlt)
      obtain ⟨bb, off, rfl, hc⟩ := (H.out.old HT.out).cell t (by rw [HL.out]; exact hlt)
      rw [getD_of hy] at hc
      have HS : Hid (ys.take (t + 1) = ys.take t ++ [y]) := take_get hy
      have h0 : (0 : Int) ≤ (t : Int) := by omega
      have h1 : (t : Int) < (len : Int) := by omega
      clear hy
      by_cases hin : 0 ≤ y ∧ y < (n : Int)
      · obtain ⟨k, rfl⟩ : ∃ k : Nat, y = (k : Int) := ⟨y.toNat, by omega⟩
        have hk : k < n := by omega
        have hcz := (HK.out.cell k).trans (flags_get _ _ _ hk)
        have hfz := HK.out.frozen k
        have hk0 : (0 : Int) ≤ (k : Int) := by omega
        have hk1 : (k : Int) < (n : Int) := by omega
        have HN : Hid (Blk (wr.setCell ⟨w.heap.size, k, none⟩ (.bool true)) w.heap.size 4 (flags (among (ys.take (t + 1))) n)) := by
          show Blk _ _ _ _
          have := HK.out.set k (.bool true)
          rw [flags_set hk (g := among (ys.take (t + 1))) (fun i hi => by rw [HS.out, among_snoc]; congr 1; rw [Bool.eq_iff_iff]; simp; omega)] at this
          exact this
        have HO : Hid (Old w (wr.setCell ⟨w.heap.size, k, none⟩ (.bool true))) := HT.out.setCell (p := ⟨w.heap.size, k, none⟩) (.inr (Nat.le_refl _)) _
        clear HK HT HS hin
        generalize among (List.take t ys) k = u at *
        go_wp2_with fail
        refine ⟨⟨t + 1, by omega, by go_num, HN, HO⟩, by simp [intOf]; omega⟩
      · have HN : Hid (Blk wr w.heap.size 4 (flags (among (ys.take (t + 1))) n)) := by
          show Blk _ _ _ _
          have e : flags (among (ys.take (t + 1))) n = flags (among (ys.take t)) n := flags_congr (fun i hi => by
            rw [HS.out, among_snoc]
            have e1 : decide ((i : Int) = y) = false := by simp; omega
            rw [e1, Bool.or_false])
          rw [e]
          exact HK.out
        clear HK HS
        by_cases hy0 : 0 ≤ y
        · have hy1 : ¬ y < (n : Int) := by omega
          clear hin
          go_wp2_with fail
          refine ⟨⟨t + 1, by omega, by go_num, HN, HT⟩, by simp [intOf]; omega⟩
        · clear hin
          go_wp2_with fail
          refine ⟨⟨t + 1, by omega, by go_num, HN, HT⟩, by simp [intOf]; omega⟩
    · obtain rfl : t = len := by omega
      go_wp2_with fail
      go_ret
      refine ⟨rfl, ?_, HT.out⟩
      have := HK.out
      rw [List.take_of_length_le (by rw [HL.out]; exact Nat.le_refl _)] at this
      exact this
end Go.Proofs.YtjajenkagcdhlaaGreat
