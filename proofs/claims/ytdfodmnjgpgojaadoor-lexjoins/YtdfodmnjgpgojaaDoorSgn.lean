/- The contracts of strings.HasPrefix and lex.signSize; tables of texts. -/
import Derived.Test.YtdfodmnjgpgojaaDoorLeaf
import Derived.Deep.MidRow
namespace Go.Proofs.YtdfodmnjgpgojaaDoor
open Go.RowKit Go.PlainAid
set_option maxRecDepth 100000

set_option maxHeartbeats 1600000 in
theorem hasPrefix_any (s p : ByteArray) (w : World) : Calls Tryd.prog 38 #[.string s, .string p] w fun e w' => e = .returned (.bool (decide (p.size ≤ s.size) && ((s.extract 0 p.size).toList == p.toList))) ∧ w' = w := by
  go_enter Tryd.func38, Tryd.ntmps38
  go_wp2
  all_goals (go_ret; refine ⟨?_, rfl⟩; simp [*])

/-- A package-level table of texts. -/
def Tbl (w : World) (g : Nat) (l : List ByteArray) : Prop := ∀ i, i < l.length → w.cell? ⟨g, i, none⟩ = some (.string (l.getD i ByteArray.empty))
def strCells (l : List ByteArray) : List Value := l.map Value.string
theorem strCells_get (l : List ByteArray) (i : Nat) (h : i < l.length) : (strCells l)[i]? = some (.string (l.getD i ByteArray.empty)) := by
  unfold strCells
  rw [List.getElem?_map, List.getElem?_eq_getElem h, List.getD_eq_getElem?_getD, List.getElem?_eq_getElem h]
  rfl
theorem Tbl.old {w w' : World} {g : Nat} {l : List ByteArray} {S : Nat → Prop} (h : Tbl w g l) (t : Touch S w w') (hn : ¬ S g) : Tbl w' g l := fun i hi => by
  have := h i hi
  rw [t.cell (p := ⟨g, i, none⟩) (lt_of_cell? this) hn]
  exact this
theorem Tbl.range {w : World} {g : Nat} {l : List ByteArray} (h : Tbl w g l) : w.rangeAt g 0 (strCells l) := by
  intro j v hv
  have hj : j < l.length := by
    rcases Nat.lt_or_ge j l.length with q | q
    · exact q
    · rw [List.getElem?_eq_none (by simpa [strCells] using q)] at hv; cases hv
  rw [strCells_get l j hj] at hv
  cases hv
  rw [Nat.zero_add]
  exact h j hj
theorem run_index_strs {t n : Nat} (hu : Tryd.prog.underlying t = some (.array n 9)) (l : List ByteArray) (k : Nat) (hk : k < n) (hl : l.length = n) (w : World) :
    (Instr.index t (.agg (strCells l).toArray) (.int .i64 (k : Int))).run Tryd.prog w = .ok (.string (l.getD k ByteArray.empty)) w := by
  have hg := strCells_get l k (by omega)
  simp [Instr.index, run_underlying hu, asIntOf, go_sem, part, hg]
  intro q
  omega

/-- Begins s with p? -/
def preB (s p : ByteArray) : Bool := decide (p.size ≤ s.size) && ((s.extract 0 p.size).toList == p.toList)
def sgTab : List ByteArray := [⟨#[40]⟩, ⟨#[41]⟩, ⟨#[91]⟩, ⟨#[93]⟩, ⟨#[43]⟩, ⟨#[45]⟩, ⟨#[42]⟩, ⟨#[60]⟩, ⟨#[60, 61]⟩, ⟨#[62]⟩, ⟨#[62, 61]⟩, ⟨#[61, 61]⟩, ⟨#[33, 61]⟩, ⟨#[38, 38]⟩, ⟨#[124, 124]⟩, ⟨#[33]⟩, ⟨#[64]⟩, ⟨#[45, 62]⟩, ⟨#[59]⟩, ⟨#[61]⟩]
/-- The size of the longest one of the first k signs that s begins with. -/
def bestN (s : ByteArray) : Nat → Nat
  | 0 => 0
  | k + 1 => if (sgTab.getD k ByteArray.empty).size > bestN s k ∧ preB s (sgTab.getD k ByteArray.empty) = true then (sgTab.getD k ByteArray.empty).size else bestN s k

set_option maxHeartbeats 1600000 in
theorem signSize_best (s : ByteArray) (w : World) (h : Tbl w 3 sgTab) : Calls Tryd.prog 30 #[.string s] w fun e w' => e = .returned (.int .i64 (bestN s 20 : Int)) ∧ w' = w := by
  have HR := Lib.hid h.range
  obtain ⟨L, hL⟩ : ∃ L, L = strCells sgTab := ⟨_, rfl⟩
  have HX : Hid (∀ k : Nat, k < 20 → ∀ w, (Instr.index 62 (.agg L.toArray) (.int .i64 (k : Int))).run Tryd.prog w = .ok (.string (sgTab.getD k ByteArray.empty)) w) := fun k hk w => by
    rw [hL]
    exact run_index_strs Tryd.underlying62 sgTab k hk rfl w
  have HL := Lib.hid hL
  rw [← hL] at HR
  have h0 : bestN s 0 = 0 := rfl
  obtain ⟨B, hB⟩ : ∃ B : Nat → Nat, B = bestN s := ⟨_, rfl⟩
  rw [← hB] at h0 ⊢
  have HB := Lib.hid hB
  clear hL hB h
  go_enter Tryd.func30, Tryd.ntmps30
  go_wp2_with (with_reducible refine wpList_load_mid (op := ⟨some 6, _, _, _, _, _⟩) rfl 62 (.global 3) rfl 3 0 rfl L _ HR.out Tryd.underlying62 rfl (by rw [HL.out]; kernel_rfl) ?_)
  go_loopw [3, 5, 7] (fun v _ i wx => ∃ k : Nat, i = .int .i64 (k : Int) ∧ k ≤ 20 ∧ v = .int .i64 (B k : Int) ∧ wx = w) (fun _ _ i _ => 20 - (intOf i).toNat)
  case atStart => exact ⟨0, rfl, by omega, by rw [h0]; rfl, rfl⟩
  case round =>
    obtain ⟨k, rfl, hk, rfl, rfl⟩ := hrel
    clear h0
    by_cases q : k < 20
    · have q' : (k : Int) < 20 := by omega
      have hix := HX.out k q wr
      have HS : Hid (B (k + 1) = if (sgTab.getD k ByteArray.empty).size > B k ∧ preB s (sgTab.getD k ByteArray.empty) = true then (sgTab.getD k ByteArray.empty).size else B k) := by rw [HB.out]; rfl
      have HP := hasPrefix_any s (sgTab.getD k ByteArray.empty) wr
      rw [show (decide ((sgTab.getD k ByteArray.empty).size ≤ s.size) && ((s.extract 0 (sgTab.getD k ByteArray.empty).size).toList == (sgTab.getD k ByteArray.empty).toList)) = preB s (sgTab.getD k ByteArray.empty) from rfl] at HP
      generalize sgTab.getD k ByteArray.empty = g at *
      have HP := Lib.hid HP
      obtain ⟨z, hz⟩ : ∃ z, B k = z := ⟨_, rfl⟩
      obtain ⟨m, hm⟩ : ∃ m, g.size = m := ⟨_, rfl⟩
      rw [hz, hm] at HS
      rw [hz]
      by_cases q1 : m > z
      · have q1' : (z : Int) < (m : Int) := by omega
        cases hp : preB s g with
        | true =>
          rw [hp] at HP
          go_wp2_with (with_reducible refine HP.out.mono ?_; rintro e w' ⟨rfl, rfl⟩)
          have e : B (k + 1) = m := by rw [HS.out, if_pos ⟨q1, hp⟩]
          exact ⟨⟨k + 1, by rw [Int.natCast_add]; rfl, by omega, by rw [e], trivial⟩, by simp only [intOf]; omega⟩
        | false =>
          rw [hp] at HP
          go_wp2_with (with_reducible refine HP.out.mono ?_; rintro e w' ⟨rfl, rfl⟩)
          have e : B (k + 1) = z := by rw [HS.out, if_neg (by rw [hp]; simp)]
          exact ⟨⟨k + 1, by rw [Int.natCast_add]; rfl, by omega, by rw [e], trivial⟩, by simp only [intOf]; omega⟩
      · have q1' : ¬ (z : Int) < (m : Int) := by omega
        go_wp2_with fail
        have e : B (k + 1) = z := by rw [HS.out, if_neg (by omega)]
        exact ⟨⟨k + 1, by rw [Int.natCast_add]; rfl, by omega, by rw [e], trivial⟩, by simp only [intOf]; omega⟩
    · have q' : ¬ (k : Int) < 20 := by omega
      obtain rfl : k = 20 := by omega
      go_wp2_with fail
      go_ret
      exact ⟨rfl, rfl⟩
end Go.Proofs.YtdfodmnjgpgojaaDoor
