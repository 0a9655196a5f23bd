/- The walk of lariatlaw1.OnceCells. -/
import Derived.Test.YtnhepceannajeaaCellsB
import Derived.Maps.AppendAt
namespace Go.Proofs.Ytnhepceannajeaa
open Go.RowKit Go.MuLone Go.Conc.Locks Go.Maps

theorem info3 : (Try.prog.info? 3).map (fun i => (i.zero, i.size, i.bytes)) = some (some (.int .i64 0), 1, 8) := by kernel_rfl
theorem info4 : (Try.prog.info? 4).map (fun i => (i.zero, i.size, i.bytes)) = some (some (.bool false), 1, 1) := by kernel_rfl
theorem info23 : (Try.prog.info? 23).map (fun i => (i.zero, i.size, i.bytes)) = some (some (.pointer none), 1, 8) := by kernel_rfl

/-- A row of n zero elements. -/
def zeros (z : Value) (n : Nat) : Array Value := madeCells z.cells n
theorem zeros_get (z : Value) (hz : z.cells = #[z]) (n m : Nat) (h : m < n) : (zeros z n)[m]? = some z := by
  unfold zeros
  rw [hz, ← Array.getElem?_toList, toList_madeCells_one]
  simp [h]
theorem zeros_size (z : Value) (n : Nat) : (zeros z n).size = n := size_madeCells _ _

theorem make_ints (n : Nat) (hn : n ≤ 1000) (w : World) : (Instr.makeSlice 39 (.int .i64 n) (.int .i64 n)).run Try.prog w = .ok (.slice (some ⟨w.heap.size, 0, none⟩) n n) (w.alloc (.cells (zeros (.int .i64 0) n) 3)) := by
  obtain ⟨i0, hi, hz0, hz1, hz2⟩ := info_parts info3
  have h := run_make (P := Try.prog) w 39 3 i0 (.int .i64 0) Try.underlying39 hi hz0 .i64 .i64 (n : Int) (n : Int) (by omega) (by omega) (by rw [hz2]; omega) (by omega)
  rw [hz1] at h
  simpa [zeros] using h
theorem make_bools (n : Nat) (hn : n ≤ 1000) (w : World) : (Instr.makeSlice 41 (.int .i64 n) (.int .i64 n)).run Try.prog w = .ok (.slice (some ⟨w.heap.size, 0, none⟩) n n) (w.alloc (.cells (zeros (.bool false) n) 4)) := by
  obtain ⟨i0, hi, hz0, hz1, hz2⟩ := info_parts info4
  have h := run_make (P := Try.prog) w 41 4 i0 (.bool false) Try.underlying41 hi hz0 .i64 .i64 (n : Int) (n : Int) (by omega) (by omega) (by rw [hz2]; omega) (by omega)
  rw [hz1] at h
  simpa [zeros] using h

theorem loop1_begin (w w1 : World) (a0 : Option Addr) (len0 cap0 N : Nat) (f : Nat → Int) (hb : Below w.heap.size w w1) (hs : w.heap.size < w1.heap.size) (hn : w1.cell? ⟨w.heap.size, 0, none⟩ = some (.slice a0 len0 cap0)) (hf : w1.frozen? ⟨w.heap.size, 0, none⟩ = false) :
    Loop1 w.heap.size w.heap.size (w1.heap.size + 1) w1.heap.size N a0 len0 cap0 0 (fun _ => 0) (fun _ => 0) f (.slice none 0 0) (w1.heap.size + 1 + 1) w
      (((w1.alloc (.cells (zeros (.int .i64 0) N) 3)).alloc (.cells #[.slice (some ⟨w1.heap.size, 0, none⟩) N N] 39)).alloc (.cells #[.int .i64 0] 3)) := by
  obtain ⟨w2, hw2⟩ : ∃ w2, w2 = w1.alloc (.cells (zeros (.int .i64 0) N) 3) := ⟨_, rfl⟩
  have z2 : w2.heap.size = w1.heap.size + 1 := by rw [hw2]; simp
  have V2 : Var w.heap.size (.slice a0 len0 cap0) w2 := by rw [hw2]; exact Var.alloc ⟨hn, hf⟩ _
  have c2 : ∀ m, m < N → w2.cell? ⟨w1.heap.size, m, none⟩ = some (.int .i64 0) ∧ w2.frozen? ⟨w1.heap.size, m, none⟩ = false := fun m hm => by
    rw [hw2, World.cell_new, World.frozen_new, zeros_get _ rfl N m hm]; exact ⟨rfl, rfl⟩
  have b2 : Below w.heap.size w w2 := by rw [hw2]; exact hb.alloc (by omega) _
  rw [← hw2]
  clear hw2
  obtain ⟨w3, hw3⟩ : ∃ w3, w3 = w2.alloc (.cells #[.slice (some ⟨w1.heap.size, 0, none⟩) N N] 39) := ⟨_, rfl⟩
  have z3 : w3.heap.size = w1.heap.size + 1 + 1 := by rw [hw3]; simp [z2]
  have t3 : Touch (fun _ => False) w2 w3 := by rw [hw3]; exact (Touch.refl _ _).alloc _
  have V3 : Var (w1.heap.size + 1) (.slice (some ⟨w1.heap.size, 0, none⟩) N N) w3 := by rw [hw3, ← z2]; exact Var.new _ _ _
  rw [← hw3]
  clear hw3
  have t4 : Touch (fun _ => False) w3 (w3.alloc (.cells #[.int .i64 0] 3)) := (Touch.refl _ _).alloc _
  have t24 := t3.trans t4
  refine ⟨⟨V2.touch t24 (fun h => h), V3.touch t4 (fun h => h), fun m hm => ?_, (fun m hm => by omega), (fun m hm => by omega), (fun m hm => by omega), (fun m hm => by omega), by omega, by omega, (fun m m' hm => by omega), by omega, (fun m hm => by omega), Nat.zero_le _, by simp; omega, b2.trans (t24.below (by omega) (fun _ _ h => h))⟩, World.ownsRow_nil _ _ _ _, fun _ => rfl, ?_, by omega⟩
  · have := c2 m hm
    have hl := lt_of_cell? this.1
    exact ⟨(t24.cell (p := ⟨w1.heap.size, m, none⟩) hl (fun h => h)).trans this.1, (t24.frozen (p := ⟨w1.heap.size, m, none⟩) hl (fun h => h)).trans this.2⟩
  · rw [← z3]; exact Var.new _ _ _

theorem loop2_begin {B bv bk Bc n : Nat} {a : Option Addr} {len cap : Nat} {cb ib : Nat → Nat} {f : Nat → Int} {v : Value} {bi : Nat} {w0 w : World} (L : Loop1 B bv bk Bc n a len cap n cb ib f v bi w0 w) (h0 : 0 < n) :
    ∃ g gcap, v = .slice (some ⟨g, 0, none⟩) n gcap ∧ Loop2 B bv bk Bc n a len cap cb ib f g w.heap.size (fun _ => false) (fun _ => false) w0 (w.alloc (.cells (zeros (.bool false) n) 4)) := by
  have hT : Touch (fun _ => False) w (w.alloc (.cells (zeros (.bool false) n) 4)) := (Touch.refl _ _).alloc _
  have hown := L.own
  obtain ⟨hl, h | ⟨g, gcap, cur, hv, hg, hh, hcap, hm, hsz, hcur⟩⟩ := L.own
  · omega
  · refine ⟨g, gcap, hv, L.at'.same hT, fun m hm' => ?_, fun m hm' => ?_, L.at'.low⟩
    · have e := hown.cells (g := g) (by rw [hv]; rfl) m _ (ptrs_get cb hm')
      rw [Go.WideShapes.add_plain, Nat.zero_add] at e
      exact (hT.cell (p := ⟨g, m, none⟩) (by have := lt_of_cell? e; simpa using this) (fun h => h)).trans e
    · rw [World.cell_new, World.frozen_new, zeros_get _ rfl n m hm']; exact ⟨rfl, rfl⟩

set_option maxRecDepth 100000 in
set_option maxHeartbeats 1600000 in
theorem cells_law (a0 : Option Addr) (len0 cap0 : Nat) (a1 : Option Addr) (len1 cap1 : Nat) (w : World) (h0 : Row w a0 len0) (hr : Row w a1 len1) :
    Calls Try.prog 5 #[.slice a0 len0 cap0, .slice a1 len1 cap1] w fun e w' => e = .returned (.bool true) ∧ Below w.heap.size w w' := by
  have hm := make_func
  have hn := hnot
  go_enter Try.func5, Try.ntmps5
  go_wp2_with fail
  refine (known_any _).mono ?_
  rintro e w1 ⟨rfl, hb1⟩
  have hn1 : w1.cell? ⟨w.heap.size, 0, none⟩ = some (.slice a0 len0 cap0) := by
    rw [hb1.cell (p := ⟨w.heap.size, 0, none⟩) (by simp), World.cell_new]; rfl
  have hf1 : w1.frozen? ⟨w.heap.size, 0, none⟩ = false := by
    rw [hb1.frozen (p := ⟨w.heap.size, 0, none⟩) (by simp)]; exact World.frozen_new _ _ _ _
  have hs1 : w.heap.size < w1.heap.size := by have := hb1.size; simp at this; omega
  have b1 := Lib.hid (((Below.refl w.heap.size w).alloc (Nat.le_refl _) (.cells #[.slice a0 len0 cap0] 39)).trans (hb1.mono (by simp)))
  obtain ⟨f, hf⟩ := vals_of_row h0
  have Hf := Lib.hid hf
  obtain ⟨N, hN⟩ : ∃ N : Nat, min (len0 : Int) 12 = (N : Int) := ⟨min len0 12, by omega⟩
  have hN1 : N ≤ 12 := by omega
  have hN2 : N ≤ len0 := by omega
  have hmk := make_ints N (by omega)
  clear hb1 hf h0
  go_wp2_with fail
  have L0 := Lib.hid (loop1_begin w w1 a0 len0 cap0 N f b1.out hs1 hn1 hf1)
  clear hN hmk hn1 hf1 b1
  generalize w1.heap.size = Bc at *
  obtain ⟨i0, hi, hz0, hz1, hz2⟩ := info_parts info23
  go_loopw [5, 8] (fun v p wr => ∃ (j bi : Nat) (cb ib : Nat → Nat), j ≤ N ∧ p = .pointer (some ⟨bi, 0, none⟩) ∧ Hid (Loop1 w.heap.size w.heap.size (Bc + 1) Bc N a0 len0 cap0 j cb ib f v bi w wr)) (fun _ p wr => N - cnt p wr)
  case atStart => exact ⟨0, Bc + 1 + 1, fun _ => 0, fun _ => 0, Nat.zero_le _, rfl, L0⟩
  case round =>
    obtain ⟨j, bi, cb, ib, hj, rfl, L⟩ := hrel
    clear L0
    have hbi := L.out.vi.c
    have Hcnt := Lib.hid (cnt_var L.out.vi)
    by_cases hlt : j < N
    · have hown := Lib.hid ((L.out.own.alloc (fresh (mkv (Bc + 1) w.heap.size bi))).alloc (.cells #[.pointer (some ⟨wr.heap.size, 0, none⟩)] 23))
      have hlow := L.out.at'.low
      go_wp2_with fail
      refine (new_mk _ _ _ _).mono ?_
      rintro e w2 ⟨rfl, rfl⟩
      go_wp2_with (first | (at_builtin; refine wpList_append_own _ rfl _ _ 40 rfl w.heap.size 23 i0 (.pointer none) 1 8 Try.underlying40 hi hz0 hz1 hz2 rfl (by decide) _ _ _ rfl hown.out ⟨wr.heap.size + 1, 0, none⟩ 1 1 [.pointer (some ⟨wr.heap.size, 0, none⟩)] rfl rfl ?c1 ?c2 ?c3 ?c4 ?c5 ?_))
      case c1 =>
        have h1 := cell_one_new (wr.alloc (fresh (mkv (Bc + 1) w.heap.size bi))) (.pointer (some ⟨wr.heap.size, 0, none⟩)) 23
        rw [World.size_alloc] at h1
        exact h1
      case c2 => intro u hu; simp at hu; subst hu; rfl
      case c3 => unfold maxLen; omega
      case c4 => omega
      case c5 => simp only [World.size_alloc]; omega
      intro v' w3 hown' hgrow _
      obtain ⟨hbi3, L3'⟩ := loop1_step L.out hlt hown' hgrow
      have L3 := Lib.hid L3'
      clear hown' hgrow L3' L hown hbi
      go_wp2_with fail
      go_roundw
      case rel => exact ⟨j + 1, w3.heap.size, set1 cb j wr.heap.size, set1 ib j bi, by omega, rfl, L3⟩
      case measure => rw [Hcnt.out, cnt_var L3.out.vi]; omega
    · obtain rfl : N = j := by omega
      clear Hcnt hlt hj
      have hmk := make_bools N (by omega)
      go_wp2_with fail
      clear hmk hbi
      by_cases hN0 : N = 0
      · subst hN0
        have HB : Hid (Below w.heap.size w (wr.alloc (.cells (zeros (.bool false) 0) 4))) := L.out.at'.below.alloc L.out.at'.low _
        clear L hr
        go_loopw [11] (fun i wx => i = .int .i64 0 ∧ Hid (Below w.heap.size w wx)) (fun _ _ => 0)
        case atStart => exact ⟨rfl, HB⟩
        case round =>
          obtain ⟨rfl, HB'⟩ := hrel
          clear HB
          by_cases h1 : 0 < len1
          all_goals
            go_wp2_with fail
            go_loopw [13] (fun i wx => i = .int .i64 0 ∧ Hid (Below w.heap.size w wx)) (fun _ _ => 0)
            case atStart => exact ⟨rfl, HB'⟩
            case round =>
              obtain ⟨rfl, HB⟩ := hrel
              clear HB'
              go_wp2_with fail
              refine (known_any _).mono ?_
              rintro e w9 ⟨rfl, hb9⟩
              have HB9 := Lib.hid (HB.out.trans (hb9.mono HB.out.size))
              clear hb9 HB
              go_wp2_with fail
              go_ret
              exact ⟨rfl, HB9.out⟩
      · have hNp : 0 < N := by omega
        obtain ⟨g, gcap, hu5, L2⟩ := loop2_begin L.out hNp
        rw [hu5]
        have HL2 := Lib.hid L2
        clear L L2 hu5 hN0
        generalize wr.heap.size = Ba at *
        go_loopw [11] (fun i wx => ∃ i' : Nat, i' ≤ 40 ∧ i = .int .i64 i' ∧ Hid (∃ made, Loop2 w.heap.size w.heap.size (Bc + 1) Bc N a0 len0 cap0 cb ib f g Ba made made w wx)) (fun i _ => 40 - (intOf i).toNat)
        case atStart => exact ⟨0, by omega, rfl, ⟨_, HL2.out⟩⟩
        case round =>
          obtain ⟨i, hi', rfl, HL⟩ := hrel
          clear HL2
          by_cases hlt : i < len1 ∧ i < 40
          · obtain ⟨h1, h2⟩ := hlt
            rcases hr with h0 | ⟨b, off, zs, rfl, hz, hbw, hcells⟩
            · omega
            obtain ⟨made, L2⟩ := HL.out
            have hx := (L2.at'.below.cell (p := ⟨b, off + i, none⟩) hbw).trans (hcells i (by omega))
            generalize zs.getD i 0 = z at hx
            have L3 := Lib.hid L2
            clear hcells L2 HL
            go_wp2_with fail
            refine (pick_any _ _ (by omega) (by omega) _).mono ?_
            rintro e w6 ⟨k, hk, rfl, rfl⟩
            have hkN : k < N := by omega
            clear hk hx
            obtain ⟨b2, off2, ha, hb2, hc2⟩ := Hf.out k (by omega)
            have hg1 := L3.out.row k hkN
            have hA1 := (L3.out.ask k hkN).1
            have hv1 := L3.out.at'.vv.c
            have hz1' := (L3.out.at'.below.cell (p := ⟨b2, off2 + k, none⟩) hb2).trans hc2
            have hki : (0 : Int) ≤ (k : Int) := by omega
            have hkl : (k : Int) < (len0 : Int) := by omega
            have hkn : (k : Int) < (N : Int) := by omega
            have hkl' : k < len0 := by omega
            rw [ha] at hv1
            have Ha := Lib.hid ha
            clear ha
            generalize hbq : made k = bq at *
            have Hbq := Lib.hid hbq
            clear hbq
            go_wp2_with fail
            go_region_held3 (fun w' => w'.cell? ⟨g, k, none⟩ = some (.pointer (some ⟨cb k, 0, none⟩)) ∧ w'.cell? ⟨Ba, k, none⟩ = some (.bool bq) ∧ w'.cell? ⟨w.heap.size, 0, none⟩ = some (.slice (some ⟨b2, off2, none⟩) len0 cap0) ∧ w'.cell? ⟨b2, off2 + k, none⟩ = some (.int .i64 (f k))) (first | exact ⟨hg1, hA1, hv1, hz1'⟩ | exact ⟨hg7, hA7, hv7, hz7⟩)
              (first
                | (go_at_call 24; refine (cell_made L3.out.drew hkN).mono ?_; rintro e w7 ⟨rfl, rfl⟩; rw [Hbq.out])
                | (go_at_call 19; refine (cell_get L3.out.drew hkN hkl' Hf.out (Nat.le_refl _)).mono ?_; rintro e w7 ⟨rfl, L7'⟩; have L7 := Lib.hid L7'; have hg7 := L7'.row k hkN; have hA7 := (L7'.ask k hkN).1; have hv7 := L7'.at'.vv.c; rw [Ha.out] at hv7; have hz7 := (L7'.at'.below.cell (p := ⟨b2, off2 + k, none⟩) hb2).trans hc2; rw [Hbq.out] at hA7; clear L7'))
            have hfA := (L7.out.ask k hkN).2
            have L8 := Lib.hid (L7.out.note hkN)
            clear hg1 hA1 hv1 hz1' hg7 hv7 hz7 hkl hc2 hb2
            go_wp2_with fail
            clear hA7 hfA L7 L3
            go_roundw
            case rel => exact ⟨i + 1, by omega, by go_num, ⟨_, L8.out⟩⟩
            case measure => simp [intOf]; omega
          · have hout : (i < len1 ∧ 40 ≤ i) ∨ len1 ≤ i := by omega
            clear hlt hr
            rcases hout with ⟨h1, h2⟩ | h1
            all_goals
              go_wp2_with fail
              go_loopw [13] (fun i wx => ∃ i' : Nat, i' ≤ N ∧ i = .int .i64 i' ∧ Hid (∃ made, Loop2 w.heap.size w.heap.size (Bc + 1) Bc N a0 len0 cap0 cb ib f g Ba made made w wx)) (fun i _ => N - (intOf i).toNat)
              case atStart => exact ⟨0, by omega, rfl, HL⟩
              case round =>
                obtain ⟨k, hk, rfl, HL'⟩ := hrel
                obtain ⟨made, L2⟩ := HL'.out
                by_cases hkN : k < N
                · have hg1 := L2.row k hkN
                  have hA1 := (L2.ask k hkN).1
                  have hv1 := L2.at'.vk.c
                  have hc1 := (L2.at'.calls k hkN).1
                  have hki : (0 : Int) ≤ (k : Int) := by omega
                  have hkn : (k : Int) < (N : Int) := by omega
                  have L3 := Lib.hid L2
                  have L4 : Hid (∃ made, Loop2 w.heap.size w.heap.size (Bc + 1) Bc N a0 len0 cap0 cb ib f g Ba made made w wr.drew) := ⟨made, L2.drew⟩
                  clear L2 HL HL'
                  cases hbq : made k
                  · rw [hbq] at hA1 hc1
                    have hc1 : wr.cell? ⟨Bc, k, none⟩ = some (.int .i64 0) := hc1
                    have Hbq := Lib.hid hbq
                    clear hbq
                    go_wp2_with fail
                    go_region_held3 (fun w' => w'.cell? ⟨g, k, none⟩ = some (.pointer (some ⟨cb k, 0, none⟩)) ∧ w'.cell? ⟨Ba, k, none⟩ = some (.bool false) ∧ w'.cell? ⟨Bc + 1, 0, none⟩ = some (.slice (some ⟨Bc, 0, none⟩) N N) ∧ w'.cell? ⟨Bc, k, none⟩ = some (.int .i64 0)) (first | exact ⟨hg1, hA1, hv1, hc1⟩)
                      (first | (go_at_call 24; refine (cell_made L3.out.drew hkN).mono ?_; rintro e w7 ⟨rfl, rfl⟩; rw [Hbq.out]))
                    clear hg1 hA1 hv1 hc1 L3
                    go_wp2_with fail
                    go_roundw
                    case rel => exact ⟨k + 1, by omega, by go_num, L4⟩
                    case measure => simp [intOf]; omega
                  · rw [hbq] at hA1 hc1
                    have hc1 : wr.cell? ⟨Bc, k, none⟩ = some (.int .i64 1) := hc1
                    have Hbq := Lib.hid hbq
                    clear hbq
                    go_wp2_with fail
                    go_region_held3 (fun w' => w'.cell? ⟨g, k, none⟩ = some (.pointer (some ⟨cb k, 0, none⟩)) ∧ w'.cell? ⟨Ba, k, none⟩ = some (.bool true) ∧ w'.cell? ⟨Bc + 1, 0, none⟩ = some (.slice (some ⟨Bc, 0, none⟩) N N) ∧ w'.cell? ⟨Bc, k, none⟩ = some (.int .i64 1)) (first | exact ⟨hg1, hA1, hv1, hc1⟩)
                      (first | (go_at_call 24; refine (cell_made L3.out.drew hkN).mono ?_; rintro e w7 ⟨rfl, rfl⟩; rw [Hbq.out]))
                    clear hg1 hA1 hv1 hc1 L3
                    go_wp2_with fail
                    go_roundw
                    case rel => exact ⟨k + 1, by omega, by go_num, L4⟩
                    case measure => simp [intOf]; omega
                · have HB := Lib.hid L2.at'.below
                  clear L2 HL HL'
                  go_wp2_with fail
                  refine (known_any _).mono ?_
                  rintro e w9 ⟨rfl, hb9⟩
                  have HB9 := Lib.hid (HB.out.trans (hb9.mono HB.out.size))
                  clear hb9 HB
                  go_wp2_with fail
                  go_ret
                  exact ⟨rfl, HB9.out⟩
end Go.Proofs.Ytnhepceannajeaa
