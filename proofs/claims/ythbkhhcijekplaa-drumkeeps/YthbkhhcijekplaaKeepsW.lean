/- The walk of lariatlaw4.DrumKeeps. -/
import Derived.Test.YthbkhhcijekplaaWasOps
import Derived.Test.YthbkhhcijekplaaTurn
import Derived.Deep.QuietTactic
import Derived.BigQuiet
namespace Go.Proofs.Ythbkhhcijekplaa
open Go.RowKit

/-- What the law has between two rounds. -/
structure KSt (w : World) (d wa s i : Nat) (wx : World) : Prop where
  ex : ∃ b D L t, St w d b D wx ∧ Was w wa L wx ∧ t ≤ 2 * i + 1 ∧ (i < s → Ph1 L D t) ∧ (s ≤ i → Ph2 L D t) ∧ ∀ l ∈ L, l.length ≤ i + 1

theorem Touch.drewN {S : Nat → Prop} {a w : World} (h : Touch S a w) (n : Nat) : Touch S a (w.drewN n) := ⟨h.os, h.tape, h.output, h.size, h.block⟩
theorem at0_same (c i : Nat) (h : i < 96) : at0 (same c) i = c := by
  unfold at0 same
  rw [List.getD_eq_getElem?_getD, List.getElem?_replicate, if_pos h]
  rfl
/-- Is x among the first j? -/
def hasIn (l : List Nat) (j x : Nat) : Bool := decide (x ∈ l.take j)
theorem hasIn_succ {l : List Nat} {j y : Nat} (x : Nat) (h : l[j]? = some y) : hasIn l (j + 1) x = (hasIn l j x || decide (y = x)) := by
  unfold hasIn
  rw [take_get h, Bool.eq_iff_iff]
  simp
  constructor
  · rintro (h | h)
    · exact .inl h
    · exact .inr h.symm
  · rintro (h | h)
    · exact .inl h
    · exact .inr h.symm
theorem hasIn_all {l : List Nat} {x : Nat} (h : x ∈ l) : hasIn l l.length x = true := by unfold hasIn; simp [h]

/-- The first t rows are made. -/
def firstRows (t : Nat) : List (List Nat) := List.replicate t [0] ++ List.replicate (12 - t) []
theorem firstRows_set (t : Nat) (h : t < 12) : (firstRows t).set t [0] = firstRows (t + 1) := by
  unfold firstRows
  rw [List.set_append_right _ _ (by simp), show 12 - t = (12 - (t + 1)) + 1 by omega, List.replicate_succ, List.length_replicate, Nat.sub_self, List.set_cons_zero, List.replicate_succ' (n := t)]
  simp
theorem firstRows_all : firstRows 12 = List.replicate 12 [0] := by simp [firstRows]

theorem Was.start {w0 w : World} (h0 : w0.heap.size ≤ w.heap.size) : Was w0 w.heap.size (firstRows 0) (w.alloc (.cells (List.replicate 12 (Value.slice none 0 0)).toArray 52)) := by
  refine ⟨h0, by simp [firstRows], List.replicate 12 (.slice none 0 0), by simp, Blk.new w 52 _, fun k l hl => ?_, fun i j vi vj g hi _ hgi _ => ?_⟩
  · have e : firstRows 0 = List.replicate 12 [] := rfl
    rw [e, List.getElem?_replicate] at hl
    by_cases hk : k < 12
    · rw [if_pos hk] at hl
      cases hl
      exact ⟨_, by rw [List.getElem?_replicate, if_pos hk], World.ownsRow_nil _ _ _ _⟩
    · rw [if_neg hk] at hl; cases hl
  · rw [List.getElem?_replicate] at hi
    by_cases hk : i < 12
    · rw [if_pos hk] at hi; cases hi; cases hgi
    · rw [if_neg hk] at hi; cases hi

set_option maxRecDepth 100000 in
set_option maxHeartbeats 6400000 in
theorem keeps_law (al : Option Addr) (len cap : Nat) (settle : Int) (ak : Option Addr) (ys : List Int) (klen kcap : Nat) (torn cut : Int) (w : World) (hT : HasT w al len) (hI : HasI w ak ys) (hl : ys.length = klen) (hkl : klen ≤ 9223372036854775806) :
    Calls Try.prog 5 #[.slice al len cap, .int .i64 settle, .slice ak klen kcap, .int .i64 torn, .int .i64 cut] w fun e w' => e = .returned (.bool true) ∧ Below w.heap.size w w' := by
  have hn := hnot
  have HT := Lib.hid hT
  have HI := Lib.hid hI
  have HL := Lib.hid hl
  obtain ⟨nn, hnn⟩ : ∃ nn : Nat, min len 30 = nn := ⟨_, rfl⟩
  have hmin : min (len : Int) 30 = (nn : Int) := by omega
  have hnn1 : nn ≤ len := by omega
  have hnn2 : nn ≤ 30 := by omega
  clear hT hI hl hnn
  go_enter Try.func5, Try.ntmps5
  go_wp2_with fail
  refine (known_any _).mono ?_
  rintro e w1 ⟨rfl, O1⟩
  have HO1 := Lib.hid O1
  clear O1
  go_wp2_with fail
  refine (new_st (w0 := w) 12 (by omega) (by omega) HO1.out).mono ?_
  rintro e w2 ⟨d, b2, rfl, S2, _⟩
  have HS2 := Lib.hid S2
  clear S2 HO1
  go_wp2_with fail
  refine (known_any _).mono ?_
  rintro e w3 ⟨rfl, O3⟩
  have HS3 := Lib.hid (HS2.out.step O3)
  clear O3 HS2
  have HS4 : Hid (St w d b2 (DS.new 12) (w3.alloc (.cells (List.replicate 12 (Value.slice none 0 0)).toArray 52)) ∧ Was w w3.heap.size (firstRows 0) (w3.alloc (.cells (List.replicate 12 (Value.slice none 0 0)).toArray 52))) :=
    ⟨HS3.out.step ((Touch.refl _ _).alloc _), Was.start HS3.out.old.size⟩
  go_wp2_with fail
  generalize hwa : w3.heap.size = wa at *
  clear hwa HS3
  go_loopw [41] (fun i wx => ∃ t : Nat, t ≤ 12 ∧ i = .int .i64 t ∧ Hid (St w d b2 (DS.new 12) wx ∧ Was w wa (firstRows t) wx)) (fun i _ => 12 - (intOf i).toNat)
  case atStart => exact ⟨0, by omega, rfl, HS4.out⟩
  case round =>
    obtain ⟨t, ht, rfl, HS⟩ := hrel
    clear HS4
    by_cases hlt : t < 12
    · have h0 : (0 : Int) ≤ (t : Int) := by omega
      have h1 : (t : Int) < 12 := by omega
      have hrow : (firstRows t)[t]? = some [] := by
        unfold firstRows
        rw [List.getElem?_append_right (by simp), List.length_replicate, Nat.sub_self, List.getElem?_replicate, if_pos (by omega)]
      obtain ⟨a0, c0, hc, hf, _⟩ := HS.out.2.cell hrow
      have hwl : wa < wr.heap.size := lt_of_cell? hc
      have HN : Hid (St w d b2 (DS.new 12) ((wr.setCell ⟨wa, t, none⟩ (.slice (some ⟨wr.heap.size, 0, none⟩) 1 1)).alloc (.cells #[.int .u8 0] 5)) ∧ Was w wa (firstRows (t + 1)) ((wr.setCell ⟨wa, t, none⟩ (.slice (some ⟨wr.heap.size, 0, none⟩) 1 1)).alloc (.cells #[.int .u8 0] 5))) := by
        refine ⟨(HS.out.1.mine (mine_one HS.out.2 _ _)).step ((Touch.refl _ _).alloc _), ?_⟩
        have := HS.out.2.one (k := t) (c := 0) hlt HS.out.1.old.size
        rw [World.setCell_alloc_past _ _ _ _ hwl, firstRows_set t hlt] at this
        exact this
      clear HS hrow
      go_wp2_with fail
      refine ⟨⟨t + 1, by omega, by go_num, HN⟩, by simp [intOf]; omega⟩
    · obtain rfl : t = 12 := by omega
      have HS5 : Hid (∀ s, KSt w d wa s 0 wr) := fun s => ⟨b2, DS.new 12, List.replicate 12 [0], 0, HS.out.1, by rw [← firstRows_all]; exact HS.out.2, by omega, fun _ => Ph1.start, fun _ => Ph2.start, fun l hl => by rw [(List.mem_replicate.1 hl).2]; simp⟩
      clear HS
      go_wp2_with fail
      refine (pick_any settle ((nn : Int) + 1) (by omega) (by omega) _).mono ?_
      rintro e w' ⟨s, hs, rfl, rfl⟩
      have HS6 := Lib.hid (HS5.out s)
      clear HS5
      go_wp2_with fail
      go_loopw [16] (fun i wx => ∃ j : Nat, j ≤ nn ∧ i = .int .i64 j ∧ Hid (KSt w d wa s j wx)) (fun i _ => nn - (intOf i).toNat)
      case atStart => exact ⟨0, by omega, rfl, HS6⟩
      case round =>
        obtain ⟨j, hj, rfl, HS⟩ := hrel
        clear HS6
        obtain ⟨b7, D7, L7, t7, S7, W7, ht7, hp1, hp2, hll⟩ := HS.out.ex
        have HS7 := Lib.hid S7
        have HW7 := Lib.hid W7
        have HP1 := Lib.hid hp1
        have HP2 := Lib.hid hp2
        have HLL := Lib.hid hll
        clear HS S7 W7 hp1 hp2 hll
        by_cases hlt2 : j < nn
        · have h0 : (0 : Int) ≤ (j : Int) := by omega
          have h1 : (j : Int) < (len : Int) := by omega
          have h2 : (j : Int) < (nn : Int) := by omega
          obtain ⟨bb, off, r, rfl, hr⟩ := (HT.out.old HS7.out.old) j (by omega)
          have hc1 := hr.c1
          have hc2 := hr.c2
          generalize r.k = y1 at *
          generalize r.n = y2 at *
          clear hr
          have HCal : Hid (Calm D7 12 t7) := by
            rcases Nat.lt_or_ge j s with h | h
            · exact (HP1.out h).calm
            · exact (HP2.out h).calm
          go_wp2_with fail
          refine (pick_any y1 12 (by omega) (by omega) _).mono ?_
          rintro e w' ⟨k, hk, rfl, rfl⟩
          go_wp2_with fail
          refine (pick_any y2 250 (by omega) (by omega) _).mono ?_
          rintro e w' ⟨q, hq, rfl, rfl⟩
          clear hc1 hc2
          go_wp2_with fail
          have e1 : (1 + (q : Int)) = ((1 + q : Nat) : Int) := by omega
          have hby : byteOf ((1 + q : Nat) : Int) = 1 + q := by unfold byteOf; omega
          have hbyte : ((1 + q : Nat) : Int) % 256 = ((1 + q : Nat) : Int) := by omega
          have hq2 : 1 + q < 256 := by omega
          rw [e1]
          generalize 1 + q = c at *
          have HBY := Lib.hid hby
          clear e1 hby
          refine (all_any (c : Int) wr).mono ?_
          rintro e w8 ⟨rfl, K8, O8⟩
          rw [HBY.out] at K8
          have HS8 := Lib.hid (HS7.out.step O8)
          have HW8 := Lib.hid (HW7.out.kept (Kept.of_old O8))
          have HK8 := Lib.hid K8
          clear K8 O8 HS7 HW7
          generalize wr.heap.size = g8 at *
          go_wp2_with fail
          refine (lay_st HS8.out (by rw [HCal.out.turns]; omega) k g8 _ (by rw [HCal.out.len]; omega) (same_trk hq2) HK8.out 96).mono ?_
          rintro e w9 ⟨rfl, ⟨b9, S9⟩, KP9, _⟩
          rw [HCal.out.err]
          have HS9 := Lib.hid S9
          have HW9 := Lib.hid (HW8.out.kept KP9)
          clear S9 KP9 HS8 HW8 HK8
          have hk0 : (0 : Int) ≤ (k : Int) := by omega
          have hkn : k < 12 := by omega
          obtain ⟨l7, hl7⟩ := get_of_lt (l := L7) (n := k) (by rw [HW9.out.len]; exact hkn)
          have HL7 := Lib.hid hl7
          clear hl7
          by_cases hjs : j < s
          · have hjs' : (j : Int) < (s : Int) := by omega
            obtain ⟨an, cn, hcn, hfn, _⟩ := HW9.out.cell HL7.out
            have S9' := HS9.out.mine (mine_one HW9.out k (.slice none 0 0))
            have W9' := HW9.out.none_ hkn
            generalize hw9 : w9.setCell ⟨wa, k, none⟩ (.slice none 0 0) = w9' at *
            obtain ⟨a9, cp9, a10, c10, w10, hc9, hap, ⟨u10, hc10⟩, hf10, W10, T10⟩ := W9'.append (c := c) S9'.old.size (List.getElem?_set_self (by rw [HW9.out.len]; exact hkn)) (by simp)
            have hwl : wa < w9'.heap.size := lt_of_cell? hc9
            simp only [List.length_nil, List.nil_append, List.set_set, Nat.zero_add] at hc9 hap W10 T10
            have HSE := Lib.hid (S9'.mine T10)
            have HWE := Lib.hid W10
            have HPE := Lib.hid ((HP1.out hjs).next hkn hq2)
            have HLE : Hid (∀ l ∈ L7.set k [c], l.length ≤ j + 1 + 1) := fun l hl => by
              rcases List.mem_or_eq_of_mem_set hl with h3 | rfl
              · have := HLL.out l h3; omega
              · simp
            clear W10 T10 HS9 HW9 HP1 HP2 HLL HL7 HCal S9' W9'
            by_cases hjs4 : j + 1 = s
            · have hjs2 : ((j : Int) + 1 == (s : Int)) = true := by simp; omega
              have hjs3 : (j : Int) + 1 = (s : Int) := by omega
              go_wp2_with (first | (at_builtin; refine wpList_append_run (o := ⟨some 91, _, 28, _, _, _⟩) rfl (.tmp 87) (.tmp 90) 28 28 rfl (.slice a9 0 cp9) (.slice (some ⟨w9'.heap.size, 0, none⟩) 1 1) rfl rfl _ _ hap ?_))
              refine (settle_st HSE.out (by rw [HPE.out.calm.turns]; omega)).mono ?_
              rintro e w11 ⟨rfl, ⟨b11, S11⟩, KP11, _⟩
              rw [HPE.out.calm.err]
              have HE : Hid (KSt w d wa s (j + 1) w11) := ⟨b11, _, _, t7 + 1 + 1, S11, HWE.out.kept KP11, by omega, fun h => by omega, fun _ => HPE.out.settle, HLE.out⟩
              clear S11 KP11 HSE HWE HPE HLE
              go_wp2_with fail
              refine ⟨⟨j + 1, by omega, by go_num, HE⟩, by simp [intOf]; omega⟩
            · have hjs2 : ((j : Int) + 1 == (s : Int)) = false := by simp; omega
              have hjs3 : ¬ (j : Int) + 1 = (s : Int) := by omega
              have HE : Hid (KSt w d wa s (j + 1) (w10.setCell ⟨wa, k, none⟩ (.slice a10 1 c10))) := ⟨b9, _, _, t7 + 1, HSE.out, HWE.out, by omega, fun _ => HPE.out, fun h => by omega, HLE.out⟩
              clear HSE HWE HPE HLE
              go_wp2_with (first | (at_builtin; refine wpList_append_run (o := ⟨some 91, _, 28, _, _, _⟩) rfl (.tmp 87) (.tmp 90) 28 28 rfl (.slice a9 0 cp9) (.slice (some ⟨w9'.heap.size, 0, none⟩) 1 1) rfl rfl _ _ hap ?_))
              refine ⟨⟨j + 1, by omega, by go_num, HE⟩, by simp [intOf]; omega⟩
          · have hjs' : ¬ (j : Int) < (s : Int) := by omega
            have hjs2 : ((j : Int) + 1 == (s : Int)) = false := by simp; omega
            have hjs3 : ¬ (j : Int) + 1 = (s : Int) := by omega
            obtain ⟨a9, cp9, a10, c10, w10, hc9, hap, ⟨u10, hc10⟩, hf10, W10, T10⟩ := HW9.out.append (c := c) HS9.out.old.size HL7.out (by have := HLL.out l7 (mem_of_get HL7.out); omega)
            have hwl : wa < w9.heap.size := lt_of_cell? hc9
            have HE : Hid (KSt w d wa s (j + 1) (w10.setCell ⟨wa, k, none⟩ (.slice a10 (l7.length + 1) c10))) := by
              refine ⟨b9, _, _, t7 + 1, HS9.out.mine T10, W10, by omega, fun h => by omega, fun _ => (HP2.out (by omega)).next HL7.out hq2, fun l hl => ?_⟩
              rcases List.mem_or_eq_of_mem_set hl with h3 | rfl
              · have := HLL.out l h3; omega
              · have := HLL.out l7 (mem_of_get HL7.out); simp; omega
            clear W10 T10 HS9 HW9 HP1 HP2 HLL HL7 HCal
            generalize l7.length = m at *
            go_wp2_with (first | (at_builtin; refine wpList_append_run (o := ⟨some 91, _, 28, _, _, _⟩) rfl (.tmp 87) (.tmp 90) 28 28 rfl (.slice a9 m cp9) (.slice (some ⟨w9.heap.size, 0, none⟩) 1 1) rfl rfl _ _ hap ?_))
            refine ⟨⟨j + 1, by omega, by go_num, HE⟩, by simp [intOf]; omega⟩
        · obtain rfl : j = nn := by omega
          have hs2 : s ≤ j := by omega
          have HP := Lib.hid (HP2.out hs2)
          have h2 : ¬ (j : Int) < (j : Int) := by omega
          clear HP1 HP2 hs2
          go_wp2_with fail
          refine (fall_st HS7.out (by rw [HP.out.calm.turns]; omega) ak ys klen kcap torn cut (HI.out.old HS7.out.old) HL.out hkl).mono ?_
          rintro e w8 ⟨rfl, ⟨b8, S8⟩, KP8, _⟩
          have HS8 := Lib.hid S8
          have HW8 := Lib.hid (HW7.out.kept KP8)
          have HC8 := Lib.hid (HP.out.calm.fall (partOf ys torn cut))
          have HF8 := Lib.hid (HP.out.fallen (partOf ys torn cut))
          have HB8 := Lib.hid HP.out.byte
          have HE8 : Hid ((D7.fall (partOf ys torn cut)).seen = (D7.fall (partOf ys torn cut)).T) := rfl
          have HA8 : Hid ((D7.fall (partOf ys torn cut)).A.length = 0) := rfl
          have HX8 := Lib.hid S8.dr.ok.trk
          clear S8 KP8 HS7 HW7 HP
          generalize D7.fall (partOf ys torn cut) = D8 at *
          go_wp2_with fail
          go_loopw [107] (fun i wx => ∃ k : Nat, k ≤ 12 ∧ i = .int .i64 k ∧ Hid (St w d b8 D8 wx ∧ Was w wa L7 wx)) (fun i _ => 12 - (intOf i).toNat)
          case atStart => exact ⟨0, by omega, rfl, HS8.out, HW8.out⟩
          case round =>
            obtain ⟨k, hk, rfl, HS⟩ := hrel
            clear HS8 HW8
            by_cases hlt3 : k < 12
            · have hk0 : (0 : Int) ≤ (k : Int) := by omega
              have hk1 : (k : Int) < 12 := by omega
              obtain ⟨l, X, hl, hX, hin, hone⟩ := HF8.out k hlt3
              have HLk := Lib.hid hl
              have hll : l.length ≤ 31 := Nat.le_trans (HLL.out l (mem_of_get hl)) (by omega)
              have HXt := Lib.hid (HX8.out X (mem_of_get hX))
              have HIN := Lib.hid hin
              have HON := Lib.hid hone
              have HXk : Hid (D8.seen.getD k [] = X) := by show _ = _; rw [HE8.out]; exact getD_of hX
              clear hl hX hin hone
              go_wp2_with fail
              refine (look_st HS.out.1 k (by rw [HC8.out.len]; exact hlt3) HC8.out.down).mono ?_
              rintro e w9 ⟨g9, rfl, _, K9, O9⟩
              rw [HXk.out] at K9
              have HS9 : Hid (St w d b8 D8 w9 ∧ Was w wa L7 w9 ∧ Blk w9 g9 5 (cells X)) := ⟨HS.out.1.step O9, HS.out.2.kept (Kept.of_old O9), K9⟩
              clear K9 O9 HS
              obtain ⟨ar, cr, hcr, _, hor⟩ := HS9.out.2.1.cell HLk.out
              have HR := Lib.hid (bytes_has (HB8.out l (mem_of_get HLk.out)) hor)
              have HCR := Lib.hid hcr
              clear hcr hor
              go_wp2_with fail
              go_loopw [120] (fun i wx => ∃ j : Nat, j ≤ 96 ∧ i = .int .i64 j ∧ Hid (Old w9 wx)) (fun i _ => 96 - (intOf i).toNat)
              case atStart => exact ⟨0, by omega, rfl, Touch.refl _ _⟩
              case round =>
                obtain ⟨i, hi, rfl, HO⟩ := hrel
                by_cases hlt4 : i < 96
                · have hcr : wr.cell? ⟨wa, k, none⟩ = some (.slice ar l.length cr) := (HO.out.cell (p := ⟨wa, k, none⟩) (lt_of_cell? HCR.out) (fun q => q)).trans HCR.out
                  have HKX := Lib.hid (HS9.out.2.2.touch HO.out (fun q => q))
                  have HRl := Lib.hid (HR.out.old HO.out)
                  have hi0 : (0 : Int) ≤ (i : Int) := by omega
                  have hi1 : (i : Int) < 96 := by omega
                  have hXi : wr.cell? ⟨g9, i, none⟩ = some (.int .u8 (at0 X i : Int)) := by rw [HKX.out.cell, cells_get _ _ (by rw [HXt.out.len]; exact hlt4)]
                  have hX0 : wr.cell? ⟨g9, 0, none⟩ = some (.int .u8 (at0 X 0 : Int)) := by rw [HKX.out.cell, cells_get _ _ (by rw [HXt.out.len]; omega)]
                  have HIX : Hid (at0 X i ∈ l) := HIN.out _ (by
                    unfold at0
                    have hl9 : i < X.length := by rw [HXt.out.len]; exact hlt4
                    rw [List.getD_eq_getElem?_getD, List.getElem?_eq_getElem hl9]
                    exact List.getElem_mem hl9)
                  have HEQ : Hid (l.length = 1 → at0 X i = at0 X 0) := fun h1 => by
                    obtain ⟨c, rfl⟩ := HON.out h1
                    rw [at0_same c i hlt4, at0_same c 0 (by omega)]
                  generalize at0 X i = x at *
                  generalize at0 X 0 = x0 at *
                  go_wp2_with fail
                  have hw0 : Hid (Old w9 wr) := HO.out
                  have hwc : Hid (wr.cell? ⟨wa, k, none⟩ = some (.slice ar l.length cr) ∧ wr.cell? ⟨g9, i, none⟩ = some (.int .u8 (x : Int)) ∧ wr.cell? ⟨g9, 0, none⟩ = some (.int .u8 (x0 : Int))) := ⟨hcr, hXi, hX0⟩
                  clear hcr hXi hX0
                  go_loopw [23, 127] (fun v m wx => ∃ j : Nat, j ≤ l.length ∧ m = .int .i64 j ∧ v = .bool (hasIn l j x) ∧ Hid (Old wr wx)) (fun _ m _ => l.length - (intOf m).toNat)
                  case atStart => exact ⟨0, by omega, rfl, by simp [hasIn], Touch.refl _ _⟩
                  case round =>
                    obtain ⟨j2, hj2, rfl, rfl, HO2⟩ := hrel
                    have hcr : wr.cell? ⟨wa, k, none⟩ = some (.slice ar l.length cr) := (HO2.out.cell (p := ⟨wa, k, none⟩) (lt_of_cell? hwc.out.1) (fun q => q)).trans hwc.out.1
                    have hXi : wr.cell? ⟨g9, i, none⟩ = some (.int .u8 (x : Int)) := (HO2.out.cell (p := ⟨g9, i, none⟩) (lt_of_cell? hwc.out.2.1) (fun q => q)).trans hwc.out.2.1
                    have hX0 : wr.cell? ⟨g9, 0, none⟩ = some (.int .u8 (x0 : Int)) := (HO2.out.cell (p := ⟨g9, 0, none⟩) (lt_of_cell? hwc.out.2.2) (fun q => q)).trans hwc.out.2.2
                    by_cases hlt5 : j2 < l.length
                    · obtain ⟨rb, ro, rfl, hcy⟩ := (HRl.out.old HO2.out).cell j2 hlt5
                      obtain ⟨y, hy⟩ := get_of_lt (l := l) (n := j2) hlt5
                      have HNx := Lib.hid (hasIn_succ x hy)
                      rw [show at0 l j2 = y from getD_of hy] at hcy
                      clear hy
                      have hj0 : (0 : Int) ≤ (j2 : Int) := by omega
                      have hj1 : (j2 : Int) < (l.length : Int) := by omega
                      have hOn := Lib.hid (fun n : Nat => HO2.out.drewN n)
                      clear HO2 HO HRl HKX hX0 HEQ hwc hw0
                      cases hv : hasIn l j2 x with
                      | true =>
                        have HNy : Hid (hasIn l (j2 + 1) x = true) := by show _ = _; rw [HNx.out, hv, Bool.true_or]
                        clear HNx hv
                        go_wp2_with fail
                        go_quiet (fail)
                        go_wp2_with fail
                        exact ⟨⟨j2 + 1, by omega, by go_num, by rw [HNy.out], hOn.out _⟩, by simp [intOf]; omega⟩
                      | false =>
                        by_cases hyx : y = x
                        · have HNy : Hid (hasIn l (j2 + 1) x = true) := by show _ = _; rw [HNx.out, hv]; simp [hyx]
                          subst hyx
                          clear HNx hv
                          go_wp2_with fail
                          go_quiet (fail)
                          go_wp2_with fail
                          exact ⟨⟨j2 + 1, by omega, by go_num, by rw [HNy.out], hOn.out _⟩, by simp [intOf]; omega⟩
                        · have HNy : Hid (hasIn l (j2 + 1) x = false) := by show _ = _; rw [HNx.out, hv]; simp [hyx]
                          have hb : ((y : Int) == (x : Int)) = false := by simp; omega
                          have hb2 : ¬ (y : Int) = (x : Int) := by omega
                          clear HNx hv
                          go_wp2_with fail
                          go_quiet (fail)
                          go_wp2_with fail
                          exact ⟨⟨j2 + 1, by omega, by go_num, by rw [HNy.out], hOn.out _⟩, by simp [intOf]; omega⟩
                    · obtain rfl : j2 = l.length := by omega
                      rw [hasIn_all HIX.out]
                      have hOn := Lib.hid (fun n : Nat => (HO.out.trans HO2.out).drewN n)
                      have hnot2 : ¬ (l.length : Int) < (l.length : Int) := by omega
                      clear HO2 HO HRl HKX hwc hw0 HIX
                      by_cases hl1 : l.length = 1
                      · have hx : x = x0 := HEQ.out hl1
                        subst hx
                        clear HEQ
                        generalize l.length = ml at *
                        subst hl1
                        go_wp2_with fail
                        go_quiet (fail)
                        go_wp2_with fail
                        exact ⟨⟨i + 1, by omega, by go_num, hOn.out _⟩, by simp [intOf]; omega⟩
                      · have hb : ((l.length : Int) == 1) = false := by simp; omega
                        have hb2 : ¬ (l.length : Int) = 1 := by omega
                        clear HEQ
                        generalize l.length = ml at *
                        go_wp2_with fail
                        go_quiet (fail)
                        go_wp2_with fail
                        exact ⟨⟨i + 1, by omega, by go_num, hOn.out _⟩, by simp [intOf]; omega⟩
                · obtain rfl : i = 96 := by omega
                  have HN : Hid (St w d b8 D8 wr ∧ Was w wa L7 wr) := ⟨HS9.out.1.step HO.out, HS9.out.2.1.kept (Kept.of_old HO.out)⟩
                  clear HS9 HO HR HCR
                  go_wp2_with fail
                  refine ⟨⟨k + 1, by omega, by go_num, HN⟩, by simp [intOf]; omega⟩
            · obtain rfl : k = 12 := by omega
              go_wp2_with fail
              refine (afloat_any d b8 D8 _ wr HS.out.1.dr.at_ HS.out.1.dr.ok (by rw [HC8.out.turns]; omega)).mono ?_
              rintro e w9 ⟨rfl, _, O9⟩
              rw [HA8.out]
              have HS9 := Lib.hid (HS.out.1.step O9)
              clear O9 HS
              go_wp2_with fail
              refine (broken_any d b8 D8 _ w9 HS9.out.dr.at_).mono ?_
              rintro e w' ⟨rfl, rfl⟩
              rw [HC8.out.down]
              go_wp2_with fail
              go_ret
              exact ⟨rfl, HS9.out.old.below (Nat.le_refl _) (fun _ _ h => h)⟩
end Go.Proofs.Ythbkhhcijekplaa
