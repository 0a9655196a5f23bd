/- The walk of lariatlaw5.entries. -/
import Derived.Test.YtmingbgohdhajaaGreatEntJ
namespace Go.Proofs.YtmingbgohdhajaaGreat
open Go.RowKit
set_option maxRecDepth 100000

/-- An act as it lies in memory. -/
def actCells (what n torn cut : Int) (a k : Option Addr) (la ca lk ck : Nat) : List Value := [.int .i64 what, .int .i64 n, .int .i64 torn, .int .i64 cut, .slice a la ca, .slice k lk ck]
/-- What entries answers. -/
def Enters (w : World) (home n : Nat) (x : Ending) (w' : World) : Prop := ∃ a b e, x = .returned (.tuple #[a, b]) ∧ Made5 e home n ∧ MineE w' w.heap.size a e ∧ MineR w' w.heap.size b e ∧ Old w w'

set_option maxHeartbeats 6400000 in
theorem entries_any (what N torn cut : Int) (aa ak : Option Addr) (la ca lk ck : Nat) (ys : List Int) (home most : Nat) (w : World) (h : HasI w aa ys) (hl : ys.length = la) (hla : la ≤ 140737488355328) (hh : 0 < home) (hh' : home ≤ 5000) (hm : most ≤ 1000) :
    Calls Tryz.prog 22 #[.agg (actCells what N torn cut aa ak la ca lk ck).toArray, .int .i64 home, .int .i64 most] w (Enters w home most) := by
  have H := Lib.hid h
  have HL := Lib.hid hl
  have T1 : Old w (w.alloc (.cells (actCells what N torn cut aa ak la ca lk ck).toArray 38)) := (Touch.refl _ _).alloc _
  have K1 := Blk.new w 38 (actCells what N torn cut aa ak la ca lk ck)
  have T2 : Old (w.alloc (.cells (actCells what N torn cut aa ak la ca lk ck).toArray 38)) ((w.alloc (.cells (actCells what N torn cut aa ak la ca lk ck).toArray 38)).alloc (.cells (flags (fun _ => false) 64).toArray 114)) := (Touch.refl _ _).alloc _
  have K2 := Blk.new (w.alloc (.cells (actCells what N torn cut aa ak la ca lk ck).toArray 38)) 114 (flags (fun _ => false) 64)
  have H0 : Hid (Ent5 w ((w.alloc (.cells (actCells what N torn cut aa ak la ca lk ck).toArray 38)).alloc (.cells (flags (fun _ => false) 64).toArray 114)) home 0 (.slice none 0 0) (.slice none 0 0) [] (fun _ => false) w.heap.size (w.heap.size + 1) (actCells what N torn cut aa ak la ca lk ck)) := by
    rw [World.size_alloc] at K2
    exact ⟨Made5.nil _ _, MineE.nil _ _, MineR.nil _ _, K2, K1.touch T2 (fun q => q), T1.trans T2, Nat.le_refl _, by omega⟩
  clear h hl T1 K1 T2 K2
  go_enter Tryz.func22, Tryz.ntmps22
  go_wp2_with fail
  go_loopw [8, 9, 11] (fun a b i wx => ∃ (t : Nat) (e : List Ent) (f : Nat → Bool), t ≤ la ∧ t ≤ most ∧ i = .int .i64 t ∧ Hid (Ent5 w wx home t a b e f w.heap.size (w.heap.size + 1) (actCells what N torn cut aa ak la ca lk ck))) (fun _ _ i _ => most - (intOf i).toNat)
  case atStart => exact ⟨0, [], _, Nat.zero_le _, Nat.zero_le _, rfl, H0⟩
  case round =>
    obtain ⟨t, e, f, htl, htm, rfl, HE⟩ := hrel
    clear H0
    have hc4 : wr.cell? ⟨w.heap.size, 4, none⟩ = some (.slice aa la ca) := HE.out.arg.cell 4
    have hc1 : wr.cell? ⟨w.heap.size, 1, none⟩ = some (.int .i64 N) := HE.out.arg.cell 1
    by_cases hin : t < la ∧ t < most
    · have i0 : (0 : Int) ≤ (t : Int) := by omega
      have i1 : (t : Int) < (la : Int) := by omega
      have i2 : (t : Int) < (most : Int) := by omega
      obtain ⟨bb, off, rfl, hcy⟩ := (H.out.old HE.out.old).cell t (by rw [HL.out]; exact hin.1)
      generalize ys.getD t 0 = y at *
      have hmost : t + 1 ≤ most := by omega
      have hla1 : t + 1 ≤ la := by omega
      clear hin
      go_wp2_with fail
      refine (pick_big y (home : Int) (by omega) (by omega) wr).mono ?_
      rintro x w' ⟨k, hk, rfl, rfl⟩
      have hkh : k < home := by omega
      have e64 : (k : Int).tmod 64 = ((k % 64 : Nat) : Int) := by rw [Int.tmod_eq_emod_of_nonneg (by omega)]; omega
      have hk64 : k % 64 < 64 := by omega
      obtain ⟨kk, hkk⟩ : ∃ kk, k % 64 = kk := ⟨_, rfl⟩
      rw [hkk] at e64 hk64
      clear hkk
      have j0 : (0 : Int) ≤ (kk : Int) := by omega
      have j1 : (kk : Int) < 64 := by omega
      have hcf := (HE.out.had.cell kk).trans (flags_get _ _ _ hk64)
      have hff := HE.out.had.frozen kk
      by_cases hskip : f kk = true ∧ 0 < N.tmod 11
      · rw [hskip.1] at hcf
        have hsk := hskip.2
        have HN := Lib.hid (⟨HE.out.made.skip, HE.out.mine, HE.out.ref, HE.out.had, HE.out.arg, HE.out.old, HE.out.hx, HE.out.hh⟩ : Ent5 w wr home (t + 1) u8 u9 e f w.heap.size (w.heap.size + 1) (actCells what N torn cut (some ⟨bb, off, none⟩) ak la ca lk ck))
        clear hskip HE
        go_wp2_with fail
        exact ⟨⟨t + 1, e, f, hla1, hmost, by go_num, HN⟩, by simp [intOf]; omega⟩
      · obtain ⟨f', E2⟩ := HE.out.mark hk64
        have HE2 := Lib.hid E2
        have HBb : Hid (bb < w.heap.size) := by
          obtain ⟨b', o', q, hc0⟩ := H.out.cell t (by rw [HL.out]; omega)
          cases q
          exact lt_of_cell? hc0
        clear E2
        cases hfk : f kk with
        | false =>
          rw [hfk] at hcf
          clear hskip hfk HE
          by_cases h88 : y.tmod 89 = 88
          · as_aux_lemma =>
              have hc4' : (wr.setCell ⟨w.heap.size + 1, kk, none⟩ (.bool true)).cell? ⟨w.heap.size, 4, none⟩ = some (.slice (some ⟨bb, off, none⟩) la ca) := HE2.out.arg.cell 4
              have hc1' : (wr.setCell ⟨w.heap.size + 1, kk, none⟩ (.bool true)).cell? ⟨w.heap.size, 1, none⟩ = some (.int .i64 N) := HE2.out.arg.cell 1
              have hcy' : (wr.setCell ⟨w.heap.size + 1, kk, none⟩ (.bool true)).cell? ⟨bb, off + t, none⟩ = some (.int .i64 y) := (World.cell?_setCell_other wr ⟨w.heap.size + 1, kk, none⟩ ⟨bb, off + t, none⟩ _ (fun q => by have q1 := congrArg Addr.block q; simp only at q1; have := HBb.out; omega)).trans hcy
              go_wp2_with fail
              generalize wr.setCell ⟨w.heap.size + 1, kk, none⟩ (.bool true) = w2 at *
              refine (page_ex _ w2).mono ?_
              rintro x w3 ⟨P, rfl, hP, B3, O3⟩
              have E3 := HE2.out.step O3
              obtain ⟨va, w4, hap, B4, M4, R4, D4, A4, O4⟩ := E3.more1 (by omega) home ⟨w2.heap.size, 0, none⟩ P hP B3
              obtain ⟨vb, w5, hapR, E5⟩ := ent5_more2 E3.made (by omega) (show home ≤ home by omega) hP M4 R4 D4 A4 O4 E3.hx E3.hh
              have hs4 := str_any w4 _ P 96 96 B4.has hP.len
              have HE5 := Lib.hid E5
              clear E3 B3 O3 B4 M4 R4 D4 A4 O4 E5 HE2 hc4 hc1 hcy hc4' hc1' hcy' hcf hff
              go_wp2_with (first
                | (at_builtin; refine wpList_append_run rfl _ _ 46 46 rfl _ _ rfl rfl _ _ (hap _) ?_)
                | (at_builtin; refine wpList_append_run rfl _ _ 47 47 rfl _ _ rfl rfl _ _ (hapR _) ?_))
              exact ⟨⟨t + 1, _, f', hla1, hmost, by go_num, HE5⟩, by simp [intOf]; omega⟩
          · as_aux_lemma =>
              have hc4' : (wr.setCell ⟨w.heap.size + 1, kk, none⟩ (.bool true)).cell? ⟨w.heap.size, 4, none⟩ = some (.slice (some ⟨bb, off, none⟩) la ca) := HE2.out.arg.cell 4
              have hc1' : (wr.setCell ⟨w.heap.size + 1, kk, none⟩ (.bool true)).cell? ⟨w.heap.size, 1, none⟩ = some (.int .i64 N) := HE2.out.arg.cell 1
              have hcy' : (wr.setCell ⟨w.heap.size + 1, kk, none⟩ (.bool true)).cell? ⟨bb, off + t, none⟩ = some (.int .i64 y) := (World.cell?_setCell_other wr ⟨w.heap.size + 1, kk, none⟩ ⟨bb, off + t, none⟩ _ (fun q => by have q1 := congrArg Addr.block q; simp only at q1; have := HBb.out; omega)).trans hcy
              go_wp2_with fail
              generalize wr.setCell ⟨w.heap.size + 1, kk, none⟩ (.bool true) = w2 at *
              refine (page_ex _ w2).mono ?_
              rintro x w3 ⟨P, rfl, hP, B3, O3⟩
              have E3 := HE2.out.step O3
              obtain ⟨va, w4, hap, B4, M4, R4, D4, A4, O4⟩ := E3.more1 (by omega) k ⟨w2.heap.size, 0, none⟩ P hP B3
              obtain ⟨vb, w5, hapR, E5⟩ := ent5_more2 E3.made (by omega) (show k ≤ home by omega) hP M4 R4 D4 A4 O4 E3.hx E3.hh
              have hs4 := str_any w4 _ P 96 96 B4.has hP.len
              have HE5 := Lib.hid E5
              clear E3 B3 O3 B4 M4 R4 D4 A4 O4 E5 HE2 hc4 hc1 hcy hc4' hc1' hcy' hcf hff
              go_wp2_with (first
                | (at_builtin; refine wpList_append_run rfl _ _ 46 46 rfl _ _ rfl rfl _ _ (hap _) ?_)
                | (at_builtin; refine wpList_append_run rfl _ _ 47 47 rfl _ _ rfl rfl _ _ (hapR _) ?_))
              exact ⟨⟨t + 1, _, f', hla1, hmost, by go_num, HE5⟩, by simp [intOf]; omega⟩
        | true =>
          rw [hfk] at hcf
          have hsk : ¬ 0 < N.tmod 11 := fun q => hskip ⟨hfk, q⟩
          clear hskip hfk HE
          by_cases h88 : y.tmod 89 = 88
          · as_aux_lemma =>
              have hc4' : (wr.setCell ⟨w.heap.size + 1, kk, none⟩ (.bool true)).cell? ⟨w.heap.size, 4, none⟩ = some (.slice (some ⟨bb, off, none⟩) la ca) := HE2.out.arg.cell 4
              have hc1' : (wr.setCell ⟨w.heap.size + 1, kk, none⟩ (.bool true)).cell? ⟨w.heap.size, 1, none⟩ = some (.int .i64 N) := HE2.out.arg.cell 1
              have hcy' : (wr.setCell ⟨w.heap.size + 1, kk, none⟩ (.bool true)).cell? ⟨bb, off + t, none⟩ = some (.int .i64 y) := (World.cell?_setCell_other wr ⟨w.heap.size + 1, kk, none⟩ ⟨bb, off + t, none⟩ _ (fun q => by have q1 := congrArg Addr.block q; simp only at q1; have := HBb.out; omega)).trans hcy
              go_wp2_with fail
              generalize wr.setCell ⟨w.heap.size + 1, kk, none⟩ (.bool true) = w2 at *
              refine (page_ex _ w2).mono ?_
              rintro x w3 ⟨P, rfl, hP, B3, O3⟩
              have E3 := HE2.out.step O3
              obtain ⟨va, w4, hap, B4, M4, R4, D4, A4, O4⟩ := E3.more1 (by omega) home ⟨w2.heap.size, 0, none⟩ P hP B3
              obtain ⟨vb, w5, hapR, E5⟩ := ent5_more2 E3.made (by omega) (show home ≤ home by omega) hP M4 R4 D4 A4 O4 E3.hx E3.hh
              have hs4 := str_any w4 _ P 96 96 B4.has hP.len
              have HE5 := Lib.hid E5
              clear E3 B3 O3 B4 M4 R4 D4 A4 O4 E5 HE2 hc4 hc1 hcy hc4' hc1' hcy' hcf hff
              go_wp2_with (first
                | (at_builtin; refine wpList_append_run rfl _ _ 46 46 rfl _ _ rfl rfl _ _ (hap _) ?_)
                | (at_builtin; refine wpList_append_run rfl _ _ 47 47 rfl _ _ rfl rfl _ _ (hapR _) ?_))
              exact ⟨⟨t + 1, _, f', hla1, hmost, by go_num, HE5⟩, by simp [intOf]; omega⟩
          · as_aux_lemma =>
              have hc4' : (wr.setCell ⟨w.heap.size + 1, kk, none⟩ (.bool true)).cell? ⟨w.heap.size, 4, none⟩ = some (.slice (some ⟨bb, off, none⟩) la ca) := HE2.out.arg.cell 4
              have hc1' : (wr.setCell ⟨w.heap.size + 1, kk, none⟩ (.bool true)).cell? ⟨w.heap.size, 1, none⟩ = some (.int .i64 N) := HE2.out.arg.cell 1
              have hcy' : (wr.setCell ⟨w.heap.size + 1, kk, none⟩ (.bool true)).cell? ⟨bb, off + t, none⟩ = some (.int .i64 y) := (World.cell?_setCell_other wr ⟨w.heap.size + 1, kk, none⟩ ⟨bb, off + t, none⟩ _ (fun q => by have q1 := congrArg Addr.block q; simp only at q1; have := HBb.out; omega)).trans hcy
              go_wp2_with fail
              generalize wr.setCell ⟨w.heap.size + 1, kk, none⟩ (.bool true) = w2 at *
              refine (page_ex _ w2).mono ?_
              rintro x w3 ⟨P, rfl, hP, B3, O3⟩
              have E3 := HE2.out.step O3
              obtain ⟨va, w4, hap, B4, M4, R4, D4, A4, O4⟩ := E3.more1 (by omega) k ⟨w2.heap.size, 0, none⟩ P hP B3
              obtain ⟨vb, w5, hapR, E5⟩ := ent5_more2 E3.made (by omega) (show k ≤ home by omega) hP M4 R4 D4 A4 O4 E3.hx E3.hh
              have hs4 := str_any w4 _ P 96 96 B4.has hP.len
              have HE5 := Lib.hid E5
              clear E3 B3 O3 B4 M4 R4 D4 A4 O4 E5 HE2 hc4 hc1 hcy hc4' hc1' hcy' hcf hff
              go_wp2_with (first
                | (at_builtin; refine wpList_append_run rfl _ _ 46 46 rfl _ _ rfl rfl _ _ (hap _) ?_)
                | (at_builtin; refine wpList_append_run rfl _ _ 47 47 rfl _ _ rfl rfl _ _ (hapR _) ?_))
              exact ⟨⟨t + 1, _, f', hla1, hmost, by go_num, HE5⟩, by simp [intOf]; omega⟩
    · have HN : Hid (Enters w home most (.returned (.tuple #[u8, u9])) wr) := ⟨u8, u9, e, rfl, ⟨Nat.le_trans HE.out.made.few htm, HE.out.made.ent⟩, HE.out.mine, HE.out.ref, HE.out.old⟩
      by_cases hlt : (t : Int) < (la : Int)
      · have i2 : ¬ (t : Int) < (most : Int) := by omega
        clear hin HE
        go_wp2_with fail
        go_ret2
        exact HN.out
      · clear hin HE
        go_wp2_with fail
        go_ret2
        exact HN.out
end Go.Proofs.YtmingbgohdhajaaGreat
