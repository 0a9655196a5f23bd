/- The contracts of ledger.Found and of a ledger's small methods. -/
import Derived.Test.YtmingbgohdhajaaOps
namespace Go.Proofs.Ytmingbgohdhajaa
open Go.RowKit
set_option maxRecDepth 100000

theorem found_nil (l : Nat) (w : World) : Calls Try.prog 13 #[.pointer none, .int .i64 l] w fun e w' => e = .returned (.int .i64 1) ∧ w = w' := by
  go_enter Try.func13, Try.ntmps13
  go_wp2_with fail
  go_ret
  exact ⟨rfl, rfl⟩
theorem found_no {w0 w : World} {d : Nat} {b : Bl} {D : DS} (h : St w0 d b D w) (l : Nat) (hf : fits l D.T.length = false) : Calls Try.prog 13 #[.pointer (some ⟨d, 0, none⟩), .int .i64 l] w fun e w' => e = .returned (.int .i64 1) ∧ w = w' := by
  have HT := Lib.hid (tracks_any d b D _ w h.dr.at_)
  have HF := Lib.hid (fits_any l D.T.length w h.dr.ok.many)
  rw [hf] at HF
  clear h hf
  generalize D.T.length = n at *
  go_enter Try.func13, Try.ntmps13
  go_wp2_with fail
  refine HT.out.mono ?_
  rintro x w' ⟨rfl, rfl⟩
  go_wp2_with fail
  refine HF.out.mono ?_
  rintro x w' ⟨rfl, rfl⟩
  go_wp2_with fail
  go_ret
  exact ⟨rfl, rfl⟩

/-- The first k of the blank tracks are laid. -/
def blankT (k : Nat) : List Trn := (List.range k).map fun k => Trn.lay k (zeros 96)
theorem blankT_next (k : Nat) : blankT (k + 1) = blankT k ++ [.lay k (zeros 96)] := by simp [blankT, List.range_succ]
theorem blankT_length (k : Nat) : (blankT k).length = k := by simp [blankT]
theorem DS.run_snoc (D : DS) (ts : List Trn) (t : Trn) : D.run (ts ++ [t]) = (D.run ts).step t := by rw [DS.run_append]; rfl
theorem blankT_part {k n : Nat} (h : k ≤ n) : ∃ r, blankT n = blankT k ++ r := ⟨(List.range (n - k)).map (fun i => Trn.lay (k + i) (zeros 96)), by
  unfold blankT
  conv => lhs; rw [show n = k + (n - k) by omega, List.range_add, List.map_append]
  rw [List.map_map]
  rfl⟩

set_option maxHeartbeats 1600000 in
theorem found_any {w0 w : World} {d : Nat} {b : Bl} {D : DS} (h : St w0 d b D w) (ht : D.turns ≤ 90000) (l : Nat) (hf : fits l D.T.length = true) :
    Calls Try.prog 13 #[.pointer (some ⟨d, 0, none⟩), .int .i64 l] w fun e w' => e = .returned (.int .i64 (D.run (foundT l)).bad) ∧ Next w0 d (D.run (foundT l)) w w' := by
  have HT := Lib.hid (tracks_any d b D _ w h.dr.at_)
  have HF := Lib.hid (fits_any l D.T.length w h.dr.ok.many)
  have hll : l + 4 ≤ D.T.length := by unfold fits at hf; have := of_decide_eq_true hf; omega
  have hlm := h.dr.ok.many
  rw [hf] at HF
  have H := Lib.hid h
  have HTn := Lib.hid ht
  clear h hf ht
  have hmk : (Instr.makeSlice 34 (.int .i64 96) (.int .i64 96)).run Try.prog w = .ok (.slice (some ⟨w.heap.size, 0, none⟩) 96 96) (w.alloc (.cells (cells (zeros 96)).toArray 5)) := make_bytes 96 (by decide) w
  have T0 : Old w (w.alloc (.cells (cells (zeros 96)).toArray 5)) := (Touch.refl _ _).alloc _
  have HB0 : Hid (Byt (w.alloc (.cells (cells (zeros 96)).toArray 5)) (some ⟨w.heap.size, 0, none⟩) (zeros 96)) := (Own.new w (zeros 96) (zeros_byte 96)).byt
  have HN0 : Hid (Next w0 d (D.run (blankT 0)) w (w.alloc (.cells (cells (zeros 96)).toArray 5))) := (H.out.step T0).same.ahead T0
  have HDl : Hid (D.T.length = D.T.length) := rfl
  obtain ⟨n, hn⟩ : ∃ n, D.T.length = n := ⟨_, rfl⟩
  have HDn := Lib.hid hn
  rw [hn] at HT HF hll hlm
  clear T0 H hn HDl
  generalize w.alloc (.cells (cells (zeros 96)).toArray 5) = wa at *
  have hw1 : IntKind.i64.wrap (2 + (l : Int)) = 2 + (l : Int) := wrap_fits ⟨by omega, by omega⟩
  go_enter Try.func13, Try.ntmps13
  go_wp2_with fail
  refine HT.out.mono ?_
  rintro x w' ⟨rfl, rfl⟩
  go_wp2_with fail
  refine HF.out.mono ?_
  rintro x w' ⟨rfl, rfl⟩
  clear HT HF
  go_wp2_with fail
  clear hmk
  go_loopw [20] (fun i wx => ∃ k : Nat, k ≤ 2 + l ∧ i = .int .i64 k ∧ Hid (Byt wx (some ⟨w.heap.size, 0, none⟩) (zeros 96)) ∧ Hid (Next w0 d (D.run (blankT k)) w wx)) (fun i _ => 2 + l - (intOf i).toNat)
  case atStart => exact ⟨0, by omega, rfl, HB0, HN0⟩
  case round =>
    obtain ⟨k, hk, rfl, HB, HN⟩ := hrel
    clear HB0 HN0
    have htk := DS.run_turns D (blankT k)
    have hlk := DS.run_len D (blankT k)
    rw [blankT_length] at htk
    by_cases hlt : k < 2 + l
    · have i1 : (k : Int) < 2 + (l : Int) := by omega
      obtain ⟨b1, S1⟩ := HN.out.1
      have HS := Lib.hid S1
      have HTk : Hid ((D.run (blankT k)).turns ≤ 99999) := by show _ ≤ _; have := HTn.out; omega
      have HLk : Hid (k < (D.run (blankT k)).T.length) := by show _ < _; rw [hlk, HDn.out]; omega
      have HR : Hid (D.run (blankT (k + 1)) = (D.run (blankT k)).step (.lay k (zeros 96))) := by show _ = _; rw [blankT_next, DS.run_snoc]
      have HP : Hid (D.run (foundT l) = (D.run (blankT (k + 1))).run ((blankT (2 + l)).drop (k + 1) ++ beginT 1 l)) := by
        show _ = _
        obtain ⟨r, hr⟩ := blankT_part (show k + 1 ≤ 2 + l by omega)
        unfold foundT
        rw [show (List.range (2 + l)).map (fun k => Trn.lay k (zeros 96)) = blankT (2 + l) from rfl, hr, List.drop_left' (blankT_length _), List.append_assoc, DS.run_append]
      clear S1 htk hlk
      go_wp2_with fail
      refine (lay_byt HS.out HTk.out k _ (zeros 96) HLk.out (zeros_length 96) HB.out 96).mono ?_
      rintro x w1 ⟨rfl, N1⟩
      rw [← HR.out] at N1 ⊢
      have HN1 := Lib.hid (HN.out.trans N1)
      have HB1 := Lib.hid (HB.out.kept N1.2.1)
      clear N1 HN HB HS HR
      obtain ⟨D1, hD1⟩ : ∃ D1, D.run (blankT (k + 1)) = D1 := ⟨_, rfl⟩
      have HD1 := Lib.hid hD1
      rw [hD1] at HN1 HP ⊢
      clear hD1
      cases hd : D1.down with
      | true =>
        rw [bad_down hd]
        have HE : Hid (D.run (foundT l) = D1) := by show _ = _; rw [HP.out, DS.run_down hd]
        have HB := Lib.hid (bad_down hd)
        clear hd HP
        go_wp2_with fail
        go_ret
        refine ⟨?_, ?_⟩
        · rw [HE.out, HB.out]; rfl
        · rw [HE.out]; exact HN1.out
      | false =>
        rw [bad_up hd]
        clear hd HP
        go_wp2_with fail
        exact ⟨⟨k + 1, by omega, by go_num, HB1, by rw [HD1.out]; exact HN1⟩, by simp [intOf]; omega⟩
    · obtain rfl : k = 2 + l := by omega
      have i1 : ¬ ((2 + l : Nat) : Int) < 2 + (l : Int) := by omega
      obtain ⟨b1, S1⟩ := HN.out.1
      have HS := Lib.hid S1
      have HTk : Hid ((D.run (blankT (2 + l))).turns ≤ 99990) := by show _ ≤ _; have := HTn.out; omega
      have HR : Hid (D.run (foundT l) = (D.run (blankT (2 + l))).run (beginT 1 l)) := by show _ = _; unfold foundT; rw [DS.run_append]; rfl
      clear S1 htk hlk
      go_wp2_with fail
      refine (begin_any HS.out HTk.out 1 l (by omega) (by omega)).mono ?_
      rintro x w1 ⟨rfl, N1⟩
      rw [← HR.out] at N1 ⊢
      have HN1 := Lib.hid (HN.out.trans N1)
      clear N1 HN HS HR
      go_wp2_with fail
      go_ret
      exact ⟨rfl, HN1.out⟩

section
variable {w : World} {l d g : Nat} {L : LS}
theorem home_any (h : Blk w l 94 (lhead d g L)) : Calls Try.prog 40 #[.pointer (some ⟨l, 0, none⟩)] w fun e w' => e = .returned (.int .i64 (L.ws.length : Int)) ∧ w = w' := by
  have hc : w.cell? ⟨l, 5, none⟩ = some (.slice (some ⟨g, 0, none⟩) L.ws.length L.ws.length) := h.cell 5
  generalize L.ws.length = n at *
  clear h
  go_enter Try.func40, Try.ntmps40
  go_wp2
  go_ret
  exact ⟨rfl, rfl⟩
theorem blank_any (h : Blk w l 94 (lhead d g L)) (hl : L.laid ≤ L.leaves) (hm : L.leaves ≤ 5000) : Calls Try.prog 17 #[.pointer (some ⟨l, 0, none⟩)] w fun e w' => e = .returned (.int .i64 ((L.leaves - L.laid : Nat) : Int)) ∧ Old w w' := by
  have hc1 : w.cell? ⟨l, 1, none⟩ = some (.int .i64 (L.leaves : Int)) := h.cell 1
  have hc4 : w.cell? ⟨l, 4, none⟩ = some (.int .i64 (L.laid : Int)) := h.cell 4
  generalize L.leaves = m at *
  generalize L.laid = n at *
  have hw : IntKind.i64.wrap ((m : Int) - (n : Int)) = (m : Int) - (n : Int) := wrap_fits ⟨by omega, by omega⟩
  have hd1 : w.drew.cell? ⟨l, 1, none⟩ = some (.int .i64 (m : Int)) := hc1
  have hd4 : w.drew.cell? ⟨l, 4, none⟩ = some (.int .i64 (n : Int)) := hc4
  clear h
  go_enter Try.func17, Try.ntmps17
  go_wp2_with fail
  go_region_held3 (fun w' => w'.cell? ⟨l, 1, none⟩ = some (.int .i64 (m : Int)) ∧ w'.cell? ⟨l, 4, none⟩ = some (.int .i64 (n : Int))) (first | exact ⟨hd1, hd4⟩) (fail)
  all_goals
    rename_i hHeld
    clear hHeld
    go_wp2_with fail
    go_ret
    exact ⟨by congr 1; show Value.int _ _ = _; congr 1; omega, (Touch.refl _ _).drew⟩
theorem lost_any (h : Blk w l 94 (lhead d g L)) : Calls Try.prog 21 #[.pointer (some ⟨l, 0, none⟩)] w fun e w' => e = .returned (.bool L.lost) ∧ w = w' := by
  have hc : w.cell? ⟨l, 6, none⟩ = some (.bool L.lost) := h.cell 6
  generalize L.lost = n at *
  clear h
  go_enter Try.func21, Try.ntmps21
  go_wp2
  go_ret
  exact ⟨rfl, rfl⟩
theorem homeTrack_any (h : Blk w l 94 (lhead d g L)) (k : Nat) (hm : L.leaves ≤ 5000) (hk : k ≤ 5000) : Calls Try.prog 55 #[.pointer (some ⟨l, 0, none⟩), .int .i64 k] w fun e w' => e = .returned (.int .i64 ((2 + L.leaves + k : Nat) : Int)) ∧ w = w' := by
  have hc1 : w.cell? ⟨l, 1, none⟩ = some (.int .i64 (L.leaves : Int)) := h.cell 1
  generalize L.leaves = m at *
  clear h
  go_enter Try.func55, Try.ntmps55
  go_wp2
  go_ret
  exact ⟨by simp, rfl⟩
theorem heed_down (h : Blk w l 94 (lhead d g L)) : Calls Try.prog 52 #[.pointer (some ⟨l, 0, none⟩), .int .i64 4] w fun e w' => e = .returned (.int .i64 4) ∧ Blk w' l 94 (lhead d g { L with lost := true }) ∧ Touch (fun k => k = l) w w' := by
  have hc : w.cell? ⟨l, 6, none⟩ = some (.bool L.lost) := h.cell 6
  have hf := h.frozen 6
  have HS : Hid (Blk (w.setCell ⟨l, 6, none⟩ (.bool true)) l 94 (lhead d g { L with lost := true })) := h.set 6 (.bool true)
  generalize L.lost = n at *
  clear h
  go_enter Try.func52, Try.ntmps52
  go_wp2
  go_ret
  exact ⟨rfl, HS.out, Touch.one ⟨l, 6, none⟩ _⟩
theorem heed_up (n : Int) (hn : n ≠ 4) : Calls Try.prog 52 #[.pointer (some ⟨l, 0, none⟩), .int .i64 n] w fun e w' => e = .returned (.int .i64 n) ∧ w = w' := by
  go_enter Try.func52, Try.ntmps52
  go_wp2
  go_ret
  exact ⟨rfl, rfl⟩
end
end Go.Proofs.Ytmingbgohdhajaa
