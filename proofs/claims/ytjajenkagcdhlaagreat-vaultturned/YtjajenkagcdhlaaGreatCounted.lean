/- The contract of ledger.counted. -/
import Derived.Test.YtjajenkagcdhlaaGreatJN
namespace Go.Proofs.YtjajenkagcdhlaaGreat
open Go.RowKit
set_option maxRecDepth 100000

/-- The round and the leaves of the cover that counts among the first k. -/
def pickC (D : DS) : Nat → Nat × Nat
  | 0 => (0, 0)
  | k + 1 => if readC (D.seen.getD k []) k D.T.length = true ∧ (pickC D k).1 < roundC (D.seen.getD k []) then (roundC (D.seen.getD k []), leavesC (D.seen.getD k [])) else pickC D k
def chead (d : Nat) (p : Nat × Nat) : List Value := [.pointer (some ⟨d, 0, none⟩), .int .i64 (p.2 : Int), .int .i64 (p.1 : Int), .int .i64 0, .int .i64 0, .slice none 0 0, .bool false]

theorem readC_round {b : List Nat} {k n : Nat} (h : readC b k n = true) : 0 < roundC b := by
  unfold readC at h
  rw [Bool.and_eq_true] at h
  exact of_decide_eq_true h.1
theorem readC_fits {b : List Nat} {k n : Nat} (h : readC b k n = true) : fits (leavesC b) n = true := by
  unfold readC at h
  rw [Bool.and_eq_true, Bool.and_eq_true, Bool.and_eq_true] at h
  exact h.2.2.1
theorem pick_yes {D : DS} {k : Nat} (h : readC (D.seen.getD k []) k D.T.length = true) (h' : (pickC D k).1 < roundC (D.seen.getD k [])) : pickC D (k + 1) = (roundC (D.seen.getD k []), leavesC (D.seen.getD k [])) := by
  show (if _ then _ else _) = _
  exact if_pos ⟨h, h'⟩
theorem pick_no {D : DS} {k : Nat} (h : ¬ (readC (D.seen.getD k []) k D.T.length = true ∧ (pickC D k).1 < roundC (D.seen.getD k []))) : pickC D (k + 1) = pickC D k := by
  show (if _ then _ else _) = _
  exact if_neg h
theorem pick_none {D : DS} (h : coverK D = none) : (pickC D 2).1 = 0 := by
  unfold coverK at h
  simp only at h
  split at h
  · split at h
    · split at h <;> cases h
    · cases h
  · split at h
    · cases h
    · rename_i h1 h0
      rw [pick_no (fun q => h1 q.1), pick_no (fun q => h0 q.1)]
      rfl
theorem pick_some {D : DS} {k : Nat} (h : coverK D = some k) : pickC D 2 = (roundC (D.seen.getD k []), leavesC (D.seen.getD k [])) ∧ readC (D.seen.getD k []) k D.T.length = true ∧ k < 2 := by
  unfold coverK at h
  simp only at h
  split at h
  · rename_i h1
    split at h
    · rename_i h0
      have p0 := pick_yes h0 (readC_round h0)
      split at h
      · rename_i hle
        injection h with h
        subst h
        exact ⟨by rw [pick_no (fun q => by have := q.2; rw [p0] at this; simp only at this; omega), p0], h0, by decide⟩
      · rename_i hle
        injection h with h
        subst h
        exact ⟨pick_yes h1 (by rw [p0]; simp only; omega), h1, by decide⟩
    · rename_i h0
      injection h with h
      subst h
      exact ⟨pick_yes h1 (by rw [pick_no (fun q => h0 q.1)]; exact readC_round h1), h1, by decide⟩
  · rename_i h1
    split at h
    · rename_i h0
      injection h with h
      subst h
      exact ⟨by rw [pick_no (fun q => h1 q.1)]; exact pick_yes h0 (readC_round h0), h0, by decide⟩
    · cases h

theorem counted_down {w0 : Fr} {w : World} {d : Nat} {b : Bl} {D : DS} (h : St w0 d b D w) (hd : D.down = true) : Calls Tryz.prog 76 #[.pointer (some ⟨d, 0, none⟩)] w fun x w' => x = .returned (.tuple #[.pointer none, .int .i64 4]) ∧ Old w w' := by
  have T1 : Old w (w.alloc (.cells (chead d (0, 0)).toArray 129)) := (Touch.refl _ _).alloc _
  have HS := Lib.hid (h.step T1)
  have HT := Lib.hid T1
  have Hd := Lib.hid hd
  have HF := Lib.hid h.dr.ok.few
  clear h hd T1
  go_enter Tryz.func76, Tryz.ntmps76
  go_wp2_with fail
  go_loopw [14] (fun i wx => i = .int .i64 0 ∧ Hid (St w0 d b D wx ∧ Old w wx)) (fun i _ => 2 - (intOf i).toNat)
  case atStart => exact ⟨rfl, HS.out, HT.out⟩
  case round =>
    obtain ⟨rfl, HC⟩ := hrel
    clear HS HT
    have HL := Lib.hid (look_down d 0 b D _ wr HC.out.1.dr.at_ (by have := HF.out; omega) Hd.out)
    have HO := Lib.hid HC.out.2
    clear HC
    go_wp2_with fail
    refine HL.out.mono ?_
    rintro x w' ⟨rfl, rfl⟩
    clear HL
    go_wp2_with fail
    go_ret2
    exact ⟨rfl, HO.out⟩

/-- What counted answers. -/
def Counts (w0 : Fr) (d : Nat) (D : DS) (w : World) (x : Ending) (w' : World) : Prop :=
  Old w w' ∧ ((coverK D = none ∧ x = .returned (.tuple #[.pointer none, .int .i64 11])) ∨
    ∃ k l g b, coverK D = some k ∧ x = .returned (.tuple #[.pointer (some ⟨l, 0, none⟩), .int .i64 0]) ∧ LAt w0 l d b g (LS.counted D k) w')

set_option maxHeartbeats 3200000 in
theorem counted_any {w0 : Fr} {w : World} {d : Nat} {b : Bl} {D : DS} (h : St w0 d b D w) (hd : D.down = false) : Calls Tryz.prog 76 #[.pointer (some ⟨d, 0, none⟩)] w (Counts w0 d D w) := by
  have T1 : Old w (w.alloc (.cells (chead d (0, 0)).toArray 129)) := (Touch.refl _ _).alloc _
  have HK0 : Hid (Blk (w.alloc (.cells (chead d (0, 0)).toArray 129)) w.heap.size 129 (chead d (pickC D 0)) ∧ Old w (w.alloc (.cells (chead d (0, 0)).toArray 129))) := ⟨Blk.new w 129 (chead d (0, 0)), T1⟩
  have HS := Lib.hid h
  have Hd := Lib.hid hd
  have hfew := h.dr.ok.few
  have hmany := h.dr.ok.many
  clear h hd T1
  go_enter Tryz.func76, Tryz.ntmps76
  go_wp2_with fail
  go_loopw [14] (fun i wx => ∃ k : Nat, k ≤ 2 ∧ i = .int .i64 k ∧ Hid (Blk wx w.heap.size 129 (chead d (pickC D k)) ∧ Old w wx)) (fun i _ => 2 - (intOf i).toNat)
  case atStart => exact ⟨0, by omega, rfl, HK0⟩
  case round =>
    obtain ⟨k, hk, rfl, HC⟩ := hrel
    clear HK0
    by_cases hlt : k < 2
    · have i1 : (k : Int) < 2 := by omega
      have HL := Lib.hid (look_st (HS.out.step HC.out.2) k (by omega) Hd.out)
      go_wp2_with fail
      refine HL.out.mono ?_
      rintro x w1 ⟨g1, rfl, hg1, K1, O1⟩
      have HC1 : Hid (Blk w1 w.heap.size 129 (chead d (pickC D k)) ∧ Old w w1) := ⟨HC.out.1.touch O1 (fun q => q), HC.out.2.trans O1⟩
      have hTr : Trk (D.seen.getD k []) := by
        obtain ⟨y, hy⟩ := get_of_lt (l := D.seen) (n := k) (by rw [DS.seen_length]; omega)
        rw [getD_of hy]
        exact DS.seen_trk HS.out.dr.ok y (mem_of_get hy)
      have HHs := Lib.hid (blk_has hTr.byte K1)
      have HTr := Lib.hid hTr
      have HTk := Lib.hid (tracks_any d b D _ w1 (HS.out.step HC1.out.2).dr.at_)
      have HPk : Hid (pickC D (k + 1) = if readC (D.seen.getD k []) k D.T.length = true ∧ (pickC D k).1 < roundC (D.seen.getD k []) then (roundC (D.seen.getD k []), leavesC (D.seen.getD k [])) else pickC D k) := rfl
      clear K1 O1 hg1 HC HL hTr
      generalize D.seen.getD k [] = bs at *
      generalize D.T.length = nt at *
      go_wp2_with fail
      refine HTk.out.mono ?_
      rintro x w' ⟨rfl, rfl⟩
      go_wp2_with fail
      refine (readCover_any _ bs k nt w1 HHs.out HTr.out.len hlt hmany).mono ?_
      rintro x w2 ⟨rfl, O2⟩
      have HC2 : Hid (Blk w2 w.heap.size 129 (chead d (pickC D k)) ∧ Old w w2) := ⟨HC1.out.1.touch O2 (fun q => q), HC1.out.2.trans O2⟩
      have hc2 : w2.cell? ⟨w.heap.size, 2, none⟩ = some (.int .i64 ((pickC D k).1 : Int)) := HC2.out.1.cell 2
      have hc1 : w2.cell? ⟨w.heap.size, 1, none⟩ = some (.int .i64 ((pickC D k).2 : Int)) := HC2.out.1.cell 1
      have hf2 := HC2.out.1.frozen 2
      have hf1 := HC2.out.1.frozen 1
      clear O2 HC1 HHs HTr HTk
      cases hR : readC bs k nt with
      | true =>
        by_cases hgt : (pickC D k).1 < roundC bs
        · have hgt' : ((pickC D k).1 : Int) < (roundC bs : Int) := by omega
          have HP' : Hid (pickC D (k + 1) = (roundC bs, leavesC bs)) := by show _ = _; rw [HPk.out, if_pos ⟨hR, hgt⟩]
          have HB : Hid (Blk ((w2.setCell ⟨w.heap.size, 2, none⟩ (.int .i64 (roundC bs : Int))).setCell ⟨w.heap.size, 1, none⟩ (.int .i64 (leavesC bs : Int))) w.heap.size 129 (chead d (pickC D (k + 1))) ∧ Old w ((w2.setCell ⟨w.heap.size, 2, none⟩ (.int .i64 (roundC bs : Int))).setCell ⟨w.heap.size, 1, none⟩ (.int .i64 (leavesC bs : Int)))) := by
            rw [HP'.out]
            exact ⟨(HC2.out.1.set 2 _).set 1 _, (HC2.out.2.setCell (.inr (Nat.le_refl _)) _).setCell (.inr (Nat.le_refl _)) _⟩
          clear hR HPk HC2 HP'
          generalize roundC bs = rb at *
          generalize leavesC bs = lb at *
          generalize pickC D k = pk at *
          go_wp2_with fail
          exact ⟨⟨k + 1, by omega, by go_num, HB⟩, by simp [intOf]; omega⟩
        · have hgt' : ¬ ((pickC D k).1 : Int) < (roundC bs : Int) := by omega
          have HB : Hid (Blk w2 w.heap.size 129 (chead d (pickC D (k + 1))) ∧ Old w w2) := by
            rw [HPk.out, if_neg (fun q => hgt q.2)]
            exact HC2.out
          clear hR HPk HC2
          generalize pickC D k = pk at *
          go_wp2_with fail
          exact ⟨⟨k + 1, by omega, by go_num, HB⟩, by simp [intOf]; omega⟩
      | false =>
        have HB : Hid (Blk w2 w.heap.size 129 (chead d (pickC D (k + 1))) ∧ Old w w2) := by
          rw [HPk.out, if_neg (fun q => by rw [hR] at q; cases q.1)]
          exact HC2.out
        clear hR HPk HC2
        generalize pickC D k = pk at *
        go_wp2_with fail
        exact ⟨⟨k + 1, by omega, by go_num, HB⟩, by simp [intOf]; omega⟩
    · obtain rfl : k = 2 := by omega
      have hc2 : wr.cell? ⟨w.heap.size, 2, none⟩ = some (.int .i64 ((pickC D 2).1 : Int)) := HC.out.1.cell 2
      cases hK : coverK D with
      | none =>
        rw [pick_none hK] at hc2
        have HK := Lib.hid hK
        have HO := Lib.hid HC.out.2
        clear hK HC
        go_wp2_with fail
        go_ret2
        exact ⟨HO.out, .inl ⟨HK.out, rfl⟩⟩
      | some j =>
        obtain ⟨hp, hrd, hj⟩ := pick_some hK
        have hr0 := readC_round hrd
        have hfit := readC_fits hrd
        have hlb : leavesC (D.seen.getD j []) + 4 ≤ D.T.length ∧ 5 ≤ leavesC (D.seen.getD j []) := by unfold fits at hfit; have := of_decide_eq_true hfit; omega
        have HK := Lib.hid hK
        have HB := Lib.hid HC.out.1
        have HO := Lib.hid HC.out.2
        rw [hp] at HB hc2
        have HCt : Hid (LS.counted D j = { D := D, leaves := leavesC (D.seen.getD j []), round := roundC (D.seen.getD j []), posts := 0, laid := 0, ws := List.replicate (D.T.length - 2 - leavesC (D.seen.getD j [])) none, lost := false }) := rfl
        clear hK HC hp hrd hfit hj
        generalize roundC (D.seen.getD j []) = rb at *
        generalize leavesC (D.seen.getD j []) = lb at *
        have h0 : ¬ (rb : Int) = 0 := by omega
        have HD : Hid (Old wr wr.drew) := (Touch.refl _ _).drew
        have HTk := Lib.hid (tracks_any d b D _ wr.drew (HS.out.step (HO.out.trans HD.out)).dr.at_)
        obtain ⟨n, hn⟩ : ∃ n, D.T.length - 2 - lb = n := ⟨_, rfl⟩
        rw [hn] at HCt
        generalize hnt : D.T.length = nt at *
        have hcast : (nt : Int) - 2 - (lb : Int) = ((n : Nat) : Int) := by omega
        have hmk := make_pages n (by omega)
        rw [← hcast] at hmk
        have w1 : IntKind.i64.wrap ((nt : Int) - 2) = (nt : Int) - 2 := wrap_fits ⟨by omega, by omega⟩
        have w2 : IntKind.i64.wrap ((nt : Int) - 2 - (lb : Int)) = (nt : Int) - 2 - (lb : Int) := wrap_fits ⟨by omega, by omega⟩
        have HBd := Lib.hid (HB.out.touch HD.out (fun q => q))
        have hS : Hid (wr.drew.cell? ⟨w.heap.size, 1, none⟩ = some (.int .i64 (lb : Int))) := HBd.out.cell 1
        have T2 : Old wr.drew (wr.drew.alloc (.cells (nils n).toArray 30)) := (Touch.refl _ _).alloc _
        have HB2 := Lib.hid (HBd.out.touch T2 (fun q => q))
        have hS2 : Hid ((wr.drew.alloc (.cells (nils n).toArray 30)).cell? ⟨w.heap.size, 1, none⟩ = some (.int .i64 (lb : Int))) := HB2.out.cell 1
        have hcz : (wr.drew.alloc (.cells (nils n).toArray 30)).cell? ⟨w.heap.size, 5, none⟩ = some (.slice none 0 0) := HB2.out.cell 5
        have hfz : (wr.drew.alloc (.cells (nils n).toArray 30)).frozen? ⟨w.heap.size, 5, none⟩ = false := HB2.out.frozen 5
        have HG2 : Hid (Blk (wr.drew.alloc (.cells (nils n).toArray 30)) wr.drew.heap.size 30 (nils n)) := Blk.new wr.drew 30 (nils n)
        have HO2 := Lib.hid ((HO.out.trans HD.out).trans T2)
        have hcz' : (wr.alloc (.cells (nils n).toArray 30)).cell? ⟨w.heap.size, 5, none⟩ = some (.slice none 0 0) := hcz
        have hfz' : (wr.alloc (.cells (nils n).toArray 30)).frozen? ⟨w.heap.size, 5, none⟩ = false := hfz
        have hS3 := Lib.hid (fun v => (HB2.out.set 5 v).cell 1)
        have HEnd : Hid (Counts w0 d D w (.returned (.tuple #[.pointer (some ⟨w.heap.size, 0, none⟩), .int .i64 0])) ((wr.drew.alloc (.cells (nils n).toArray 30)).setCell ⟨w.heap.size, 5, none⟩ (.slice (some ⟨wr.drew.heap.size, 0, none⟩) n n))) := by
          have T3 := Touch.one (w := wr.drew.alloc (.cells (nils n).toArray 30)) ⟨w.heap.size, 5, none⟩ (.slice (some ⟨wr.drew.heap.size, 0, none⟩) n n)
          have hne : wr.drew.heap.size ≠ w.heap.size := HG2.out.ne HB2.out (by decide)
          refine ⟨HO2.out.own T3 (Nat.le_refl _), .inr ⟨j, w.heap.size, wr.drew.heap.size, b, HK.out, rfl, ?_⟩⟩
          have hsz := HS.out.old.size
          have hsz2 := (HO.out.trans HD.out).size
          rw [HCt.out]
          refine ⟨(HS.out.step HO2.out).touch HB2.out (by unfold other; decide) hsz T3, ?_, ⟨nils n, HG2.out.touch T3 hne, by simp [nils], fun i x hx => ?_⟩, hsz, Nat.le_trans hsz hsz2⟩
          · have := HB2.out.set 5 (.slice (some ⟨wr.drew.heap.size, 0, none⟩) n n)
            unfold lhead
            simp only [List.length_replicate]
            exact this
          · have hi : i < n := by have := lt_of_get hx; simpa using this
            rw [List.getElem?_replicate, if_pos hi] at hx
            injection hx with hx
            subst hx
            exact ⟨.slice none 0 0, by simp [nils, hi], rfl⟩
        clear T2 hcast HBd HG2 HO2 HCt HS HO HB
        go_wp2_with fail
        go_region_held3 (fun w' => w'.cell? ⟨w.heap.size, 1, none⟩ = some (.int .i64 (lb : Int))) (first | exact hS.out | exact hS2.out | exact hS3.out _) (first | (go_at_call 90; refine HTk.out.mono ?_; rintro x w' ⟨rfl, rfl⟩))
        all_goals
          rename_i hHeld
          clear hHeld
          go_wp2_with fail
          go_ret2
          exact HEnd.out
end Go.Proofs.YtjajenkagcdhlaaGreat
