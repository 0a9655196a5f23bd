/- The contract of the reference's next. -/
import Derived.Test.YtmingbgohdhajaaGreatRefL
import Derived.Test.YtmingbgohdhajaaGreatRefQ
namespace Go.Proofs.YtmingbgohdhajaaGreat
open Go.RowKit
set_option maxRecDepth 100000
set_option linter.unusedSimpArgs false

/-- What next answers. -/
def RRead (o : Option (List Ent)) (w : World) (x : Ending) (w' : World) : Prop := Old w w' ∧ match o with
  | none => x = .returned (.tuple #[.slice none 0 0, .int .i64 0])
  | some e => ∃ v, x = .returned (.tuple #[v, .int .i64 (leavesOf e.length : Nat)]) ∧ MineR w' w.heap.size v e

theorem pages_get {L : LS} (hl : L.D.T.length = 2 + L.leaves + L.ws.length) {pos i : Nat} (h : pos + i < L.leaves) : (L.pages.drop pos)[i]? = some (L.D.seen.getD (2 + pos + i) []) := by
  obtain ⟨x, hx⟩ := get_of_lt (l := L.D.seen) (n := 2 + pos + i) (by rw [DS.seen_length]; omega)
  unfold LS.pages
  rw [List.getElem?_drop, List.getElem?_take_of_lt h, List.getElem?_drop, show 2 + (pos + i) = 2 + pos + i by omega, hx, getD_of hx]
theorem pages_length {L : LS} (hl : L.D.T.length = 2 + L.leaves + L.ws.length) (pos : Nat) : (L.pages.drop pos).length = L.leaves - pos := by
  unfold LS.pages
  rw [List.length_drop, List.length_take, List.length_drop, DS.seen_length]
  omega
theorem pages_trk {L : LS} (ok : L.D.Ok) (pos : Nat) : ∀ x ∈ L.pages.drop pos, Trk x := fun x hx => DS.seen_trk ok x (List.mem_of_mem_drop (List.mem_of_mem_take (List.mem_of_mem_drop hx)))

set_option maxHeartbeats 12800000 in
theorem rnext_any {w0 w : World} {lp r m n : Nat} {L : LS} (h : RL w0 lp r m n L w) (hd : L.D.down = false) (ht : L.D.turns ≤ 100000) (hl : L.D.T.length = 2 + L.leaves + L.ws.length) (hlv : L.leaves ≤ 1000) (h2 : 2 ≤ L.ws.length) (hr : L.round ≤ 140737488355328) (pos no : Nat) (hp : pos ≤ L.leaves) (hno : no ≤ 140737488355328) :
    Calls Tryz.prog 45 #[.pointer (some ⟨lp, 0, none⟩), .int .i64 (pos : Int), .int .i64 (no : Int)] w (RRead (readP (L.pages.drop pos) L.round no L.ws.length) w) := by
  have HLk : Hid (∀ w', Old w w' → ∀ i, 2 + i < 2 + L.leaves + L.ws.length → Calls Tryz.prog 33 #[.pointer (some ⟨r, 0, none⟩), .int .i64 ((2 + i : Nat) : Int)] w' (RLooked (L.D.seen.getD (2 + i) []) w')) := fun w' hO i hi => rlook_ok (h.rs.old hO) h.ok ht (2 + i) (by rw [hl]; exact hi) hd
  have HHm : Hid (∀ w', Old w w' → Calls Tryz.prog 23 #[.pointer (some ⟨lp, 0, none⟩)] w' fun e w'' => e = .returned (.int .i64 (L.ws.length : Int)) ∧ Old w' w'') := fun w' hO => rlhome_any (h.old hO) hl
  have HC : Hid (∀ w', Old w w' → w'.cell? ⟨lp, 0, none⟩ = some (.pointer (some ⟨r, 0, none⟩)) ∧ w'.cell? ⟨lp, 1, none⟩ = some (.int .i64 (L.leaves : Int)) ∧ w'.cell? ⟨lp, 2, none⟩ = some (.int .i64 (L.round : Int))) := fun w' hO => ⟨(h.old hO).head.cell 0, (h.old hO).head.cell 1, (h.old hO).head.cell 2⟩
  have HPg : Hid (∀ i, pos + i < L.leaves → (L.pages.drop pos)[i]? = some (L.D.seen.getD (2 + pos + i) [])) := fun i hi => pages_get hl hi
  have HPl := Lib.hid (pages_length hl pos)
  have HPt := Lib.hid (pages_trk h.ok pos)
  have hws : L.ws.length ≤ 5000 := by have := h.ok.many; omega
  clear h hd ht hl
  generalize L.leaves = lv at *
  generalize L.round = rd at *
  generalize L.ws.length = hm at *
  generalize L.D.seen = sn at *
  generalize L.pages.drop pos = ps at *
  have HRd : Hid (∃ o, readP ps rd no hm = o) := ⟨_, rfl⟩
  obtain ⟨o, ho⟩ := HRd.out
  have HO := Lib.hid ho
  rw [ho]
  clear ho HRd
  have c0 := (HC.out w (Touch.refl _ _)).1
  have c1 := (HC.out w (Touch.refl _ _)).2.1
  have HL0 := Lib.hid (HLk.out w (Touch.refl _ _) pos (by omega))
  go_enter Tryz.func45, Tryz.ntmps45
  go_wp2_with fail
  rw [show (2 : Int) + (pos : Int) = ((2 + pos : Nat) : Int) by omega]
  refine HL0.out.mono ?_
  rintro x w1 ⟨g1, k1, rfl, hk1, _, L1, O1⟩
  have HL1 := Lib.hid L1
  have HO1 := Lib.hid O1
  have e1 := (HC.out w1 O1).2.1
  clear L1 O1 HL0 c0 c1
  by_cases hps : pos < lv
  · have hps1 : ¬ (lv : Int) ≤ (pos : Int) := by omega
    have hp0 := HPg.out 0 (by omega)
    rw [Nat.add_zero] at hp0
    have Hp0 := Lib.hid hp0
    have HT0 := Lib.hid (HPt.out _ (mem_of_get hp0))
    have HB : Hid (¬ (manyOf (sn.getD (2 + pos) []) = leavesOf (countOf (sn.getD (2 + pos) [])) ∧ 1 ≤ manyOf (sn.getD (2 + pos) []) ∧ manyOf (sn.getD (2 + pos) []) ≤ ps.length) → o = none) := fun q => by
      rw [← HO.out]
      exact readP_bad hp0 (fun x hx => (HPt.out x hx).len) (fun x hx => (HPt.out x hx).byte) (by rw [HPl.out]; omega) q
    have HG : Hid (manyOf (sn.getD (2 + pos) []) = leavesOf (countOf (sn.getD (2 + pos) [])) → manyOf (sn.getD (2 + pos) []) ≤ ps.length → o = if posting rd no (entsOf ps (countOf (sn.getD (2 + pos) []))) = ps.take (manyOf (sn.getD (2 + pos) [])) ∧ Goes (entsOf ps (countOf (sn.getD (2 + pos) []))) hm then some (entsOf ps (countOf (sn.getD (2 + pos) []))) else none) := fun q1 q2 => by
      rw [← HO.out]
      exact readP_good hp0 q1 q2
    have HMn : Hid (num (((sn.getD (2 + pos) []).drop 10).take 2) 2 = manyOf (sn.getD (2 + pos) [])) := rfl
    clear hp0 HO
    generalize sn.getD (2 + pos) [] = p at *
    have hmb : manyOf p < 65536 := by
      have := num_lt (xs := (p.drop 10).take 2) (fun y hy => HT0.out.byte y (List.mem_of_mem_drop (List.mem_of_mem_take hy))) 2
      simpa [manyOf] using this
    go_wp2_with fail
    refine (rnumber_any _ ((p.drop 10).take 2) 2 _ w1 (HL1.out.has.part 10 2) (by rw [List.length_take, List.length_drop, HT0.out.len]; omega) (by omega)).mono ?_
    rintro x w' ⟨rfl, rfl⟩
    rw [HMn.out]
    clear HMn
    obtain ⟨mn, hmn⟩ : ∃ mn, manyOf p = mn := ⟨_, rfl⟩
    have Hmn := Lib.hid hmn
    rw [hmn] at HB HG hmb ⊢
    clear hmn
    have hw1 : IntKind.i64.wrap ((lv : Int) - (pos : Int)) = (lv : Int) - (pos : Int) := wrap_fits ⟨by omega, by omega⟩
    by_cases hA : (mn : Int) < 1
    · have HN : Hid (o = none) := HB.out (fun c => by omega)
      go_wp2_with fail
      go_ret2
      exact ⟨HO1.out, by rw [HN.out]; rfl⟩
    · by_cases hA2 : (lv : Int) - (pos : Int) < (mn : Int)
      · have HN : Hid (o = none) := HB.out (fun c => by have := HPl.out; omega)
        go_wp2_with fail
        go_ret2
        exact ⟨HO1.out, by rw [HN.out]; rfl⟩
      · have hml : mn ≤ lv - pos := by omega
        have hm1 : 1 ≤ mn := by omega
        have hA3 : decide ((mn : Int) < 1) = false := decide_eq_false hA
        have hA4 : decide ((lv : Int) - (pos : Int) < (mn : Int)) = false := decide_eq_false hA2
        go_wp2_with fail
        have HI0 : Hid (Old w w1) := HO1
        clear HL1 e1 HO1 hA3 hA4 hw1 hA hA2
        go_loopw [11, 12] (fun s i wx => ∃ t : Nat, t ≤ mn ∧ i = .int .i64 t ∧ s = .string (strOf (pieces (ps.take t))) ∧ Hid (Old w wx)) (fun _ i _ => mn - (intOf i).toNat)
        case atStart => exact ⟨0, Nat.zero_le _, rfl, rfl, HI0⟩
        case round =>
          obtain ⟨t, htm, rfl, rfl, HI⟩ := hrel
          clear HI0
          have HZl : Hid (∀ t, t ≤ mn → (pieces (ps.take t)).length = t * 64) := fun t ht => pieces_length (fun x hx => (HPt.out x hx).len) t (by rw [HPl.out]; omega)
          by_cases hlt : t < mn
          · as_aux_lemma =>
              have hx := HPg.out t (by omega)
              have HLt := Lib.hid (HLk.out wr HI.out (pos + t) (by omega))
              rw [show 2 + (pos + t) = 2 + pos + t by omega] at HLt
              have HTx := Lib.hid (HPt.out _ (mem_of_get hx))
              have HS : Hid (strOf (pieces (ps.take t)) ++ strOf (((sn.getD (2 + pos + t) []).drop 12).take 64) = strOf (pieces (ps.take (t + 1)))) := by show _ = _; rw [rstr_append, pieces_next hx]
              have hz : ¬ 9223372036854775807 < (strOf (pieces (ps.take t))).size + (strOf (((sn.getD (2 + pos + t) []).drop 12).take 64)).size := by rw [rstr_size, rstr_size, HZl.out t htm, List.length_take]; omega
              have f0 := (HC.out wr HI.out).1
              have i1 : (t : Int) < (mn : Int) := by omega
              clear hx
              generalize sn.getD (2 + pos + t) [] = px at *
              obtain ⟨s0, hs0⟩ : ∃ q, strOf (pieces (ps.take t)) = q := ⟨_, rfl⟩
              obtain ⟨s1, hs1⟩ : ∃ q, strOf ((px.drop 12).take 64) = q := ⟨_, rfl⟩
              have Hs1 := Lib.hid hs1
              rw [hs0, hs1] at HS hz
              rw [hs0]
              clear hs0 hs1
              go_wp2_with fail
              rw [show (2 : Int) + (pos : Int) + (t : Int) = ((2 + pos + t : Nat) : Int) by omega]
              refine HLt.out.mono ?_
              rintro x w2 ⟨g2, k2, rfl, hk2, _, L2, O2⟩
              have hcv : (convert 61 9 (.slice (some ⟨g2, 12, none⟩) 64 (k2 - 12))).run Tryz.prog w2 = .ok (.string s1) w2 := by
                rw [← Hs1.out]
                exact str_any w2 _ _ 64 _ (by have := L2.has.part 12 64; rwa [Nat.zero_add] at this) (by rw [List.length_take, List.length_drop, HTx.out.len]; omega)
              have HI2 := Lib.hid (HI.out.trans O2)
              clear L2 O2 HLt HI f0
              go_wp2_with fail
              exact ⟨⟨t + 1, by omega, by go_num, by rw [HS.out], HI2⟩, by simp [intOf]; omega⟩
          · obtain rfl : t = mn := by omega
            have i1 : ¬ (t : Int) < (t : Int) := by omega
            have HZ := Lib.hid (HZl.out t (Nat.le_refl _))
            have Hct := Lib.hid (count_pieces Hp0.out (fun x hx => (HPt.out x hx).len) (show 0 < t by omega))
            have hcb : countOf p < 65536 := by
              have := num_lt (xs := (p.drop 12).take 2) (fun y hy => HT0.out.byte y (List.mem_of_mem_drop (List.mem_of_mem_take hy))) 2
              simpa [countOf] using this
            have HEd : Hid (∀ k, entAt (pieces (ps.take t)) k = (num (((pieces (ps.take t)).drop (2 + k * 98)).take 2) 2, ((pieces (ps.take t)).drop (2 + k * 98 + 2)).take 96)) := fun k => rfl
            have HEo : Hid (t = leavesOf (countOf p) → entsOf ps (countOf p) = (List.range (countOf p)).map (entAt (pieces (ps.take t)))) := fun q => by unfold entsOf; rw [← q]
            have HEa : Hid (t = leavesOf (countOf p) → ∀ x ∈ entsOf ps (countOf p), x.2.length = 96 ∧ x.1 < 65536 ∧ ∀ y ∈ x.2, y < 256) := fun q => entsOf_all (fun x hx => (HPt.out x hx).len) (fun x hx => (HPt.out x hx).byte) (by
              rcases Nat.eq_zero_or_pos (countOf p) with h0 | h0
              · rw [h0] at q; unfold leavesOf at q; simp at q; omega
              · exact h0) (by rw [HPl.out, ← q]; omega)
            have HSb : Hid (∀ y ∈ pieces (ps.take t), y < 256) := fun y hy => by
              obtain ⟨q, hq, hy⟩ := List.mem_flatten.1 hy
              obtain ⟨z, hz, rfl⟩ := List.mem_map.1 hq
              exact (HPt.out z (List.mem_of_mem_take hz)).byte y (List.mem_of_mem_drop (List.mem_of_mem_take hy))
            clear HZl
            obtain ⟨c, hc⟩ : ∃ c, countOf p = c := ⟨_, rfl⟩
            have Hc := Lib.hid hc
            rw [hc] at HB HG Hct hcb HEo HEa
            clear hc
            obtain ⟨S, hS⟩ : ∃ S, pieces (ps.take t) = S := ⟨_, rfl⟩
            rw [hS] at HZ Hct HEd HEo HSb ⊢
            clear hS
            obtain ⟨sp, hsp⟩ : ∃ q, strOf S = q := ⟨_, rfl⟩
            have Hsp := Lib.hid hsp
            have hsz : sp.size = t * 64 := by rw [← hsp, rstr_size, HZ.out]
            rw [hsp]
            have Hx2 : Hid (sp.extract 0 2 = strOf (S.take 2)) := by show _ = _; rw [← hsp, rstr_take]
            have HxS : Hid (sp.extract 2 (t * 64) = strOf (S.drop 2)) := by show _ = _; rw [← hsp, rstr_extract, List.take_of_length_le (by rw [List.length_drop, HZ.out]; omega)]
            clear hsp
            have j1 : (2 : Int) ≤ (t : Int) * 64 := by omega
            obtain ⟨kb, wb, hcv, hkb, hLo, hOb⟩ := bytes_of wr (S.take 2) (fun y hy => HSb.out y (List.mem_of_mem_take hy))
            have hl2 : (S.take 2).length = 2 := by rw [List.length_take, HZ.out]; omega
            rw [hl2] at hcv hkb
            rw [← Hx2.out] at hcv
            have HLo := Lib.hid hLo
            have HIb := Lib.hid (HI.out.trans hOb)
            have Hl2 := Lib.hid hl2
            clear hLo hOb HI hl2
            go_wp2_with fail
            refine (rnumber_any _ (S.take 2) 2 kb wb HLo.out.has Hl2.out (by omega)).mono ?_
            rintro x w' ⟨rfl, rfl⟩
            rw [Hct.out]
            clear HLo Hl2 Hct hcv Hx2
            go_wp2_with fail
            refine (rleaves_any c wb (by omega)).mono ?_
            rintro x w' ⟨rfl, rfl⟩
            by_cases hne : leavesOf c = t
            · rw [hne]
              have HGo : Hid (o = if posting rd no (entsOf ps c) = ps.take t ∧ Goes (entsOf ps c) hm then some (entsOf ps c) else none) := HG.out hne.symm (by rw [HPl.out]; omega)
              have HEo' := Lib.hid (HEo.out hne.symm)
              have HEa' := Lib.hid (HEa.out hne.symm)
              have hc0 : 0 < c := by
                rcases Nat.eq_zero_or_pos c with h0 | h0
                · rw [h0] at hne; unfold leavesOf at hne; simp at hne; omega
                · exact h0
              have hct : 2 + c * 98 ≤ t * 64 := by have := leavesOf_pos hc0; rw [hne] at this; exact this
              have HEl : Hid ((entsOf ps c).length = c) := entsOf_length ps c
              have Hne := Lib.hid hne
              obtain ⟨E, hE⟩ : ∃ E, entsOf ps c = E := ⟨_, rfl⟩
              rw [hE] at HGo HEo' HEa' HEl
              clear hE HG HB HEo HEa hne
              have q1 : ((t : Int) != (t : Int)) = false := by simp
              have q2 : ((t : Int) == (t : Int)) = true := by simp
              have HJ0 : Hid (MineR wb w.heap.size (.slice none 0 0) ((List.range 0).map (entAt S)) ∧ Old w wb) := ⟨MineR.nil _ _, HIb.out⟩
              have HxS0 : Hid (sp.extract 2 (t * 64) = strOf (S.drop (2 + 0 * 98))) := HxS
              clear HxS HIb
              go_wp2_with fail
              rw [HxS0.out]
              clear HxS0 Hsp hsz
              go_loopw [11, 16, 17] (fun s v i wx => ∃ k : Nat, k ≤ c ∧ i = .int .i64 k ∧ s = .string (strOf (S.drop (2 + k * 98))) ∧ Hid (MineR wx w.heap.size v ((List.range k).map (entAt S)) ∧ Old w wx)) (fun _ _ i _ => c - (intOf i).toNat)
              case atStart => exact ⟨0, Nat.zero_le _, rfl, rfl, HJ0⟩
              case round =>
                obtain ⟨k, hk, rfl, rfl, HJ⟩ := hrel
                clear HJ0
                by_cases hkc : k < c
                · as_aux_lemma =>
                    have HDl : Hid ((S.drop (2 + k * 98)).length = t * 64 - (2 + k * 98)) := by show _ = _; rw [List.length_drop, HZ.out]
                    have HDb : Hid (∀ y ∈ S.drop (2 + k * 98), y < 256) := fun y hy => HSb.out y (List.mem_of_mem_drop hy)
                    have HD98 : Hid (((S.drop (2 + k * 98)).drop 2).take 96 = (entAt S k).2) := by show _ = _; rw [HEd.out, List.drop_drop]
                    have HD2 : Hid (num ((S.drop (2 + k * 98)).take 2) 2 = (entAt S k).1) := by show _ = _; rw [HEd.out]
                    have HDn : Hid ((S.drop (2 + k * 98)).drop 98 = S.drop (2 + (k + 1) * 98)) := by show _ = _; rw [List.drop_drop]; congr 1; omega
                    have HRn : Hid ((List.range (k + 1)).map (entAt S) = (List.range k).map (entAt S) ++ [((entAt S k).1, (entAt S k).2)]) := by show _ = _; rw [List.range_succ, List.map_append]; rfl
                    generalize S.drop (2 + k * 98) = U at *
                    generalize entAt S k = en at *
                    obtain ⟨z, hz⟩ : ∃ z, t * 64 - (2 + k * 98) = z := ⟨_, rfl⟩
                    have hz98 : 98 ≤ z := by omega
                    have hzm : z ≤ 100000 := by omega
                    rw [hz] at HDl
                    clear hz
                    obtain ⟨sq, hsq⟩ : ∃ q, strOf U = q := ⟨_, rfl⟩
                    have hsz : sq.size = z := by rw [← hsq, rstr_size, HDl.out]
                    have Hx2 : Hid (sq.extract 0 2 = strOf (U.take 2)) := by show _ = _; rw [← hsq, rstr_take]
                    have Hx98 : Hid (sq.extract 2 98 = strOf en.2) := by show _ = _; rw [← hsq, rstr_extract, HD98.out]
                    have HxR : Hid (sq.extract 98 z = strOf (S.drop (2 + (k + 1) * 98))) := by show _ = _; rw [← hsq, rstr_extract, List.take_of_length_le (by rw [List.length_drop, HDl.out]; omega), HDn.out]
                    rw [hsq]
                    clear hsq
                    obtain ⟨kb, wb2, hcv, hkb, hLo, hOb⟩ := bytes_of wr.drew (U.take 2) (fun y hy => HDb.out y (List.mem_of_mem_take hy))
                    have hl2 : (U.take 2).length = 2 := by rw [List.length_take, HDl.out]; omega
                    rw [hl2] at hcv hkb
                    rw [← Hx2.out] at hcv
                    have Ob : Old wr wb2 := ((Touch.refl _ _).drew).trans hOb
                    obtain ⟨va, w4, hap, M4, T4⟩ := (HJ.out.1.old Ob).more (Nat.le_trans HJ.out.2.size Ob.size) en.1 en.2 (by rw [List.length_map, List.length_range]; omega)
                    rw [← HRn.out] at M4
                    rw [← Hx98.out] at hap
                    have HJ4 : Hid (MineR w4 w.heap.size va ((List.range (k + 1)).map (entAt S)) ∧ Old w w4) := ⟨M4, old_mine (HJ.out.2.trans Ob) (fun q hq => (HJ.out.1.lt q hq).1) T4⟩
                    have HLo := Lib.hid hLo
                    have Hl2 := Lib.hid hl2
                    have j0 : (2 : Int) ≤ (z : Int) := by omega
                    have j1 : (98 : Int) ≤ (z : Int) := by omega
                    have j2 : (k : Int) < (c : Int) := by omega
                    clear hLo hOb hl2 Ob M4 T4 HJ HRn Hx2 HD98 HDn HDb HDl
                    go_wp2_with fail
                    go_region_law (first
                      | (refine step_append rfl (.tmp 90) (.tmp 98) 47 47 rfl _ (.slice (some ⟨wb2.heap.size, 0, none⟩) 1 1) rfl rfl _ _ (hap 47) ?_)
                      | (refine step_wanted rfl ?_; go_simp; refine (rnumber_any _ (U.take 2) 2 kb wb2 HLo.out.has Hl2.out (by omega)).mono ?_; rintro ye w7 ⟨rfl, rfl⟩; rw [HD2.out]; dsimp only))
                    all_goals
                      go_wp2_with fail
                      rw [HxR.out]
                      refine ⟨?_, by simp [intOf]; omega⟩
                      repeat apply Exists.intro
                      refine ⟨⟨k + 1, by omega, by go_num, rfl, HJ4⟩, ?_⟩
                      rfl
                · obtain rfl : k = c := by omega
                  have j2 : ¬ (k : Int) < (k : Int) := by omega
                  rw [← HEo'.out] at HJ
                  obtain ⟨ae, ce, hform, hce, HRe⟩ := HJ.out.1.form
                  rw [HEl.out] at hform hce
                  subst hform
                  have HRe' := Lib.hid HRe
                  have f2 := (HC.out wr HJ.out.2).2.2
                  clear HRe HEd HSb HZ
                  generalize hsx : strOf (S.drop (2 + k * 98)) = sx
                  clear hsx
                  go_wp2_with fail
                  refine (rposting_any rd no ae E k ce wr HRe'.out HEl.out (by omega) (fun x hx => ⟨(HEa'.out x hx).1, by have := (HEa'.out x hx).2.1; omega, (HEa'.out x hx).2.2⟩) hr hno).mono ?_
                  rintro x w3 ⟨vp, rfl, MP, O3⟩
                  obtain ⟨ap, cp, hvp⟩ := MP.form
                  have HPl3 : Hid ((posting rd no E).length = t) := by show _ = _; rw [posting_length, HEl.out]; exact Hne.out
                  rw [HPl3.out] at hvp
                  subst hvp
                  have HMP := Lib.hid MP
                  have HO3 := Lib.hid (HJ.out.2.trans O3)
                  have HJ3 := Lib.hid (HJ.out.1.old O3)
                  have HRe3 := Lib.hid (HRe'.out.old O3)
                  have HQ0 : Hid (Old w3 w3 ∧ ∀ j, j < 0 → ps[j]? = (posting rd no E)[j]?) := ⟨Touch.refl _ _, fun j hj => absurd hj (Nat.not_lt_zero _)⟩
                  clear MP O3 HJ HRe' f2 j2
                  go_wp2_with fail
                  go_loopw [19] (fun i wx => ∃ j : Nat, j ≤ t ∧ i = .int .i64 j ∧ Hid (Old w3 wx ∧ ∀ i, i < j → ps[i]? = (posting rd no E)[i]?)) (fun i _ => t - (intOf i).toNat)
                  case atStart => exact ⟨0, Nat.zero_le _, rfl, HQ0⟩
                  case round =>
                    obtain ⟨j, hj, rfl, HQ⟩ := hrel
                    clear HQ0
                    by_cases hjt : j < t
                    · as_aux_lemma =>
                        have hx := HPg.out j (by omega)
                        have HLt := Lib.hid (HLk.out wr (HO3.out.trans HQ.out.1) (pos + j) (by omega))
                        rw [show 2 + (pos + j) = 2 + pos + j by omega] at HLt
                        have HTx := Lib.hid (HPt.out _ (mem_of_get hx))
                        obtain ⟨lf, hlf⟩ := get_of_lt (l := posting rd no E) (n := j) (by rw [HPl3.out]; exact hjt)
                        have Hlfb : Hid (∀ y ∈ lf, y < 256) := by
                          obtain ⟨i, hi, rfl⟩ := List.mem_map.1 (mem_of_get hlf)
                          exact track_byte (rleafText_byte (fun y hy => rptext_bytes (fun x hx => (HEa'.out x hx).2.2) y (List.mem_of_mem_drop (List.mem_of_mem_take hy))))
                        have f0 := (HC.out wr (HO3.out.trans HQ.out.1)).1
                        obtain ⟨gp, hap, hcp⟩ := (HMP.out.old HQ.out.1).at HPl3.out hlf
                        subst hap
                        have i1 : (j : Int) < (t : Int) := by omega
                        have i0 : (0 : Int) ≤ (j : Int) := by omega
                        have Hx := Lib.hid hx
                        have Hlf := Lib.hid hlf
                        have hbq := str_beq HTx.out.byte Hlfb.out
                        clear hx hlf
                        generalize sn.getD (2 + pos + j) [] = px at *
                        obtain ⟨s1, hs1⟩ : ∃ q, strOf px = q := ⟨_, rfl⟩
                        obtain ⟨s2, hs2⟩ : ∃ q, strOf lf = q := ⟨_, rfl⟩
                        have Hs1 := Lib.hid hs1
                        rw [hs1, hs2] at hbq
                        rw [hs2] at hcp
                        clear hs1 hs2
                        go_wp2_with fail
                        rw [show (2 : Int) + (pos : Int) + (j : Int) = ((2 + pos + j : Nat) : Int) by omega]
                        refine HLt.out.mono ?_
                        rintro x w5 ⟨g5, k5, rfl, hk5, _, L5, O5⟩
                        have d0 : (convert 61 9 (.slice (some ⟨g5, 0, none⟩) 96 k5)).run Tryz.prog w5.drew = .ok (.string s1) w5.drew := by
                          rw [← Hs1.out]
                          exact str_any w5.drew _ _ 96 k5 (L5.has.old ((Touch.refl _ _).drew)) HTx.out.len
                        have d1 : w5.drew.cell? ⟨gp, j, none⟩ = some (.string s2) := (O5.cell (p := ⟨gp, j, none⟩) (lt_of_cell? hcp) (fun q => q)).trans hcp
                        have HQ5 : Hid (Old w3 w5.drew) := (HQ.out.1.trans O5).drew
                        clear L5 O5 HLt f0 hcp
                        by_cases heq : px = lf
                        · rw [decide_eq_true heq] at hbq
                          have HN : Hid (Old w3 w5.drew ∧ ∀ i, i < j + 1 → ps[i]? = (posting rd no E)[i]?) := ⟨HQ5.out, fun i hi => by
                            rcases Nat.lt_or_ge i j with q | q
                            · exact HQ.out.2 i q
                            · obtain rfl : i = j := by omega
                              rw [Hx.out, Hlf.out, heq]⟩
                          clear heq HQ HQ5
                          go_wp2_with fail
                          go_region_held3 (fun w' => (convert 61 9 (.slice (some ⟨g5, 0, none⟩) 96 k5)).run Tryz.prog w' = .ok (.string s1) w' ∧ w'.cell? ⟨gp, j, none⟩ = some (.string s2)) (first | exact ⟨d0, d1⟩) (fail)
                          all_goals
                            rename_i hHeld
                            clear hHeld
                            go_wp2_with fail
                            exact ⟨⟨j + 1, by omega, by go_num, HN⟩, by simp [intOf]; omega⟩
                        · rw [decide_eq_false heq] at hbq
                          have HN : Hid (o = none) := by
                            show _ = _
                            rw [HGo.out, if_neg (fun q => heq ?_)]
                            have e1 := congrArg (fun l => l[j]?) q.1
                            simp only [Hlf.out, List.getElem?_take_of_lt hjt, Hx.out] at e1
                            injection e1 with e1
                            exact e1.symm
                          clear heq HQ
                          go_wp2_with fail
                          go_region_held3 (fun w' => (convert 61 9 (.slice (some ⟨g5, 0, none⟩) 96 k5)).run Tryz.prog w' = .ok (.string s1) w' ∧ w'.cell? ⟨gp, j, none⟩ = some (.string s2)) (first | exact ⟨d0, d1⟩) (fail)
                          all_goals
                            rename_i hHeld
                            clear hHeld
                            go_wp2_with fail
                            go_ret2
                            exact ⟨HO3.out.trans HQ5.out, by rw [HN.out]; rfl⟩
                    · as_aux_lemma =>
                        obtain rfl : j = t := by omega
                        have i1 : ¬ (j : Int) < (j : Int) := by omega
                        have HEq : Hid (posting rd no E = ps.take j) := by
                          show _ = _
                          apply List.ext_getElem?
                          intro i
                          rcases Nat.lt_or_ge i j with q | q
                          · rw [← HQ.out.2 i q, List.getElem?_take_of_lt q]
                          · rw [List.getElem?_eq_none (by rw [HPl3.out]; exact q), List.getElem?_eq_none (by rw [List.length_take]; omega)]
                        go_wp2_with fail
                        refine (HHm.out wr (HO3.out.trans HQ.out.1)).mono ?_
                        rintro x w6 ⟨rfl, O6⟩
                        go_wp2_with fail
                        refine (rgood_any ae E k ce hm w6 ((HRe3.out.old HQ.out.1).old O6) HEl.out (by omega) (by omega) (fun x hx => by rw [(HEa'.out x hx).1]; omega)).mono ?_
                        rintro x w7 ⟨rfl, O7⟩
                        have HO7 := Lib.hid (((HO3.out.trans HQ.out.1).trans O6).trans O7)
                        have HM7 := Lib.hid (((HJ3.out.old HQ.out.1).old O6).old O7)
                        clear O6 O7 HQ
                        by_cases hgo : Goes E hm
                        · have HN : Hid (o = some E) := by show _ = _; rw [HGo.out, if_pos ⟨HEq.out, hgo⟩]
                          rw [decide_eq_true hgo]
                          clear hgo
                          go_wp2_with fail
                          go_ret2
                          refine ⟨HO7.out, ?_⟩
                          rw [HN.out]
                          exact ⟨_, by rw [HEl.out, Hne.out]; rfl, HM7.out⟩
                        · have HN : Hid (o = none) := by show _ = _; rw [HGo.out, if_neg (fun q => hgo q.2)]
                          rw [decide_eq_false hgo]
                          clear hgo
                          go_wp2_with fail
                          go_ret2
                          exact ⟨HO7.out, by rw [HN.out]; rfl⟩
            · have q1 : (((leavesOf c : Nat) : Int) != (t : Int)) = true := by simp; omega
              have q2 : (((leavesOf c : Nat) : Int) == (t : Int)) = false := by simp; omega
              have HN : Hid (o = none) := HB.out (fun c => hne c.1.symm)
              generalize leavesOf c = lc at *
              go_wp2_with fail
              go_ret2
              exact ⟨HIb.out, by rw [HN.out]; rfl⟩
  · have hps1 : (lv : Int) ≤ (pos : Int) := by omega
    have HN : Hid (o = none) := by
      show _ = _
      have : ps = [] := List.eq_nil_of_length_eq_zero (by rw [HPl.out]; omega)
      rw [← HO.out, this]
      rfl
    go_wp2_with fail
    go_ret2
    exact ⟨HO1.out, by rw [HN.out]; rfl⟩
end Go.Proofs.YtmingbgohdhajaaGreat
