/- A ledger in memory; the contracts of take, Home, Blank, Lost, homeTrack, heed. -/
import Derived.Test.YtjajenkagcdhlaaGreatPost
namespace Go.Proofs.YtjajenkagcdhlaaGreat
open Go.RowKit
set_option maxRecDepth 100000

/-- A place of what is written. -/
def Slot (w : World) (v : Value) : Option (List Nat) → Prop
  | none => v = .slice none 0 0
  | some bs => ∃ h o c, v = .slice (some ⟨h, o, none⟩) 96 c ∧ Trk bs ∧ Byt w (some ⟨h, o, none⟩) bs
theorem Slot.keep {w w' : World} {v : Value} {x : Option (List Nat)} (h : Slot w v x) (m : ∀ g cs, Blk w g 5 cs → Blk w' g 5 cs) : Slot w' v x := by
  cases x with
  | none => exact h
  | some bs =>
    obtain ⟨a, o, c, e, ht, hb⟩ := h
    exact ⟨a, o, c, e, ht, hb.keep m⟩
/-- What is written, in memory. -/
def WriAt (w : World) (g : Nat) (ws : Wri) : Prop := ∃ cs : List Value, Blk w g 30 cs ∧ cs.length = ws.length ∧ ∀ (i : Nat) (x : Option (List Nat)), ws[i]? = some x → ∃ v, cs[i]? = some v ∧ Slot w v x
theorem WriAt.keep {w w' : World} {g : Nat} {ws : Wri} (h : WriAt w g ws) (m : ∀ g cs, Blk w g 5 cs → Blk w' g 5 cs) (m' : ∀ cs, Blk w g 30 cs → Blk w' g 30 cs) : WriAt w' g ws := by
  obtain ⟨cs, hb, hl, hs⟩ := h
  refine ⟨cs, m' cs hb, hl, fun i x hx => ?_⟩
  obtain ⟨v, h1, h2⟩ := hs i x hx
  exact ⟨v, h1, h2.keep m⟩
theorem WriAt.old {w w' : World} {g : Nat} {ws : Wri} (h : WriAt w g ws) (m : Old w w') : WriAt w' g ws := h.keep (fun _ _ hb => hb.touch m (fun q => q)) (fun _ hb => hb.touch m (fun q => q))
theorem WriAt.kept {w w' : World} {g : Nat} {ws : Wri} (h : WriAt w g ws) (m : Kept w w') : WriAt w' g ws := h.keep (fun _ _ hb => m.bytes hb) (fun cs hb => m.blk 30 g cs (by unfold other; decide) hb)
theorem WriAt.blk {w : World} {g : Nat} {ws : Wri} (h : WriAt w g ws) : ∃ cs, Blk w g 30 cs := by
  obtain ⟨cs, hb, _⟩ := h
  exact ⟨cs, hb⟩
theorem WriAt.cell {w : World} {g i : Nat} {ws : Wri} (h : WriAt w g ws) (hi : i < ws.length) : ∃ v, w.cell? ⟨g, i, none⟩ = some v ∧ w.frozen? ⟨g, i, none⟩ = false := by
  obtain ⟨cs, hb, hl, _⟩ := h
  exact ⟨_, (hb.cell i).trans (List.getElem?_eq_getElem (by omega)), hb.frozen i⟩
theorem WriAt.slot {w : World} {g i : Nat} {ws : Wri} {x : Option (List Nat)} (h : WriAt w g ws) (hi : ws[i]? = some x) : ∃ v, w.cell? ⟨g, i, none⟩ = some v ∧ Slot w v x := by
  obtain ⟨cs, hb, hl, hs⟩ := h
  obtain ⟨v, h1, h2⟩ := hs i x hi
  exact ⟨v, (hb.cell i).trans h1, h2⟩
theorem WriAt.set {w : World} {g i : Nat} {ws : Wri} {v : Value} {x : Option (List Nat)} (h : WriAt w g ws) (hi : i < ws.length) (hs : Slot w v x) : WriAt (w.setCell ⟨g, i, none⟩ v) g (ws.set i x) := by
  obtain ⟨cs, hb, hl, hc⟩ := h
  have T := Touch.one (w := w) ⟨g, i, none⟩ v
  have hk : ∀ k ds, Blk w k 5 ds → Blk (w.setCell ⟨g, i, none⟩ v) k 5 ds := fun k ds hd => hd.touch T (hd.ne hb (by decide))
  refine ⟨_, hb.set i v, by rw [List.length_set, List.length_set, hl], fun j y hy => ?_⟩
  by_cases e : i = j
  · subst e
    rw [List.getElem?_set_self hi] at hy
    injection hy with hy
    subst hy
    exact ⟨v, List.getElem?_set_self (by omega), hs.keep hk⟩
  · rw [List.getElem?_set_ne e] at hy
    obtain ⟨u, h1, h2⟩ := hc j y hy
    exact ⟨u, by rw [List.getElem?_set_ne e]; exact h1, h2.keep hk⟩

/-- The cells of a ledger itself. -/
def lhead (d g : Nat) (L : LS) : List Value := [.pointer (some ⟨d, 0, none⟩), .int .i64 (L.leaves : Int), .int .i64 (L.round : Int), .int .i64 (L.posts : Int), .int .i64 (L.laid : Int), .slice (some ⟨g, 0, none⟩) L.ws.length L.ws.length, .bool L.lost]

set_option maxHeartbeats 3200000 in
theorem take_any (l d g : Nat) (L : LS) (a : Option Addr) (e : List Ent) (len cap : Nat) (w : World) (hh : Blk w l 129 (lhead d g L)) (hw : WriAt w g L.ws) (h : Ents w a e) (hlen : e.length = len) (hm : len ≤ 100000)
    (he : ∀ x ∈ e, x.1 < L.ws.length ∧ x.2.length = 96) (_hhm : L.ws.length ≤ 5000) :
    Calls Tryz.prog 99 #[.pointer (some ⟨l, 0, none⟩), .slice a len cap] w fun x w' => x = .returned (.tuple #[]) ∧ WriAt w' g (took L.ws e) ∧ Touch (fun k => k = g) w w' := by
  have HL := Lib.hid hlen
  have H := Lib.hid h
  have HE := Lib.hid he
  have Hh := Lib.hid hh
  have HW0 : Hid (WriAt w g (took L.ws (e.take 0))) := hw
  have HT0 : Hid (Touch (fun k => k = g) w w) := Touch.refl _ _
  have HGl : Hid (l ≠ g) := by
    obtain ⟨cs, hb⟩ := hw.blk
    exact hh.ne hb (by decide)
  have HGb : Hid (∀ k cs t, Blk w k t cs → t ≠ 30 → k ≠ g) := by
    intro k cs t hk ht
    obtain ⟨ds, hb⟩ := hw.blk
    exact hk.ne hb ht
  clear h hlen he hh hw
  go_enter Tryz.func99, Tryz.ntmps99
  go_wp2_with fail
  go_loopw [8] (fun i wx => ∃ t : Nat, t ≤ len ∧ i = .int .i64 t ∧ Hid (WriAt wx g (took L.ws (e.take t))) ∧ Hid (Touch (fun k => k = g) w wx)) (fun i _ => len - (intOf i).toNat)
  case atStart => exact ⟨0, by omega, rfl, HW0, HT0⟩
  case round =>
    obtain ⟨t, hle, rfl, HW, HT⟩ := hrel
    clear HW0 HT0
    by_cases hlt : t < len
    · obtain ⟨x, hx⟩ := get_of_lt (l := e) (n := t) (by rw [HL.out]; exact hlt)
      have En : Ents wr a e := H.out.keep (fun k cs hk => hk.touch HT.out (HGb.out k cs 5 hk (by decide))) (fun k cs hk => hk.touch HT.out (HGb.out k cs 115 hk (by decide)))
      obtain ⟨bb, off, p, c, rfl, hc, hd, hcl, hb⟩ := En.en t x hx
      have hx' := HE.out x (mem_of_get hx)
      have h0 : (0 : Int) ≤ (t : Int) := by omega
      have h1 : (t : Int) < (len : Int) := by omega
      rw [hx'.2] at hd
      have HX := Lib.hid hx
      have HX' := Lib.hid hx'
      have HB := Lib.hid hb
      clear En hx hb hcl hx'
      obtain ⟨k, bs⟩ := x
      simp only at hc hd
      have T1 : Old wr (wr.alloc (.cells #[.int .i64 (k : Int), .slice p 96 c] 115)) := (Touch.refl _ _).alloc _
      have HT1 := Lib.hid (HT.out.trans (Touch.of_old T1))
      have HW1 := Lib.hid (HW.out.old T1)
      have HB1 := Lib.hid (HB.out.old T1)
      have K2 : Hid (Blk _ _ _ _) := Blk.new wr 115 [.int .i64 (k : Int), .slice p 96 c]
      clear T1 HW HT HB
      go_wp2_with fail
      generalize wr.alloc (.cells #[.int .i64 (k : Int), .slice p 96 c] 115) = wa at *
      generalize wr.heap.size = gx at *
      have HD : Hid (Old wa wa.drew) := (Touch.refl _ _).drew
      have HTd := Lib.hid (HT1.out.trans (Touch.of_old HD.out))
      have HWd := Lib.hid (HW1.out.old HD.out)
      have HBd := Lib.hid (HB1.out.old HD.out)
      have HKd := Lib.hid (K2.out.touch HD.out (fun q => q))
      have Hhd := Lib.hid (Hh.out.touch HTd.out HGl.out)
      obtain ⟨gp, op, rfl, _⟩ := HBd.out.has.cell 0 (by have : bs.length = 96 := HX'.out.2; omega)
      have HC := Lib.hid (clone_any ⟨gp, op, none⟩ bs 96 c wa.drew HBd.out.has HX'.out.2 (by omega))
      have hS : Hid (wa.drew.cell? ⟨l, 5, none⟩ = some (.slice (some ⟨g, 0, none⟩) L.ws.length L.ws.length) ∧ wa.drew.cell? ⟨gx, 0, none⟩ = some (.int .i64 (k : Int)) ∧ wa.drew.cell? ⟨gx, 1, none⟩ = some (.slice (some ⟨gp, op, none⟩) 96 c)) := ⟨Hhd.out.cell 5, HKd.out.cell 0, HKd.out.cell 1⟩
      have k0 : (0 : Int) ≤ (k : Int) := by omega
      have k1 : (k : Int) < (L.ws.length : Int) := by have : k < L.ws.length := HX'.out.1; omega
      clear HT1 HW1 HB1 K2
      go_region_held3 (fun w' => w'.cell? ⟨l, 5, none⟩ = some (.slice (some ⟨g, 0, none⟩) L.ws.length L.ws.length) ∧ w'.cell? ⟨gx, 0, none⟩ = some (.int .i64 (k : Int)) ∧ w'.cell? ⟨gx, 1, none⟩ = some (.slice (some ⟨gp, op, none⟩) 96 c)) (first | exact hS.out | exact hS2.out | exact hS3.out _)
        (first | (go_at_call 53; refine HC.out.mono ?_; rintro x w2 ⟨g2, c2, rfl, hg2, G2, O2⟩
                  have HW2 := Lib.hid (HWd.out.old O2)
                  have HT2 := Lib.hid (HTd.out.trans (Touch.of_old O2))
                  have HG2 := Lib.hid G2
                  have hS2 := Lib.hid (And.intro ((Hhd.out.touch O2 (fun q => q)).cell 5) (And.intro ((HKd.out.touch O2 (fun q => q)).cell 0) ((HKd.out.touch O2 (fun q => q)).cell 1)))
                  have hgx : gx ≠ g := by
                    obtain ⟨ds, hb⟩ := HWd.out.blk
                    exact HKd.out.ne hb (by decide)
                  have hS3 := Lib.hid (fun v => And.intro (((Hhd.out.touch O2 (fun q => q)).touch (Touch.one ⟨g, k, none⟩ v) HGl.out).cell 5) (And.intro (((HKd.out.touch O2 (fun q => q)).touch (Touch.one ⟨g, k, none⟩ v) hgx).cell 0) (((HKd.out.touch O2 (fun q => q)).touch (Touch.one ⟨g, k, none⟩ v) hgx).cell 1)))
                  clear hgx
                  obtain ⟨z, hz, hfz⟩ := HW2.out.cell (i := k) (by rw [took_length]; exact HX'.out.1)
                  clear G2 O2 hg2))
      all_goals
        rename_i hHeld
        clear hHeld
        go_wp2_with fail
        refine ⟨⟨t + 1, by omega, by go_num, ?_, HT2.out.setCell (.inl rfl) _⟩, by simp [intOf]; omega⟩
        have := HW2.out.set (i := k) (v := .slice (some ⟨g2, 0, none⟩) 96 c2) (x := some bs) (by rw [took_length]; exact HX'.out.1) ⟨g2, 0, c2, rfl, ⟨HG2.out.byte, HX'.out.2⟩, HG2.out.own.byt⟩
        rw [take_get HX.out, took_snoc]
        exact this
    · obtain rfl : t = len := by omega
      go_wp2_with fail
      go_end0
      refine ⟨rfl, ?_, HT.out⟩
      have := HW.out
      rw [List.take_of_length_le (by rw [HL.out]; exact Nat.le_refl _)] at this
      exact this
end Go.Proofs.YtjajenkagcdhlaaGreat
/- A ledger and its drum; the contracts of its small methods, of begin and Found. -/
namespace Go.Proofs.YtjajenkagcdhlaaGreat
open Go.RowKit
set_option maxRecDepth 100000

theorem Next.trans {w0 : Fr} {w w1 w2 : World} {d : Nat} {D1 D2 : DS} (h : Next w0 d D1 w w1) (k : Next w0 d D2 w1 w2) : Next w0 d D2 w w2 := ⟨k.1, h.2.1.trans k.2.1, Nat.le_trans h.2.2 k.2.2⟩
theorem St.same {w0 : Fr} {w : World} {d : Nat} {b : Bl} {D : DS} (h : St w0 d b D w) : Next w0 d D w w := ⟨⟨b, h⟩, Kept.refl w, Nat.le_refl _⟩
theorem Next.ahead {w0 : Fr} {w w1 w2 : World} {d : Nat} {D : DS} (o : Old w w1) (k : Next w0 d D w1 w2) : Next w0 d D w w2 := ⟨k.1, (Kept.of_old o).trans k.2.1, Nat.le_trans o.size k.2.2⟩

theorem lay_byt {w0 : Fr} {w : World} {d : Nat} {b : Bl} {D : DS} (h : St w0 d b D w) (ht : D.turns ≤ 99999) (k : Nat) (p : Option Addr) (xs : List Nat) (hk : k < D.T.length) (hx : xs.length = 96) (K : Byt w p xs) (cap : Nat) :
    Calls Tryz.prog 29 #[.pointer (some ⟨d, 0, none⟩), .int .i64 k, .slice p 96 cap] w fun e w' => e = .returned (.int .i64 (D.step (.lay k xs)).bad) ∧ Next w0 d (D.step (.lay k xs)) w w' :=
  (lay_any d k b D w p xs cap h.dr ht hk K.has hx (fun g o e => by
    obtain ⟨cs, hb⟩ := K.blk g o e
    exact h.dr.not_foot hb (by unfold other; decide))).mono fun _ _ ⟨he, hd⟩ => ⟨by rw [← DS.err_step]; exact he, h.next hd⟩
theorem settle_turn {w0 : Fr} {w : World} {d : Nat} {b : Bl} {D : DS} (h : St w0 d b D w) (ht : D.turns ≤ 99999) :
    Calls Tryz.prog 30 #[.pointer (some ⟨d, 0, none⟩)] w fun e w' => e = .returned (.int .i64 (D.step .settle).bad) ∧ Next w0 d (D.step .settle) w w' :=
  (settle_st h ht).mono fun _ _ ⟨he, hd⟩ => ⟨by rw [← DS.err_step]; exact he, hd⟩

theorem bad_down {D : DS} (h : D.down = true) : D.bad = 4 := by unfold DS.bad; rw [h]; rfl
theorem bad_up {D : DS} (h : D.down = false) : D.bad = 0 := by unfold DS.bad; rw [h]; rfl
theorem cover_length (r l : Nat) : (cover r l).length = 96 := track_length (by rw [coverText_length]; omega)

set_option maxHeartbeats 1600000 in
theorem begin_any {w0 : Fr} {w : World} {d : Nat} {b : Bl} {D : DS} (h : St w0 d b D w) (ht : D.turns ≤ 99990) (r l : Nat) (hr : r ≤ 140737488355328) (hl : l ≤ 140737488355328) :
    Calls Tryz.prog 91 #[.pointer (some ⟨d, 0, none⟩), .int .i64 r, .int .i64 l] w fun e w' => e = .returned (.int .i64 (D.run (beginT r l)).bad) ∧ Next w0 d (D.run (beginT r l)) w w' := by
  have H := Lib.hid h
  have HT := Lib.hid ht
  have HF := Lib.hid h.dr.ok.few
  have h1t := DS.step_turns D .settle
  have h1l := DS.step_len D .settle
  have HR : Hid (D.run (beginT r l) = ((D.step .settle).step (.lay (r % 2) (cover r l))).step .settle) := rfl
  have e2 : (r : Int).tmod 2 = ((r % 2 : Nat) : Int) := by rw [Int.tmod_eq_emod_of_nonneg (by omega)]; omega
  have hr2 : r % 2 < 2 := by omega
  generalize D.run (beginT r l) = DD at *
  generalize r % 2 = r2 at *
  clear h ht
  go_enter Tryz.func91, Tryz.ntmps91
  go_wp2_with fail
  refine (settle_turn H.out (by have := HT.out; omega)).mono ?_
  rintro x w1 ⟨rfl, N1⟩
  have HN1 := Lib.hid N1
  have HT1 : Hid ((D.step .settle).turns ≤ 99991) := by show _ ≤ _; have := HT.out; omega
  have HF1 : Hid (10 ≤ (D.step .settle).T.length) := by show _ ≤ _; rw [h1l]; exact HF.out
  clear N1 h1t h1l H HT HF
  generalize D.step .settle = D1 at *
  cases hd1 : D1.down with
  | true =>
    have HE : Hid (DD = D1) := by show _ = _; rw [HR.out, DS.step_down hd1, DS.step_down hd1]
    have HB := Lib.hid (bad_down hd1)
    rw [HB.out]
    clear hd1 HR
    go_wp2_with fail
    go_ret
    refine ⟨?_, ?_⟩
    · rw [HE.out, HB.out]; rfl
    · rw [HE.out]; exact HN1.out
  | false =>
    rw [bad_up hd1]
    clear hd1
    have h2t := DS.step_turns D1 (.lay r2 (cover r l))
    go_wp2_with fail
    refine (layCover_any r l w1 hr hl).mono ?_
    rintro x w2 ⟨g2, rfl, hg2, O2, T2⟩
    obtain ⟨b1, S1⟩ := HN1.out.1
    have HS2 := Lib.hid (S1.step T2)
    have HN2 : Hid (Next w0 d D1 w w2) := ⟨⟨b1, HS2.out⟩, HN1.out.2.1.trans (Kept.of_old T2), Nat.le_trans HN1.out.2.2 T2.size⟩
    have HB2 := Lib.hid O2.byt
    clear O2 T2 S1 HN1 hg2
    go_wp2_with fail
    refine (lay_byt HS2.out (by have := HT1.out; omega) r2 _ (cover r l) (by have := HF1.out; omega) (cover_length r l) HB2.out 96).mono ?_
    rintro x w3 ⟨rfl, N3⟩
    have HN3 := Lib.hid (HN2.out.trans N3)
    have HT3 : Hid ((D1.step (.lay r2 (cover r l))).turns ≤ 99992) := by show _ ≤ _; have := HT1.out; omega
    clear N3 HB2 HS2 HN2 h2t
    generalize D1.step (.lay r2 (cover r l)) = D2 at *
    cases hd2 : D2.down with
    | true =>
      have HE : Hid (DD = D2) := by show _ = _; rw [HR.out, DS.step_down hd2]
      have HB := Lib.hid (bad_down hd2)
      rw [HB.out]
      clear hd2 HR
      go_wp2_with fail
      go_ret
      refine ⟨?_, ?_⟩
      · rw [HE.out, HB.out]; rfl
      · rw [HE.out]; exact HN3.out
    | false =>
      rw [bad_up hd2]
      clear hd2
      obtain ⟨b3, S3⟩ := HN3.out.1
      have HS3 := Lib.hid S3
      clear S3
      go_wp2_with fail
      refine (settle_turn HS3.out (by have := HT3.out; omega)).mono ?_
      rintro x w4 ⟨rfl, N4⟩
      rw [← HR.out] at N4 ⊢
      have HN4 := Lib.hid (HN3.out.trans N4)
      clear N4 HN3 HS3 HR
      go_wp2_with fail
      go_ret
      exact ⟨rfl, HN4.out⟩
end Go.Proofs.YtjajenkagcdhlaaGreat
/- The contracts of ledger.Found and of a ledger's small methods. -/
namespace Go.Proofs.YtjajenkagcdhlaaGreat
open Go.RowKit
set_option maxRecDepth 100000

theorem found_nil (l : Nat) (w : World) : Calls Tryz.prog 63 #[.pointer none, .int .i64 l] w fun e w' => e = .returned (.int .i64 1) ∧ w = w' := by
  go_enter Tryz.func63, Tryz.ntmps63
  go_wp2_with fail
  go_ret
  exact ⟨rfl, rfl⟩
theorem found_no {w0 : Fr} {w : World} {d : Nat} {b : Bl} {D : DS} (h : St w0 d b D w) (l : Nat) (hf : fits l D.T.length = false) : Calls Tryz.prog 63 #[.pointer (some ⟨d, 0, none⟩), .int .i64 l] w fun e w' => e = .returned (.int .i64 1) ∧ w = w' := by
  have HT := Lib.hid (tracks_any d b D _ w h.dr.at_)
  have HF := Lib.hid (fits_any l D.T.length w h.dr.ok.many)
  rw [hf] at HF
  clear h hf
  generalize D.T.length = n at *
  go_enter Tryz.func63, Tryz.ntmps63
  go_wp2_with fail
  refine HT.out.mono ?_
  rintro x w' ⟨rfl, rfl⟩
  go_wp2_with fail
  refine HF.out.mono ?_
  rintro x w' ⟨rfl, rfl⟩
  go_wp2_with fail
  go_ret
  exact ⟨rfl, rfl⟩

/-- The first k of the blank tracks are laid. -/
def blankT (k : Nat) : List Trn := (List.range k).map fun k => Trn.lay k (zeros 96)
theorem blankT_next (k : Nat) : blankT (k + 1) = blankT k ++ [.lay k (zeros 96)] := by simp [blankT, List.range_succ]
theorem blankT_length (k : Nat) : (blankT k).length = k := by simp [blankT]
theorem DS.run_snoc (D : DS) (ts : List Trn) (t : Trn) : D.run (ts ++ [t]) = (D.run ts).step t := by rw [DS.run_append]; rfl
theorem blankT_part {k n : Nat} (h : k ≤ n) : ∃ r, blankT n = blankT k ++ r := ⟨(List.range (n - k)).map (fun i => Trn.lay (k + i) (zeros 96)), by
  unfold blankT
  conv => lhs; rw [show n = k + (n - k) by omega, List.range_add, List.map_append]
  rw [List.map_map]
  rfl⟩

set_option maxHeartbeats 1600000 in
theorem found_any {w0 : Fr} {w : World} {d : Nat} {b : Bl} {D : DS} (h : St w0 d b D w) (ht : D.turns ≤ 90000) (l : Nat) (hf : fits l D.T.length = true) :
    Calls Tryz.prog 63 #[.pointer (some ⟨d, 0, none⟩), .int .i64 l] w fun e w' => e = .returned (.int .i64 (D.run (foundT l)).bad) ∧ Next w0 d (D.run (foundT l)) w w' := by
  have HT := Lib.hid (tracks_any d b D _ w h.dr.at_)
  have HF := Lib.hid (fits_any l D.T.length w h.dr.ok.many)
  have hll : l + 4 ≤ D.T.length := by unfold fits at hf; have := of_decide_eq_true hf; omega
  have hlm := h.dr.ok.many
  rw [hf] at HF
  have H := Lib.hid h
  have HTn := Lib.hid ht
  clear h hf ht
  have hmk : (Instr.makeSlice 30 (.int .i64 96) (.int .i64 96)).run Tryz.prog w = .ok (.slice (some ⟨w.heap.size, 0, none⟩) 96 96) (w.alloc (.cells (cells (zeros 96)).toArray 5)) := make_bytes 96 (by decide) w
  have T0 : Old w (w.alloc (.cells (cells (zeros 96)).toArray 5)) := (Touch.refl _ _).alloc _
  have HB0 : Hid (Byt (w.alloc (.cells (cells (zeros 96)).toArray 5)) (some ⟨w.heap.size, 0, none⟩) (zeros 96)) := (Own.new w (zeros 96) (zeros_byte 96)).byt
  have HN0 : Hid (Next w0 d (D.run (blankT 0)) w (w.alloc (.cells (cells (zeros 96)).toArray 5))) := (H.out.step T0).same.ahead T0
  have HDl : Hid (D.T.length = D.T.length) := rfl
  obtain ⟨n, hn⟩ : ∃ n, D.T.length = n := ⟨_, rfl⟩
  have HDn := Lib.hid hn
  rw [hn] at HT HF hll hlm
  clear T0 H hn HDl
  generalize w.alloc (.cells (cells (zeros 96)).toArray 5) = wa at *
  have hw1 : IntKind.i64.wrap (2 + (l : Int)) = 2 + (l : Int) := wrap_fits ⟨by omega, by omega⟩
  go_enter Tryz.func63, Tryz.ntmps63
  go_wp2_with fail
  refine HT.out.mono ?_
  rintro x w' ⟨rfl, rfl⟩
  go_wp2_with fail
  refine HF.out.mono ?_
  rintro x w' ⟨rfl, rfl⟩
  clear HT HF
  go_wp2_with fail
  clear hmk
  go_loopw [20] (fun i wx => ∃ k : Nat, k ≤ 2 + l ∧ i = .int .i64 k ∧ Hid (Byt wx (some ⟨w.heap.size, 0, none⟩) (zeros 96)) ∧ Hid (Next w0 d (D.run (blankT k)) w wx)) (fun i _ => 2 + l - (intOf i).toNat)
  case atStart => exact ⟨0, by omega, rfl, HB0, HN0⟩
  case round =>
    obtain ⟨k, hk, rfl, HB, HN⟩ := hrel
    clear HB0 HN0
    have htk := DS.run_turns D (blankT k)
    have hlk := DS.run_len D (blankT k)
    rw [blankT_length] at htk
    by_cases hlt : k < 2 + l
    · have i1 : (k : Int) < 2 + (l : Int) := by omega
      obtain ⟨b1, S1⟩ := HN.out.1
      have HS := Lib.hid S1
      have HTk : Hid ((D.run (blankT k)).turns ≤ 99999) := by show _ ≤ _; have := HTn.out; omega
      have HLk : Hid (k < (D.run (blankT k)).T.length) := by show _ < _; rw [hlk, HDn.out]; omega
      have HR : Hid (D.run (blankT (k + 1)) = (D.run (blankT k)).step (.lay k (zeros 96))) := by show _ = _; rw [blankT_next, DS.run_snoc]
      have HP : Hid (D.run (foundT l) = (D.run (blankT (k + 1))).run ((blankT (2 + l)).drop (k + 1) ++ beginT 1 l)) := by
        show _ = _
        obtain ⟨r, hr⟩ := blankT_part (show k + 1 ≤ 2 + l by omega)
        unfold foundT
        rw [show (List.range (2 + l)).map (fun k => Trn.lay k (zeros 96)) = blankT (2 + l) from rfl, hr, List.drop_left' (blankT_length _), List.append_assoc, DS.run_append]
      clear S1 htk hlk
      go_wp2_with fail
      refine (lay_byt HS.out HTk.out k _ (zeros 96) HLk.out (zeros_length 96) HB.out 96).mono ?_
      rintro x w1 ⟨rfl, N1⟩
      rw [← HR.out] at N1 ⊢
      have HN1 := Lib.hid (HN.out.trans N1)
      have HB1 := Lib.hid (HB.out.kept N1.2.1)
      clear N1 HN HB HS HR
      obtain ⟨D1, hD1⟩ : ∃ D1, D.run (blankT (k + 1)) = D1 := ⟨_, rfl⟩
      have HD1 := Lib.hid hD1
      rw [hD1] at HN1 HP ⊢
      clear hD1
      cases hd : D1.down with
      | true =>
        rw [bad_down hd]
        have HE : Hid (D.run (foundT l) = D1) := by show _ = _; rw [HP.out, DS.run_down hd]
        have HB := Lib.hid (bad_down hd)
        clear hd HP
        go_wp2_with fail
        go_ret
        refine ⟨?_, ?_⟩
        · rw [HE.out, HB.out]; rfl
        · rw [HE.out]; exact HN1.out
      | false =>
        rw [bad_up hd]
        clear hd HP
        go_wp2_with fail
        exact ⟨⟨k + 1, by omega, by go_num, HB1, by rw [HD1.out]; exact HN1⟩, by simp [intOf]; omega⟩
    · obtain rfl : k = 2 + l := by omega
      have i1 : ¬ ((2 + l : Nat) : Int) < 2 + (l : Int) := by omega
      obtain ⟨b1, S1⟩ := HN.out.1
      have HS := Lib.hid S1
      have HTk : Hid ((D.run (blankT (2 + l))).turns ≤ 99990) := by show _ ≤ _; have := HTn.out; omega
      have HR : Hid (D.run (foundT l) = (D.run (blankT (2 + l))).run (beginT 1 l)) := by show _ = _; unfold foundT; rw [DS.run_append]; rfl
      clear S1 htk hlk
      go_wp2_with fail
      refine (begin_any HS.out HTk.out 1 l (by omega) (by omega)).mono ?_
      rintro x w1 ⟨rfl, N1⟩
      rw [← HR.out] at N1 ⊢
      have HN1 := Lib.hid (HN.out.trans N1)
      clear N1 HN HS HR
      go_wp2_with fail
      go_ret
      exact ⟨rfl, HN1.out⟩

section
variable {w : World} {l d g : Nat} {L : LS}
theorem home_any (h : Blk w l 129 (lhead d g L)) : Calls Tryz.prog 48 #[.pointer (some ⟨l, 0, none⟩)] w fun e w' => e = .returned (.int .i64 (L.ws.length : Int)) ∧ w = w' := by
  have hc : w.cell? ⟨l, 5, none⟩ = some (.slice (some ⟨g, 0, none⟩) L.ws.length L.ws.length) := h.cell 5
  generalize L.ws.length = n at *
  clear h
  go_enter Tryz.func48, Tryz.ntmps48
  go_wp2
  go_ret
  exact ⟨rfl, rfl⟩
theorem blank_any (h : Blk w l 129 (lhead d g L)) (hl : L.laid ≤ L.leaves) (hm : L.leaves ≤ 5000) : Calls Tryz.prog 97 #[.pointer (some ⟨l, 0, none⟩)] w fun e w' => e = .returned (.int .i64 ((L.leaves - L.laid : Nat) : Int)) ∧ Old w w' := by
  have hc1 : w.cell? ⟨l, 1, none⟩ = some (.int .i64 (L.leaves : Int)) := h.cell 1
  have hc4 : w.cell? ⟨l, 4, none⟩ = some (.int .i64 (L.laid : Int)) := h.cell 4
  generalize L.leaves = m at *
  generalize L.laid = n at *
  have hw : IntKind.i64.wrap ((m : Int) - (n : Int)) = (m : Int) - (n : Int) := wrap_fits ⟨by omega, by omega⟩
  have hd1 : w.drew.cell? ⟨l, 1, none⟩ = some (.int .i64 (m : Int)) := hc1
  have hd4 : w.drew.cell? ⟨l, 4, none⟩ = some (.int .i64 (n : Int)) := hc4
  clear h
  go_enter Tryz.func97, Tryz.ntmps97
  go_wp2_with fail
  go_region_held3 (fun w' => w'.cell? ⟨l, 1, none⟩ = some (.int .i64 (m : Int)) ∧ w'.cell? ⟨l, 4, none⟩ = some (.int .i64 (n : Int))) (first | exact ⟨hd1, hd4⟩) (fail)
  all_goals
    rename_i hHeld
    clear hHeld
    go_wp2_with fail
    go_ret
    exact ⟨by congr 1; show Value.int _ _ = _; congr 1; omega, (Touch.refl _ _).drew⟩
theorem lost_any (h : Blk w l 129 (lhead d g L)) : Calls Tryz.prog 52 #[.pointer (some ⟨l, 0, none⟩)] w fun e w' => e = .returned (.bool L.lost) ∧ w = w' := by
  have hc : w.cell? ⟨l, 6, none⟩ = some (.bool L.lost) := h.cell 6
  generalize L.lost = n at *
  clear h
  go_enter Tryz.func52, Tryz.ntmps52
  go_wp2
  go_ret
  exact ⟨rfl, rfl⟩
theorem homeTrack_any (h : Blk w l 129 (lhead d g L)) (k : Nat) (hm : L.leaves ≤ 5000) (hk : k ≤ 5000) : Calls Tryz.prog 79 #[.pointer (some ⟨l, 0, none⟩), .int .i64 k] w fun e w' => e = .returned (.int .i64 ((2 + L.leaves + k : Nat) : Int)) ∧ w = w' := by
  have hc1 : w.cell? ⟨l, 1, none⟩ = some (.int .i64 (L.leaves : Int)) := h.cell 1
  generalize L.leaves = m at *
  clear h
  go_enter Tryz.func79, Tryz.ntmps79
  go_wp2
  go_ret
  exact ⟨by simp, rfl⟩
theorem heed_down (h : Blk w l 129 (lhead d g L)) : Calls Tryz.prog 74 #[.pointer (some ⟨l, 0, none⟩), .int .i64 4] w fun e w' => e = .returned (.int .i64 4) ∧ Blk w' l 129 (lhead d g { L with lost := true }) ∧ Touch (fun k => k = l) w w' := by
  have hc : w.cell? ⟨l, 6, none⟩ = some (.bool L.lost) := h.cell 6
  have hf := h.frozen 6
  have HS : Hid (Blk (w.setCell ⟨l, 6, none⟩ (.bool true)) l 129 (lhead d g { L with lost := true })) := h.set 6 (.bool true)
  generalize L.lost = n at *
  clear h
  go_enter Tryz.func74, Tryz.ntmps74
  go_wp2
  go_ret
  exact ⟨rfl, HS.out, Touch.one ⟨l, 6, none⟩ _⟩
theorem heed_up (n : Int) (hn : n ≠ 4) : Calls Tryz.prog 74 #[.pointer (some ⟨l, 0, none⟩), .int .i64 n] w fun e w' => e = .returned (.int .i64 n) ∧ w = w' := by
  go_enter Tryz.func74, Tryz.ntmps74
  go_wp2
  go_ret
  exact ⟨rfl, rfl⟩
end
end Go.Proofs.YtjajenkagcdhlaaGreat
