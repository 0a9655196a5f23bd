/- Contracts of lariatlaw5's found and known. -/
import Derived.Test.YtmingbgohdhajaaGreatLaw
namespace Go.Proofs.YtmingbgohdhajaaGreat
open Go.RowKit
set_option maxRecDepth 100000

/-- A drum that is founded. -/
def newD (n l : Nat) : DS := (DS.new n).run (foundT l)
def newL (n l : Nat) : LS := openL (newD n l) 1
structure Founds (n l : Nat) : Prop where
  few : 10 ≤ n
  many : n ≤ 4096
  fits : fits l n = true
  bad : (newD n l).bad = 0
  cover : coverK (newD n l) = some 1
  opens : openE (newD n l) = 0

set_option maxHeartbeats 1600000 in
theorem foundL_any {w0 w : World} (o : Old w0 w) (n l : Nat) (h : Founds n l) : Calls Tryz.prog 6 #[.int .i64 n, .int .i64 l] w fun x w' => ∃ lp d g b, x = .returned (.tuple #[.pointer (some ⟨lp, 0, none⟩), .pointer (some ⟨d, 0, none⟩)]) ∧ LAt w0 lp d b g (newL n l) w' ∧ KeptL w w' := by
  have HN := Lib.hid (new_st (w0 := w0) (w := w) n h.few h.many o)
  have hlt : (DS.new n).T.length = n := by simp [DS.new]
  have Hlt := Lib.hid hlt
  have H := Lib.hid h
  have ht1 := DS.run_turns (DS.new n) (foundT l)
  have hl4 : l ≤ 4096 := by have := h.fits; unfold fits at this; have := of_decide_eq_true this; have := h.many; omega
  have hfl : (foundT l).length = l + 5 := by simp [foundT, beginT]; omega
  rw [hfl, show (DS.new n).turns = 0 from rfl] at ht1
  have HT : Hid ((newD n l).turns ≤ 5000) := by show ((DS.new n).run (foundT l)).turns ≤ _; omega
  clear h hlt ht1 hfl
  go_enter Tryz.func6, Tryz.ntmps6
  go_wp2_with fail
  refine HN.out.mono ?_
  rintro x w1 ⟨d, b1, rfl, S1, O1⟩
  have HF := Lib.hid (found_any S1 (by show 0 ≤ _; omega) l (by rw [Hlt.out]; exact H.out.fits))
  have HK1 := Lib.hid (KeptL.of_old O1)
  clear S1 O1 HN
  go_wp2_with fail
  refine HF.out.mono ?_
  rintro x w2 ⟨rfl, N2⟩
  rw [show (DS.new n).run (foundT l) = newD n l from rfl] at N2 ⊢
  rw [H.out.bad]
  obtain ⟨b2, S2⟩ := N2.1
  have HO2 := Lib.hid (open_any S2 (by have := HT.out; omega))
  have HK2 := Lib.hid (HK1.out.trans (KeptL.of_kept N2.2.1))
  clear N2 S2 HF HK1
  go_wp2_with fail
  refine HO2.out.mono ?_
  rintro x w3 ⟨K3, _, ⟨b3, _, he, _⟩ | ⟨k, lp, g, b3, hk, _, _, rfl, A3⟩⟩
  · exact absurd H.out.opens he
  · obtain rfl : k = 1 := by rw [H.out.cover] at hk; injection hk with hk; exact hk.symm
    have HA := Lib.hid A3
    have HK3 := Lib.hid (HK2.out.trans K3)
    clear A3 K3 HK2 HO2 hk
    go_wp2_with fail
    go_ret2
    exact ⟨lp, d, g, b3, rfl, HA.out, HK3.out⟩

def kD : DS := newD 20 6
theorem kF : Founds 20 6 := ⟨by decide, by decide, by kernel_rfl, by kernel_rfl, by kernel_rfl, by kernel_rfl⟩
def kL : LS := newL 20 6
def kE : List Ent := [(4, pageOf 9)]
theorem kL_write : kL.writeE kE = 0 := by kernel_rfl
def kL2 : LS := kL.write kE
theorem kL2_settle : kL2.settleE = 0 := by kernel_rfl
def kL3 : LS := kL2.settle
def kD4 : DS := kL3.D.fall (partOf [] (-1) 0)
theorem kD4_cover : coverK kD4 = some 0 := by kernel_rfl
theorem kD4_open : openE kD4 = 0 := by kernel_rfl
def kL5 : LS := openL kD4 0
theorem kL5_at : kL5.homeAt 4 = pageOf 9 := by kernel_rfl
theorem kL5_home : kL5.ws.length = 12 := by kernel_rfl
theorem kL5_blank : kL5.leaves - kL5.laid = 6 := by kernel_rfl
theorem kL5_lost : kL5.lost = false := by kernel_rfl
theorem kL5_down : kL5.D.down = false := by kernel_rfl
def okB (L : LS) : Bool := decide (5 ≤ L.leaves ∧ 2 ≤ L.ws.length ∧ L.D.T.length = 2 + L.leaves + L.ws.length ∧ L.laid ≤ L.leaves ∧ L.round ≤ 1000000000000 ∧ L.posts ≤ 1000000)
theorem okB_ok {L : LS} (h : okB L = true) : L.Ok := by
  obtain ⟨h1, h2, h3, h4, h5, h6⟩ := of_decide_eq_true h
  exact ⟨h1, h2, h3, h4, h5, h6⟩
theorem kL_ok : okB kL = true := by kernel_rfl
theorem kL5_ok : okB kL5 = true := by kernel_rfl
theorem kL_nums : kL.round = 2 ∧ kL.posts = 0 ∧ kL.D.turns = 14 := by
  refine ⟨?_, ?_, ?_⟩ <;> kernel_rfl
theorem kL2_turns : kL2.D.turns = 16 := by kernel_rfl
theorem kL3_turns : kL3.D.turns = 17 := by kernel_rfl
theorem kD4_turns : kD4.turns = 17 := by kernel_rfl

/-- One entry, in a row of its own. -/
theorem Ents.one {w : World} {g k c : Nat} {p : Option Addr} {xs : List Nat} {n : Nat} (hn : xs.length = n) (hb : Blk w g 68 [.int .i64 (k : Int), .slice p n c]) (hc : n ≤ c) (B : Byt w p xs) : Ents w (some ⟨g, 0, none⟩) [(k, xs)] :=
  ⟨fun i x hx => by
    match i, hx with
    | 0, hx =>
      injection hx with hx
      subst hx
      exact ⟨g, 0, p, c, rfl, hb.cell 0, by rw [hn]; exact hb.cell 1, by rw [hn]; exact hc, B⟩
    | i + 1, hx => simp at hx, fun g' o e => by cases e; exact ⟨_, hb⟩⟩
theorem Blk.byt {w : World} {g : Nat} {xs : List Nat} (ht : Trk xs) (h : Blk w g 5 (cells xs)) : Byt w (some ⟨g, 0, none⟩) xs := (Own.of_blk ht.byte h).byt

set_option maxHeartbeats 3200000 in
theorem known_any (w : World) : Calls Tryz.prog 4 #[] w fun x w' => x = .returned (.bool true) ∧ Old w w' := by
  go_enter Tryz.func4, Tryz.ntmps4
  go_wp2_with fail
  refine (foundL_any (w0 := w) (Touch.refl _ w) 20 6 kF).mono ?_
  rintro x w1 ⟨lp, d, g, b1, rfl, A1, _⟩
  have HA1 : Hid (LAt w lp d b1 g kL w1) := A1
  clear A1
  go_wp2_with fail
  refine (leaves_any 1 _ (by omega)).mono ?_
  rintro x w' ⟨rfl, rfl⟩
  rw [show leavesOf 1 = 2 from rfl]
  go_wp2_with fail
  refine (leaves_any 6 _ (by omega)).mono ?_
  rintro x w' ⟨rfl, rfl⟩
  rw [show leavesOf 6 = 10 from rfl]
  go_wp2_with fail
  refine (page_any 9 w1).mono ?_
  rintro x w2 ⟨rfl, K2, O2⟩
  have HA2 := Lib.hid (HA1.out.step O2)
  have HK2 := Lib.hid K2
  clear K2 O2 HA1
  generalize w1.heap.size = g1 at *
  go_wp2_with fail
  have T3 : Old w2 (w2.alloc (.cells #[.int .i64 4, .slice (some ⟨g1, 0, none⟩) 96 96] 68)) := (Touch.refl _ _).alloc _
  have HA3 := Lib.hid (HA2.out.step T3)
  have HE3 := Lib.hid (Ents.one (k := 4) (pageOf_trk 9).len (Blk.new w2 68 [.int .i64 4, .slice (some ⟨g1, 0, none⟩) 96 96]) (Nat.le_refl 96) ((HK2.out.byt (pageOf_trk 9)).old T3))
  clear T3 HA2 HK2
  generalize w2.alloc (.cells #[.int .i64 4, .slice (some ⟨g1, 0, none⟩) 96 96] 68) = w3 at *
  generalize w2.heap.size = g2 at *
  refine (write_any HA3.out (okB_ok kL_ok) (by rw [kL_nums.1]; decide) (by rw [kL_nums.2.1]; decide) (by rw [kL_nums.2.2]; decide) _ kE 1 1 HE3.out rfl (by omega)).mono ?_
  rintro x w4 ⟨rfl, N4⟩
  rw [kL_write]
  obtain ⟨b4, A4⟩ := N4.1
  have HA4 : Hid (LAt w lp d b4 g kL2 w4) := A4
  clear N4 A4 HA3 HE3
  go_wp2_with fail
  refine (lsettle_any HA4.out (by rw [kL2_turns]; decide)).mono ?_
  rintro x w5 ⟨rfl, N5⟩
  rw [kL2_settle]
  obtain ⟨b5, A5⟩ := N5.1
  have HS5 : Hid (St w d b5 kL3.D w5) := A5.st
  clear N5 A5 HA4
  go_wp2_with fail
  refine (fall_st HS5.out (by rw [kL3_turns]; decide) none [] 0 0 (-1) 0 (HasI.nil _ _) rfl (by omega)).mono ?_
  rintro x w6 ⟨rfl, ⟨b6, S6⟩, _, _⟩
  have HO6 : Hid (Calls Tryz.prog 19 _ _ _) := open_any (D := kD4) S6 (by rw [kD4_turns]; decide)
  clear S6 HS5
  go_wp2_with fail
  refine HO6.out.mono ?_
  rintro x w7 ⟨K7, _, ⟨b7, _, he, _⟩ | ⟨k, mp, g7, b7, hk, _, _, rfl, A7⟩⟩
  · exact absurd kD4_open he
  obtain rfl : k = 0 := by rw [kD4_cover] at hk; injection hk with hk; exact hk.symm
  have HA7 : Hid (LAt w mp d b7 g7 kL5 w7) := A7
  clear A7 K7 hk HO6
  go_wp2_with fail
  refine (look_home HA7.out (okB_ok kL5_ok) kL5_lost kL5_down 4 (by rw [kL5_home]; decide)).mono ?_
  rintro x w8 ⟨h8, o8, c8, rfl, hl8, B8, O8⟩
  rw [kL5_at] at B8 hl8
  have HA8 := Lib.hid (HA7.out.step O8)
  have HD : Hid (Old w8 w8.drew) := (Touch.refl _ _).drew
  have HAd := Lib.hid (HA8.out.step HD.out)
  have HBd := Lib.hid (B8.old HD.out)
  have hS : Hid ((convert 61 9 (.slice (some ⟨h8, o8, none⟩) 96 c8)).run Tryz.prog w8.drew = .ok (.string (strOf (pageOf 9))) w8.drew) := str_any w8.drew _ _ 96 c8 HBd.out.has hl8
  have HPg := Lib.hid (page_any 9 w8.drew)
  have Hl8 := Lib.hid hl8
  clear O8 B8 HA7 hl8
  go_wp2_with fail
  generalize hsx : strOf (pageOf 9) = sx at *
  have Hsx := Lib.hid hsx
  clear hsx
  have hs8 : (convert 61 9 (.slice (some ⟨h8, o8, none⟩) 96 c8)).run Tryz.prog w8.drew = .ok (.string sx) w8.drew := hS.out
  go_cut [0] (fun v wx => v = .bool true ∧ Hid (Old w wx))
  case first =>
    go_region_with (first
      | (go_at_call 37; refine HPg.out.mono ?_; rintro x w9 ⟨rfl, K9, O9⟩
         have HA9 := Lib.hid (HAd.out.step O9)
         have hs9 : (convert 61 9 (.slice (some ⟨h8, o8, none⟩) 96 c8)).run Tryz.prog w9 = .ok (.string sx) w9 := by rw [← Hsx.out]; exact str_any w9 _ _ 96 c8 (HBd.out.old O9).has Hl8.out
         have hs9' : (convert 61 9 (.slice (some ⟨w8.heap.size, 0, none⟩) 96 96)).run Tryz.prog w9 = .ok (.string sx) w9 := by rw [← Hsx.out]; exact str_any w9 _ _ 96 96 (K9.byt (pageOf_trk 9)).has (pageOf_trk 9).len
         clear K9 O9)
      | (go_at_call 29; refine (home_any HA9.out.head).mono ?_; rintro x w' ⟨rfl, rfl⟩; rw [kL5_home])
      | (go_at_call 27; refine (blank_any HA9.out.head (okB_ok kL5_ok).laid (by have := (okB_ok kL5_ok).len; have := HA9.out.st.dr.ok.many; omega)).mono ?_; rintro x w10 ⟨rfl, O10⟩; rw [kL5_blank]
         have HO := Lib.hid ((HA9.out.step O10).st.old)
         clear O10))
    all_goals (go_wp2_with fail; go_meet; exact ⟨rfl, HO⟩)
  case rest =>
    obtain ⟨rfl, HO⟩ := hcut
    go_wp2_with fail
    go_ret
    exact ⟨rfl, HO.out⟩
end Go.Proofs.YtmingbgohdhajaaGreat
