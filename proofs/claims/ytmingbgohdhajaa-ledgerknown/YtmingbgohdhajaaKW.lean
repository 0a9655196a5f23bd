/- The walk of lariatlaw5.LedgerKnown. -/
import Derived.Test.YtmingbgohdhajaaEntRow
namespace Go.Proofs.Ytmingbgohdhajaa
open Go.RowKit
set_option maxRecDepth 100000

/-- The first k entries. -/
def fives (k : Nat) : List Ent := (List.range k).map fun i => (i, pageOf (i : Int))
theorem fives_next (k : Nat) : fives (k + 1) = fives k ++ [(k, pageOf (k : Int))] := by simp [fives, List.range_succ]
theorem fives_length (k : Nat) : (fives k).length = k := by simp [fives]
theorem raw_cover : coverK (DS.new 20) = none := by kernel_rfl
theorem e_none : kL.writeE [] = 1 ∧ (kL.write []).round = kL.round := by constructor <;> kernel_rfl
theorem write_arg {L : LS} {e : List Ent} (h : ¬ Goes e L.ws.length) : L.write e = L := by unfold LS.write; rw [if_neg h]
theorem kL_home : kL.ws.length = 12 := by kernel_rfl
theorem g_none : ¬ Goes [] kL.ws.length := by rw [kL_home]; decide
theorem g_past : ¬ Goes [(12, pageOf 1)] kL.ws.length := by rw [kL_home]; intro h; have := (h.1 _ (List.mem_singleton.2 rfl)).1; simp at this
theorem g_twice : ¬ Goes [(1, pageOf 1), (1, pageOf 2)] kL.ws.length := by intro h; have := h.2.1; simp at this
theorem g_short : ¬ Goes [(1, [])] kL.ws.length := by intro h; have := (h.1 _ (List.mem_singleton.2 rfl)).2; simp at this
theorem e_arg {L : LS} {e : List Ent} (h : ¬ Goes e L.ws.length) : L.writeE e = 1 := by unfold LS.writeE; rw [if_neg h]
theorem e_big : kL.writeE (fives 5) = 5 := by kernel_rfl
theorem s_big : kL.write (fives 5) = kL := by
  unfold LS.write
  rw [if_neg (show ¬ kL.lost = true by rw [show kL.lost = false by kernel_rfl]; simp), if_pos (show kL.leaves < leavesOf (fives 5).length by rw [show kL.leaves = 6 by kernel_rfl, fives_length]; decide)]
  split <;> rfl
theorem e_one : kL.writeE (fives 1) = 0 := by kernel_rfl
def k1 : LS := kL.write (fives 1)
theorem k1_blank : k1.leaves - k1.laid = 4 := by kernel_rfl
theorem k1_ok : okB k1 = true := by kernel_rfl
theorem k1_turns : k1.D.turns = 16 := by kernel_rfl
theorem e_two : k1.balanceE = 0 := by kernel_rfl
def k2 : LS := k1.balance
theorem k2_blank : k2.leaves - k2.laid = 6 := by kernel_rfl
theorem k2_ok : okB k2 = true := by kernel_rfl
def k3 : LS := { k2 with D := k2.D.brk (breakOf 1) }
theorem k3_ok : okB k3 = true := by kernel_rfl
theorem k3_nums : k3.round = 3 ∧ k3.posts = 0 ∧ k3.D.turns = 21 := by
  refine ⟨?_, ?_, ?_⟩ <;> kernel_rfl
theorem e_down : k3.writeE (fives 1) = 4 := by kernel_rfl
def k4 : LS := k3.write (fives 1)
theorem k4_turns : k4.D.turns = 22 := by kernel_rfl
def k5 : LS := { k4 with D := k4.D.fall (partOf [] (-1) 0) }
theorem k5_home : k5.ws.length = 12 := by kernel_rfl
theorem k5_lost : k5.lost = true := by kernel_rfl
theorem k5_turns : k5.D.turns = 22 := by kernel_rfl
theorem k5_ok : okB k5 = true := by kernel_rfl
theorem k5_settle : k5.settleE = 4 ∧ k5.settle = k5 := by
  constructor
  · unfold LS.settleE; rw [k5_lost]; rfl
  · unfold LS.settle; rw [k5_lost]; rfl
theorem k5_balance : k5.balanceE = 4 ∧ k5.balance = k5 := by
  constructor
  · unfold LS.balanceE; rw [k5_lost]; rfl
  · unfold LS.balance; rw [k5_lost]; rfl
theorem new_down (n : Nat) : (DS.new n).down = false := rfl
theorem new_len (n : Nat) : (DS.new n).T.length = n := by simp [DS.new]

set_option maxHeartbeats 12800000 in
theorem known_law (w : World) : Calls Try.prog 3 #[] w fun e w' => e = .returned (.bool true) ∧ Below w.heap.size w w' := by
  go_enter Try.func3, Try.ntmps3
  go_wp2_with fail
  refine (known_any w).mono ?_
  rintro x w1 ⟨rfl, O1⟩
  have HO1 := Lib.hid O1
  clear O1
  go_wp2_with fail
  refine (foundL_any HO1.out 20 6 kF).mono ?_
  rintro x w2 ⟨l, d, g, b2, rfl, A2, _⟩
  have HA2 : Hid (LAt w l d b2 g kL w2) := A2
  clear A2 HO1
  go_wp2_with fail
  refine (new_st (w0 := w) 20 (by omega) (by omega) HA2.out.st.old).mono ?_
  rintro x w3 ⟨r, br, rfl, S3, O3⟩
  have HR3 := Lib.hid S3
  have HA3 := Lib.hid (HA2.out.step O3)
  clear S3 O3 HA2
  go_wp2_with fail
  refine (known_any w3).mono ?_
  rintro x w4 ⟨rfl, O4⟩
  have HR4 := Lib.hid (HR3.out.step O4)
  have HA4 := Lib.hid (HA3.out.step O4)
  clear O4 HR3 HA3
  go_wp2_with fail
  refine (open_nil w4).mono ?_
  rintro x w' ⟨rfl, rfl⟩
  go_wp2_with fail
  refine (open_corrupt HR4.out (new_down 20) raw_cover).mono ?_
  rintro x w5 ⟨rfl, O5⟩
  have HR5 := Lib.hid (HR4.out.step O5)
  have HA5 := Lib.hid (HA4.out.step O5)
  clear O5 HR4 HA4
  go_wp2_with fail
  refine (found_nil 6 w5).mono ?_
  rintro x w' ⟨rfl, rfl⟩
  go_wp2_with fail
  refine (found_no HR5.out 4 (by rw [new_len]; rfl)).mono ?_
  rintro x w' ⟨rfl, rfl⟩
  go_wp2_with fail
  refine (found_no HR5.out 17 (by rw [new_len]; rfl)).mono ?_
  rintro x w' ⟨rfl, rfl⟩
  clear HR5
  go_wp2_with fail
  have HE0 : Hid (Ents w5 none []) := ⟨(fun i x hx => by simp at hx), (fun g o q => by cases q)⟩
  refine (write_any HA5.out (okB_ok kL_ok) (by rw [kL_nums.1]; decide) (by rw [kL_nums.2.1]; decide) (by rw [kL_nums.2.2]; decide) none [] 0 0 HE0.out rfl (by omega)).mono ?_
  rintro x w6 ⟨rfl, N6⟩
  rw [e_arg g_none]
  rw [write_arg g_none] at N6
  obtain ⟨b6, A6⟩ := N6.1
  have HA6 := Lib.hid A6
  clear N6 A6 HA5 HE0
  go_wp2_with fail
  refine (page_any 1 w6).mono ?_
  rintro x w7 ⟨rfl, K7, O7⟩
  have HA7 := Lib.hid (HA6.out.step O7)
  have HK7 := Lib.hid K7
  clear K7 O7 HA6
  generalize w6.heap.size = g6 at *
  go_wp2_with fail
  have T8 : Old w7 (w7.alloc (.cells #[.int .i64 12, .slice (some ⟨g6, 0, none⟩) 96 96] 37)) := (Touch.refl _ _).alloc _
  have HA8 := Lib.hid (HA7.out.step T8)
  have HE8 := Lib.hid (Ents.one (k := 12) (pageOf_trk 1).len (Blk.new w7 37 [.int .i64 12, .slice (some ⟨g6, 0, none⟩) 96 96]) (Nat.le_refl 96) ((HK7.out.byt (pageOf_trk 1)).old T8))
  clear T8 HA7 HK7
  generalize w7.alloc (.cells #[.int .i64 12, .slice (some ⟨g6, 0, none⟩) 96 96] 37) = w8 at *
  generalize w7.heap.size = g7 at *
  refine (write_any HA8.out (okB_ok kL_ok) (by rw [kL_nums.1]; decide) (by rw [kL_nums.2.1]; decide) (by rw [kL_nums.2.2]; decide) _ [(12, pageOf 1)] 1 1 HE8.out rfl (by omega)).mono ?_
  rintro x w9 ⟨rfl, N9⟩
  rw [e_arg g_past]
  rw [write_arg g_past] at N9
  obtain ⟨b9, A9⟩ := N9.1
  have HA9 := Lib.hid A9
  clear N9 A9 HA8 HE8
  go_wp2_with fail
  refine (page_any 1 w9).mono ?_
  rintro x w10 ⟨rfl, K10, O10⟩
  have HA10 := Lib.hid (HA9.out.step O10)
  have HK10 := Lib.hid K10
  clear K10 O10 HA9
  generalize w9.heap.size = g9 at *
  go_wp2_with fail
  refine (page_any 2 w10).mono ?_
  rintro x w11 ⟨rfl, K11, O11⟩
  have HA11 := Lib.hid (HA10.out.step O11)
  have HK10' := Lib.hid (HK10.out.touch O11 (fun q => q))
  have HK11 := Lib.hid K11
  clear K11 O11 HA10 HK10
  generalize w10.heap.size = g10 at *
  go_wp2_with fail
  have T12 : Old w11 (w11.alloc (.cells #[.int .i64 1, .slice (some ⟨g9, 0, none⟩) 96 96, .int .i64 1, .slice (some ⟨g10, 0, none⟩) 96 96] 37)) := (Touch.refl _ _).alloc _
  have HA12 := Lib.hid (HA11.out.step T12)
  have HE12 : Hid (Ents (w11.alloc (.cells #[.int .i64 1, .slice (some ⟨g9, 0, none⟩) 96 96, .int .i64 1, .slice (some ⟨g10, 0, none⟩) 96 96] 37)) (some ⟨w11.heap.size, 0, none⟩) [(1, pageOf 1), (1, pageOf 2)]) := by
    have K12 := Blk.new w11 37 [.int .i64 1, .slice (some ⟨g9, 0, none⟩) 96 96, .int .i64 1, .slice (some ⟨g10, 0, none⟩) 96 96]
    refine ⟨fun i x hx => ?_, fun g' o e => by cases e; exact ⟨_, K12⟩⟩
    match i, hx with
    | 0, hx =>
      injection hx with hx
      subst hx
      exact ⟨_, 0, _, 96, rfl, K12.cell 0, by rw [(pageOf_trk 1).len]; exact K12.cell 1, by rw [(pageOf_trk 1).len]; exact Nat.le_refl _, (HK10'.out.byt (pageOf_trk 1)).old T12⟩
    | 1, hx =>
      injection hx with hx
      subst hx
      exact ⟨_, 0, _, 96, rfl, K12.cell 2, by rw [(pageOf_trk 2).len]; exact K12.cell 3, by rw [(pageOf_trk 2).len]; exact Nat.le_refl _, (HK11.out.byt (pageOf_trk 2)).old T12⟩
    | i + 2, hx => simp at hx
  clear T12 HA11 HK10' HK11
  generalize w11.alloc (.cells #[.int .i64 1, .slice (some ⟨g9, 0, none⟩) 96 96, .int .i64 1, .slice (some ⟨g10, 0, none⟩) 96 96] 37) = w12 at *
  generalize w11.heap.size = g11 at *
  refine (write_any HA12.out (okB_ok kL_ok) (by rw [kL_nums.1]; decide) (by rw [kL_nums.2.1]; decide) (by rw [kL_nums.2.2]; decide) _ [(1, pageOf 1), (1, pageOf 2)] 2 2 HE12.out rfl (by omega)).mono ?_
  rintro x w13 ⟨rfl, N13⟩
  rw [e_arg g_twice]
  rw [write_arg g_twice] at N13
  obtain ⟨b13, A13⟩ := N13.1
  have HA13 := Lib.hid A13
  clear N13 A13 HA12 HE12
  go_wp2_with fail
  have T14 : Old w13 (w13.alloc (.cells #[.int .i64 1, .slice none 0 0] 37)) := (Touch.refl _ _).alloc _
  have HA14 := Lib.hid (HA13.out.step T14)
  have HE14 := Lib.hid (Ents.one (k := 1) (xs := []) (n := 0) rfl (Blk.new w13 37 [.int .i64 1, .slice none 0 0]) (Nat.le_refl 0) ⟨Has.nil _ _, (fun g o e => by cases e)⟩)
  clear T14 HA13
  generalize w13.alloc (.cells #[.int .i64 1, .slice none 0 0] 37) = w14 at *
  generalize w13.heap.size = g13 at *
  refine (write_any HA14.out (okB_ok kL_ok) (by rw [kL_nums.1]; decide) (by rw [kL_nums.2.1]; decide) (by rw [kL_nums.2.2]; decide) _ [(1, [])] 1 1 HE14.out rfl (by omega)).mono ?_
  rintro x w15 ⟨rfl, N15⟩
  rw [e_arg g_short]
  rw [write_arg g_short] at N15
  obtain ⟨b15, A15⟩ := N15.1
  have HA15 := Lib.hid A15
  clear N15 A15 HA14 HE14
  have HM0 : Hid (MineE w15 w15.heap.size (.slice none 0 0) (fives 0) ∧ Old w15 w15) := ⟨MineE.nil _ _, Touch.refl _ _⟩
  go_wp2_with fail
  go_loopw [16, 17] (fun v i wx => ∃ t : Nat, t ≤ 5 ∧ i = .int .i64 t ∧ Hid (MineE wx w15.heap.size v (fives t) ∧ Old w15 wx)) (fun _ i _ => 5 - (intOf i).toNat)
  case atStart => exact ⟨0, by omega, rfl, HM0⟩
  case round =>
    obtain ⟨t, ht, rfl, HC⟩ := hrel
    clear HM0
    by_cases hlt : t < 5
    · have i1 : (t : Int) < 5 := by omega
      go_wp2_with fail
      refine (page_any (t : Int) wr).mono ?_
      rintro x wp ⟨rfl, Kp, Op⟩
      obtain ⟨v', w', hap, M', T'⟩ := (HC.out.1.old Op).more (Nat.le_trans HC.out.2.size Op.size) t (some ⟨wr.heap.size, 0, none⟩) (pageOf (t : Int)) 96 96 (pageOf_trk _).len (Nat.le_refl _) (Kp.byt (pageOf_trk _)) (by rw [fives_length]; omega)
      rw [← fives_next] at M'
      have HN : Hid (MineE w' w15.heap.size v' (fives (t + 1)) ∧ Old w15 w') := by
        refine ⟨M', ?_⟩
        have O := HC.out.2.trans Op
        exact ⟨T'.os.trans O.os, T'.tape.trans O.tape, T'.output.trans O.output, Nat.le_trans O.size T'.size, fun k hk hn => (T'.block k (Nat.lt_of_lt_of_le hk O.size) (fun q => by have := (HC.out.1.lt k q).1; omega)).trans (O.block k hk hn)⟩
      clear M' T' Kp Op HC
      go_wp2_with (first | (at_builtin; refine wpList_append_run rfl _ _ 38 38 rfl _ _ rfl rfl _ _ (hap _) ?_))
      exact ⟨⟨t + 1, by omega, by go_num, HN⟩, by simp [intOf]; omega⟩
    · obtain rfl : t = 5 := by omega
      obtain ⟨ae, ce, rfl, hce, Ee⟩ := HC.out.1.form
      rw [fives_length] at hce ⊢
      have HA16 := Lib.hid (HA15.out.step HC.out.2)
      have HE16 := Lib.hid Ee
      have c1 : (1 : Int) ≤ (ce : Int) := by omega
      have HE1f : Hid (∀ wz, Ents wz ae (fives 5) → Ents wz ae (fives 1)) := fun wz h => ⟨fun i x hx => by
        have hi : i < 1 := by have := lt_of_get hx; rwa [fives_length] at this
        obtain rfl : i = 0 := by omega
        exact h.en 0 x hx, h.blk⟩
      clear HC Ee hce HA15
      go_wp2_with fail
      refine (write_any HA16.out (okB_ok kL_ok) (by rw [kL_nums.1]; decide) (by rw [kL_nums.2.1]; decide) (by rw [kL_nums.2.2]; decide) _ (fives 5) 5 ce HE16.out rfl (by omega)).mono ?_
      rintro x w17 ⟨rfl, N17⟩
      rw [e_big]
      rw [s_big] at N17
      obtain ⟨b17, A17⟩ := N17.1
      have HA17 := Lib.hid A17
      have HE17 := Lib.hid (HE16.out.keptL N17.2.1)
      clear N17 A17 HA16 HE16
      go_wp2_with fail
      refine (look_far HA17.out.head 12 (by rw [kL_home]; omega)).mono ?_
      rintro x w' ⟨rfl, rfl⟩
      go_wp2_with fail
      refine (write_any HA17.out (okB_ok kL_ok) (by rw [kL_nums.1]; decide) (by rw [kL_nums.2.1]; decide) (by rw [kL_nums.2.2]; decide) _ (fives 1) 1 ce (HE1f.out _ HE17.out) rfl (by omega)).mono ?_
      rintro x w18 ⟨rfl, N18⟩
      rw [e_one]
      obtain ⟨b18, A18⟩ := N18.1
      have HA18 : Hid (LAt w l d b18 g k1 w18) := A18
      have HE18 := Lib.hid (HE17.out.keptL N18.2.1)
      clear N18 A18 HA17 HE17
      go_wp2_with fail
      refine (blank_any HA18.out.head (okB_ok k1_ok).laid (by have := (okB_ok k1_ok).len; have := HA18.out.st.dr.ok.many; omega)).mono ?_
      rintro x w19 ⟨rfl, O19⟩
      rw [k1_blank]
      have HA19 := Lib.hid (HA18.out.step O19)
      have HE19 := Lib.hid (HE18.out.old O19)
      clear O19 HA18 HE18
      go_wp2_with fail
      refine (lbalance_any HA19.out (okB_ok k1_ok) (by rw [k1_turns]; decide)).mono ?_
      rintro x w20 ⟨rfl, N20⟩
      rw [e_two]
      obtain ⟨b20, A20⟩ := N20.1
      have HA20 : Hid (LAt w l d b20 g k2 w20) := A20
      have HE20 := Lib.hid (HE19.out.keptL N20.2.1)
      clear N20 A20 HA19 HE19
      go_wp2_with fail
      refine (blank_any HA20.out.head (okB_ok k2_ok).laid (by have := (okB_ok k2_ok).len; have := HA20.out.st.dr.ok.many; omega)).mono ?_
      rintro x w21 ⟨rfl, O21⟩
      rw [k2_blank]
      have HA21 := Lib.hid (HA20.out.step O21)
      have HE21 := Lib.hid (HE20.out.old O21)
      clear O21 HA20 HE20
      go_wp2_with fail
      refine (break_st HA21.out.st 1 (by omega)).mono ?_
      rintro x w22 ⟨rfl, N22⟩
      obtain ⟨b22, A22⟩ := HA21.out.next N22
      have HA22 : Hid (LAt w l d b22 g k3 w22) := A22
      have HE22 := Lib.hid (HE21.out.kept N22.2.1)
      clear N22 A22 HA21 HE21
      go_wp2_with fail
      refine (write_any HA22.out (okB_ok k3_ok) (by rw [k3_nums.1]; decide) (by rw [k3_nums.2.1]; decide) (by rw [k3_nums.2.2]; decide) _ (fives 1) 1 ce (HE1f.out _ HE22.out) rfl (by omega)).mono ?_
      rintro x w23 ⟨rfl, N23⟩
      rw [e_down]
      obtain ⟨b23, A23⟩ := N23.1
      have HA23 : Hid (LAt w l d b23 g k4 w23) := A23
      clear N23 A23 HA22 HE22 HE1f
      go_wp2_with fail
      refine (fall_st HA23.out.st (by rw [k4_turns]; decide) none [] 0 0 (-1) 0 (HasI.nil _ _) rfl (by omega)).mono ?_
      rintro x w24 ⟨rfl, N24⟩
      obtain ⟨b24, A24⟩ := HA23.out.next N24
      have HA24 : Hid (LAt w l d b24 g k5 w24) := A24
      clear N24 A24 HA23
      go_wp2_with fail
      refine (look_lost HA24.out k5_lost 1 (by rw [k5_home]; decide)).mono ?_
      rintro x w' ⟨rfl, rfl⟩
      go_wp2_with fail
      refine (lost_any HA24.out.head).mono ?_
      rintro x w' ⟨rfl, rfl⟩
      rw [k5_lost]
      go_wp2_with fail
      refine (lsettle_any HA24.out (by rw [k5_turns]; decide)).mono ?_
      rintro x w25 ⟨rfl, N25⟩
      rw [k5_settle.1]
      rw [k5_settle.2] at N25
      obtain ⟨b25, A25⟩ := N25.1
      have HA25 := Lib.hid A25
      clear N25 A25 HA24
      go_wp2_with fail
      refine (lbalance_any HA25.out (okB_ok k5_ok) (by rw [k5_turns]; decide)).mono ?_
      rintro x w26 ⟨rfl, N26⟩
      rw [k5_balance.1]
      obtain ⟨b26, A26⟩ := N26.1
      have HO := Lib.hid A26.st.old
      clear N26 A26 HA25
      go_wp2_with fail
      refine (leaves_any 0 _ (by omega)).mono ?_
      rintro x w' ⟨rfl, rfl⟩
      rw [show leavesOf 0 = 0 from rfl]
      go_wp2_with fail
      refine (leaves_neg (-3) _ (by omega)).mono ?_
      rintro x w' ⟨rfl, rfl⟩
      go_wp2_with fail
      go_ret
      exact ⟨rfl, HO.out.below (Nat.le_refl _) (fun _ _ h => h)⟩
end Go.Proofs.Ytmingbgohdhajaa
