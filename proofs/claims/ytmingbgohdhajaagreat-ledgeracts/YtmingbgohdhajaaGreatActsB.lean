/- What a law of acts needs besides: lariatlaw5.few; the drum's Turns, Afloat; the reference's Break, Settle, Look, a lost ledger's Balance. -/
import Derived.Test.YtmingbgohdhajaaGreatActsA
import Derived.Test.YtmingbgohdhajaaGreatRefFall
import Derived.Test.YtmingbgohdhajaaGreatEntJ
import Derived.Deep.RegionHeld3
namespace Go.Proofs.YtmingbgohdhajaaGreat
open Go.RowKit
set_option maxRecDepth 100000
set_option linter.unusedSimpArgs false

def nums (ys : List Int) : List Value := ys.map fun y => Value.int .i64 y
/-- A row of numbers of one's own, not older than B, or nil. -/
def MineI (w : World) (B : Nat) (v : Value) (ys : List Int) : Prop := w.ownsRow B 3 1 v ys.length (nums ys)
theorem MineI.nil (w : World) (B : Nat) : MineI w B (.slice none 0 0) [] := World.ownsRow_nil _ _ _ _
theorem MineI.form {w : World} {B : Nat} {v : Value} {ys : List Int} (h : MineI w B v ys) : ∃ a c, v = .slice a ys.length c ∧ HasI w a ys ∧ (∀ k, (∃ o, a = some ⟨k, o, none⟩) → ∃ cs, Blk w k 3 cs) := by
  obtain ⟨hl, ⟨rfl, h0⟩ | ⟨g, cap, cur, rfl, hb, hg, h1, h2, h3, h4⟩⟩ := h
  · obtain rfl : ys = [] := List.eq_nil_of_length_eq_zero h0
    exact ⟨none, 0, rfl, HasI.nil _ _, fun _ ⟨_, e⟩ => by cases e⟩
  · have hB : Blk w g 3 cur.toList := by unfold Blk; rw [hg]
    refine ⟨some ⟨g, 0, none⟩, cap, rfl, ⟨fun i hi => ⟨g, 0, rfl, ?_⟩⟩, fun k ⟨o, e⟩ => by cases e; exact ⟨cur.toList, hB⟩⟩
    have : cur.toList[i]? = (nums ys)[i]? := by rw [← h4, List.getElem?_take_of_lt (by omega)]
    rw [Nat.zero_add, hB.cell, this]
    unfold nums
    rw [List.getElem?_map, List.getElem?_eq_getElem hi, List.getD_eq_getElem?_getD, List.getElem?_eq_getElem hi]
    rfl
theorem MineI.old {w w' : World} {B : Nat} {v : Value} {ys : List Int} (h : MineI w B v ys) (m : Old w w') : MineI w' B v ys := owns_touch h m (fun _ _ q => q)
theorem MineI.lt {w : World} {B : Nat} {v : Value} {ys : List Int} (h : MineI w B v ys) : ∀ k, blk v k → B ≤ k ∧ k < w.heap.size := fun k hk => World.ownsRow.lt h k hk
theorem MineI.more {w : World} {B : Nat} {v : Value} {ys : List Int} (h : MineI w B v ys) (hB : B ≤ w.heap.size) (y : Int) (hl : ys.length ≤ 1000000) :
    ∃ v' w', (∀ ty, (Builtin.append_ #[36, 36] ty #[v, .slice (some ⟨w.heap.size, 0, none⟩) 1 1]).run Tryz.prog (w.alloc (.cells #[.int .i64 y] 3)) = .ok v' w') ∧ MineI w' B v' (ys ++ [y]) ∧ Touch (blk v) w w' := by
  have T1 : Old w (w.alloc (.cells #[.int .i64 y] 3)) := (Touch.refl _ w).alloc _
  have K1 : Blk (w.alloc (.cells #[.int .i64 y] 3)) w.heap.size 3 [.int .i64 y] := Blk.new w 3 [.int .i64 y]
  have h1 := h.old T1
  have hB1 : B ≤ (w.alloc (.cells #[.int .i64 y] 3)).heap.size := Nat.le_trans hB T1.size
  generalize w.alloc (.cells #[.int .i64 y] 3) = w1 at *
  obtain ⟨i0, hi0, hz0, hz1, hz2⟩ := info_parts info3
  have hone : ∀ u ∈ [Value.int .i64 y], u.oneCell' = true := by
    intro u hu
    obtain rfl := List.mem_singleton.1 hu
    rfl
  have key : ∀ ty, ∃ v' w', (Builtin.append_ #[36, 36] ty #[v, .slice (some ⟨w.heap.size, 0, none⟩) 1 1]).run Tryz.prog w1 = .ok v' w' ∧ w'.ownsRow B 3 1 v' (ys.length + 1) (nums ys ++ [.int .i64 y]) ∧ w1.grownBy w' v.ownBlock := fun ty => by
    obtain ⟨v', w', hap, own, gr, _, _⟩ := run_append_own_at (P := Tryz.prog) w1 B 36 ty 3 i0 _ 1 8 Tryz.underlying36 hi0 hz0 hz1 hz2 rfl (by omega) v _ _ h1 ⟨w.heap.size, 0, none⟩ 1 1 [.int .i64 y] rfl (World.news_of_block K1) hone (by simp only [maxLen]; omega) (by omega) hB1
    exact ⟨v', w', hap, own, gr⟩
  obtain ⟨v', w', hap, own, gr⟩ := key 36
  refine ⟨v', w', fun ty => hap, ?_, (Touch.of_old T1).trans (Touch.grown gr (fun k hk => hk))⟩
  unfold MineI
  rw [List.length_append, show nums (ys ++ [y]) = nums ys ++ [.int .i64 y] by simp [nums]]
  exact own
theorem mineI_old {w wx w' : World} {v : Value} (o : Old w wx) (hv : ∀ k, blk v k → w.heap.size ≤ k) (T : Touch (blk v) wx w') : Old w w' :=
  ⟨T.os.trans o.os, T.tape.trans o.tape, T.output.trans o.output, Nat.le_trans o.size T.size, fun k hk hn => (T.block k (Nat.lt_of_lt_of_le hk o.size) (fun q => by have := hv k q; omega)).trans (o.block k hk hn)⟩

/-- What few answers. -/
def Fews (w : World) (x : Ending) (w' : World) : Prop := ∃ b m c ys, x = .returned (.slice b m c) ∧ ys.length = m ∧ m ≤ 20 ∧ HasI w' b ys ∧ (∀ k, (∃ o, b = some ⟨k, o, none⟩) → ∃ cs, Blk w' k 3 cs) ∧ Old w w'
set_option maxHeartbeats 3200000 in
theorem few_any (a : Option Addr) (ks : List Int) (len cap : Nat) (n : Int) (w : World) (h : HasI w a ks) (hl : ks.length = len) (hn0 : 0 < n) (hn : n ≤ 5000) :
    Calls Tryz.prog 15 #[.slice a len cap, .int .i64 n] w (Fews w) := by
  have H := Lib.hid h
  have HL := Lib.hid hl
  have H0 : Hid (MineI w w.heap.size (.slice none 0 0) [] ∧ Old w w) := ⟨MineI.nil _ _, Touch.refl _ _⟩
  clear h hl
  go_enter Tryz.func15, Tryz.ntmps15
  go_wp2_with fail
  go_loopw [5, 6] (fun v i wx => ∃ (t : Nat) (ys : List Int), t ≤ len ∧ t ≤ 20 ∧ ys.length = t ∧ i = .int .i64 t ∧ Hid (MineI wx w.heap.size v ys ∧ Old w wx)) (fun _ i _ => 20 - (intOf i).toNat)
  case atStart => exact ⟨0, [], by omega, by omega, rfl, rfl, H0⟩
  case round =>
    obtain ⟨t, ys, ht1, ht2, hys, rfl, HC⟩ := hrel
    clear H0
    by_cases hin : t < len ∧ t < 20
    · have i0 : (0 : Int) ≤ (t : Int) := by omega
      have i1 : (t : Int) < (len : Int) := by omega
      have i2 : (t : Int) < 20 := by omega
      obtain ⟨b, off, rfl, hc⟩ := (H.out.old HC.out.2).cell t (by rw [HL.out]; exact hin.1)
      generalize ks.getD t 0 = y at *
      go_wp2_with fail
      refine (pick_big y n hn0 hn wr).mono ?_
      rintro x w' ⟨k, hk, rfl, rfl⟩
      obtain ⟨v', w2, hap, M2, T2⟩ := HC.out.1.more HC.out.2.size (k : Int) (by omega)
      have HN : Hid (MineI w2 w.heap.size v' (ys ++ [(k : Int)]) ∧ Old w w2) := ⟨M2, mineI_old HC.out.2 (fun k hk => (HC.out.1.lt k hk).1) T2⟩
      clear M2 T2 HC hc
      go_wp2_with (first | (at_builtin; refine wpList_append_run rfl _ _ 36 36 rfl _ _ rfl rfl _ _ (hap _) ?_))
      exact ⟨⟨t + 1, _, by omega, by omega, by simp [hys], by go_num, HN⟩, by simp [intOf]; omega⟩
    · obtain ⟨bb, c, rfl, hb, hbk⟩ := HC.out.1.form
      rw [hys]
      have HN : Hid (Fews w (.returned (.slice bb t c)) wr) := ⟨bb, t, c, ys, rfl, hys, ht2, hb, hbk, HC.out.2⟩
      clear HC hb hbk
      by_cases hlt : (t : Int) < (len : Int)
      · have i2 : ¬ (t : Int) < 20 := by omega
        go_wp2_with fail
        go_ret
        exact HN.out
      · go_wp2_with fail
        go_ret
        exact HN.out
theorem counter_load (b o : Nat) (x : Int) (w : World) (hc : w.cell? ⟨b, o, none⟩ = some (.int .i64 x)) :
    Calls Tryz.prog 68 #[.pointer (some ⟨b, o, none⟩)] w fun e w' => e = .returned (.int .i64 x) ∧ w = w' := by
  have HK := Lib.hid hc
  clear hc
  go_enter Tryz.func68, Tryz.ntmps68
  go_wp2_with fail
  refine (int_load b o x _ HK.out).mono ?_
  rintro e w' ⟨rfl, rfl⟩
  go_wp2_with fail
  go_ret
  exact ⟨rfl, rfl⟩
theorem turns_any (d : Nat) (b : Bl) (D : DS) (V : List (List Nat)) (w : World) (h : At d b D V w) :
    Calls Tryz.prog 30 #[.pointer (some ⟨d, 0, none⟩)] w fun e w' => e = .returned (.int .i64 D.turns) ∧ w = w' := by
  have hc : Hid (w.cell? ⟨d, 3, none⟩ = some (.int .i64 D.turns)) := h.head.cell 3
  clear h
  go_enter Tryz.func30, Tryz.ntmps30
  go_wp2_with fail
  refine (counter_load d 3 _ w hc.out).mono ?_
  rintro e w' ⟨rfl, rfl⟩
  go_wp2_with fail
  go_ret
  exact ⟨rfl, rfl⟩

set_option maxRecDepth 100000 in
set_option maxHeartbeats 1600000 in
theorem afloat_any (d : Nat) (b : Bl) (D : DS) (V : List (List Nat)) (w : World) (h : At d b D V w) (ok : D.Ok) (ht : D.turns ≤ 100000) :
    Calls Tryz.prog 31 #[.pointer (some ⟨d, 0, none⟩)] w fun e w' => e = .returned (.slice (some ⟨w.heap.size, 0, none⟩) D.A.length D.A.length) ∧ Blk w' w.heap.size 3 (ints (D.A.map (·.1))) ∧ Old w w' := by
  obtain ⟨a, c, hafl⟩ := lains_form h.own
  have hm : D.A.length ≤ 100000 := Nat.le_trans ok.long ht
  have hc : w.cell? ⟨d, 2, none⟩ = some (.slice a D.A.length c) := by rw [← hafl]; exact h.head.cell 2
  have hmk := make_ints D.A.length (by omega) w
  have T0 : Old w (w.alloc (.cells (ints (List.replicate D.A.length 0)).toArray 3)) := (Touch.refl _ _).alloc _
  have hc1 : (w.alloc (.cells (ints (List.replicate D.A.length 0)).toArray 3)).cell? ⟨d, 2, none⟩ = some (.slice a D.A.length c) := (T0.cell (p := ⟨d, 2, none⟩) h.head.lt (fun q => q)).trans hc
  have HK0 : Hid (Blk (w.alloc (.cells (ints (List.replicate D.A.length 0)).toArray 3)) w.heap.size 3 (ints (told (D.A.map (·.1)) 0))) := by
    rw [show told (D.A.map (·.1)) 0 = List.replicate D.A.length 0 by simp [told]]
    exact Blk.new w 3 (ints (List.replicate D.A.length 0))
  have HT0 := Lib.hid T0
  have H := Lib.hid h
  have HO := Lib.hid ok
  have Hafl := Lib.hid hafl
  clear h ok T0 hafl ht
  generalize w.alloc (.cells (ints (List.replicate D.A.length 0)).toArray 3) = w0 at *
  generalize hm' : D.A.length = m at *
  have HM := Lib.hid hm'
  clear hm'
  go_enter Tryz.func31, Tryz.ntmps31
  go_wp2_with fail
  go_loopw [19] (fun i wx => ∃ t : Nat, t ≤ m ∧ i = .int .i64 t ∧ Hid (Blk wx w.heap.size 3 (ints (told (D.A.map (·.1)) t))) ∧ Hid (Old w wx)) (fun i _ => m - (intOf i).toNat)
  case atStart => exact ⟨0, by omega, rfl, HK0, HT0⟩
  case round =>
    obtain ⟨t, hle, rfl, HK, HT⟩ := hrel
    clear HK0 HT0 hmk hc hc1
    by_cases hlt : t < m
    · obtain ⟨x, hx⟩ := get_of_lt (l := D.A) (n := t) (by rw [HM.out]; exact hlt)
      have hx' := HO.out.lay x (mem_of_get hx)
      have own := owns_touch H.out.own HT.out (fun _ _ q => q)
      rw [Hafl.out, HM.out] at own
      obtain ⟨g, rfl⟩ := lains_ptr own (by omega)
      have hr := lains_at (fun x hx => (HO.out.lay x hx).2) HM.out own hx
      have HR := Lib.hid hr
      have HX := Lib.hid hx'.2
      have HXg := Lib.hid hx
      have h0 : (0 : Int) ≤ (t : Int) := by omega
      have h1 : (t : Int) < (m : Int) := by omega
      have hne : Hid (w.heap.size ≠ wr.heap.size) := fun e => by have := HK.out.lt; omega
      have hax : (D.A.map (·.1))[t]? = some x.1 := by rw [List.getElem?_map, hx]; rfl
      have htl : (told (D.A.map (·.1)) t).length = m := by rw [told_length _ _ (by rw [List.length_map, HM.out]; exact hle), List.length_map, HM.out]
      have HS := Lib.hid (told_set _ t x.1 hax)
      have HL := Lib.hid htl
      clear own hr hx' hx hax htl
      go_wp2_with (first
        | (with_reducible refine wpList_alloc_lain (op := ⟨some 5, _, _, _, _, _⟩) rfl rfl ?_)
        | (with_reducible refine wpList_load_lain (op := ⟨some 23, _, _, _, _, _⟩) rfl (.tmp 22) rfl g (t * 97) rfl x HX.out HR.out ?_)
        | ((with_reducible refine wpList_store_lain (op := ⟨none, .store 102 _ _, _, _, _, _⟩) rfl (.tmp 5) (.tmp 23) rfl _ x HX.out rfl rfl noLain noLain_length (Blk.new _ 102 noLain) ?_); intro w2 K2 T2
           have hl0 : w2.cell? ⟨wr.heap.size, 0, none⟩ = some (.int .i64 (x.1 : Int)) := K2.cell 0
           have HT2 : Hid (Old w w2) := (HT.out.alloc _).own T2 HT.out.size
           have HB : Hid (Blk w2 w.heap.size 3 (ints (told (D.A.map (·.1)) t))) := (HK.out.touch ((Touch.refl (fun _ => False) wr).alloc _) (fun q => q)).touch T2 hne.out
           have hcz : w2.cell? ⟨w.heap.size, t, none⟩ = some (.int .i64 (at0 (told (D.A.map (·.1)) t) t : Int)) := by rw [HB.out.cell, ints_get _ _ (by rw [HL.out]; exact hlt)]
           have hfz : w2.frozen? ⟨w.heap.size, t, none⟩ = false := HB.out.frozen t
           clear K2 T2))
      refine ⟨⟨t + 1, by omega, by go_num, ?_, HT2.out.setCell (.inr (Nat.le_refl _)) _⟩, by simp [intOf]; omega⟩
      have := HB.out.set t (.int .i64 (x.1 : Int))
      rw [ints_set, HS.out] at this
      exact this
    · obtain rfl : t = m := by omega
      go_wp2_with fail
      go_ret
      refine ⟨rfl, ?_, HT.out⟩
      have := HK.out
      rw [← HM.out, show D.A.length = (D.A.map (·.1)).length by simp, told_all] at this
      exact this
theorem rbreak_any {w0 w : World} {r : Nat} {D : DS} (h : Rs w0 r D w) (n : Int) (hn : n ≤ 1000) (hn2 : -1000 ≤ n) :
    Calls Tryz.prog 21 #[.pointer (some ⟨r, 0, none⟩), .int .i64 n] w fun e w' => e = .returned (.tuple #[]) ∧ RNext w0 r (D.brk (breakOf n)) w w' := by
  obtain ⟨vt, va, ha⟩ := h.ex
  have hc : w.cell? ⟨r, 2, none⟩ = some (.int .i64 (leftOf D.left)) := ha.head.cell 2
  have hf : w.frozen? ⟨r, 2, none⟩ = false := ha.head.frozen 2
  have hb : max (-1) n = leftOf (breakOf n) := by unfold breakOf; split <;> simp [leftOf] <;> omega
  have HE : Hid (RNext w0 r (D.brk (breakOf n)) w (w.setCell ⟨r, 2, none⟩ (.int .i64 (leftOf (breakOf n))))) := ⟨⟨h.lo, vt, va, ha.set 2 _ rfl rfl rfl⟩, Touch.head ha h.lo 2 _⟩
  clear h ha
  generalize leftOf (breakOf n) = q at *
  go_enter Tryz.func21, Tryz.ntmps21
  go_wp2_with fail
  go_end0
  exact ⟨rfl, HE.out⟩


section
variable {w0 w : World} {lp r m n : Nat} {L : LS}
theorem lost_same (hl : L.lost = true) : ({ L with lost := true } : LS) = L := by cases L; simp only at hl; subst hl; rfl
theorem rbalance_lost (h : RL w0 lp r m n L w) (hl : L.lost = true) : Calls Tryz.prog 13 #[.pointer (some ⟨lp, 0, none⟩)] w fun x w' => x = .returned (.int .i64 4) ∧ RL w0 lp r m n L w' ∧ Touch (lmine w0 w) w w' := by
  have c6 : w.cell? ⟨lp, 6, none⟩ = some (.bool true) := by rw [← hl]; exact h.head.cell 6
  have HN := Lib.hid (ends_no h)
  rw [lost_same hl] at HN
  have HM := Lib.hid h.lhead
  clear h
  go_enter Tryz.func13, Tryz.ntmps13
  go_wp2_with fail
  refine HN.out.mono ?_
  rintro x w1 ⟨rfl, A, T⟩
  have HA : Hid (RL w0 lp r m n L w1 ∧ Touch (lmine w0 w) w w1) := ⟨A, T.mono (fun q _ e => by have e' : q = lp := e; rw [e']; exact HM.out)⟩
  clear A T HN
  go_wp2_with fail
  go_ret
  exact ⟨rfl, HA.out⟩
set_option maxHeartbeats 3200000 in
theorem rlsettle_any (h : RL w0 lp r m n L w) (ht : L.D.turns ≤ 90000) : Calls Tryz.prog 11 #[.pointer (some ⟨lp, 0, none⟩)] w fun x w' => x = .returned (.int .i64 (L.settleE : Int)) ∧ RL w0 lp r m n L.settle w' ∧ Touch (lmine w0 w) w w' := by
  have c0 : w.cell? ⟨lp, 0, none⟩ = some (.pointer (some ⟨r, 0, none⟩)) := h.head.cell 0
  have c6 : w.cell? ⟨lp, 6, none⟩ = some (.bool L.lost) := h.head.cell 6
  have HM := Lib.hid h.lhead
  cases hl : L.lost with
  | true =>
    rw [hl] at c6
    have HN := Lib.hid (ends_no h)
    rw [lost_same hl] at HN
    have HE : Hid (L.settleE = 4 ∧ L.settle = L) := ⟨by unfold LS.settleE; rw [hl]; rfl, by unfold LS.settle; rw [hl]; rfl⟩
    rw [HE.out.1, HE.out.2]
    clear h hl HE
    go_enter Tryz.func11, Tryz.ntmps11
    go_wp2_with fail
    refine HN.out.mono ?_
    rintro x w1 ⟨rfl, A, T⟩
    have HA : Hid (RL w0 lp r m n L w1 ∧ Touch (lmine w0 w) w w1) := ⟨A, T.mono (fun q _ e => by have e' : q = lp := e; rw [e']; exact HM.out)⟩
    clear A T HN
    go_wp2_with fail
    go_ret
    exact ⟨rfl, HA.out⟩
  | false =>
    rw [hl] at c6
    have HE : Hid (L.settleE = (L.D.step .settle).bad ∧ L.settle = { L with D := L.D.step .settle : LS }.heed) := ⟨by unfold LS.settleE; rw [hl]; rfl, by unfold LS.settle; rw [hl]; rfl⟩
    rw [HE.out.1, HE.out.2]
    have HS := Lib.hid (rsettle_step h.rs h.ok (by omega) h.n0)
    have H := Lib.hid h
    clear h hl HE
    cases hd : (L.D.step .settle).down with
    | true =>
      rw [bad_down hd] at HS ⊢
      have HH : Hid ({ L with D := L.D.step .settle : LS }.heed = { L with D := L.D.step .settle, lost := true }) := by show _ = _; unfold LS.heed; rw [if_pos hd]
      rw [HH.out]
      clear hd HH
      go_enter Tryz.func11, Tryz.ntmps11
      go_wp2_with fail
      refine HS.out.mono ?_
      rintro x w1 ⟨rfl, N1⟩
      have HA := Lib.hid (H.out.turn N1)
      have HT := Lib.hid (Touch.of_rmine N1.2)
      clear N1 HS
      go_wp2_with fail
      refine (ends_no HA.out).mono ?_
      rintro x w2 ⟨rfl, A, T⟩
      have HA2 := Lib.hid A
      have HT2 : Hid (Touch (lmine w0 w) w w2) := HT.out.ltrans (T.mono (fun q _ e => by have e' : q = lp := e; rw [e']; exact HA.out.lhead))
      clear A T HA HT
      go_wp2_with fail
      go_ret
      exact ⟨rfl, HA2.out, HT2.out⟩
    | false =>
      rw [bad_up hd] at HS ⊢
      have HH : Hid ({ L with D := L.D.step .settle : LS }.heed = { L with D := L.D.step .settle }) := by show _ = _; unfold LS.heed; rw [if_neg (by show ¬ (L.D.step .settle).down = true; rw [hd]; simp)]
      rw [HH.out]
      clear hd HH
      go_enter Tryz.func11, Tryz.ntmps11
      go_wp2_with fail
      refine HS.out.mono ?_
      rintro x w1 ⟨rfl, N1⟩
      have HA := Lib.hid (H.out.turn N1)
      have HT := Lib.hid (Touch.of_rmine N1.2)
      clear N1 HS
      go_wp2_with fail
      refine (ends_yes (lp := lp)).mono ?_
      rintro x w2 ⟨rfl, rfl⟩
      go_wp2_with fail
      go_ret
      exact ⟨rfl, HA.out, HT.out⟩

theorem rllook_far (h : RL w0 lp r m n L w) (hl : L.D.T.length = 2 + L.leaves + L.ws.length) (k : Int) (hk : k < 0 ∨ (L.ws.length : Int) ≤ k) : Calls Tryz.prog 35 #[.pointer (some ⟨lp, 0, none⟩), .int .i64 k] w fun x w' => x = .returned (.tuple #[.slice none 0 0, .int .i64 1]) ∧ Old w w' := by
  have HH := Lib.hid (rlhome_any h hl)
  generalize L.ws.length = nh at *
  clear h hl
  by_cases hneg : k < 0
  · go_enter Tryz.func35, Tryz.ntmps35
    go_wp2_with fail
    go_ret2
    exact ⟨rfl, Touch.refl _ _⟩
  · have hge : (nh : Int) ≤ k := by omega
    go_enter Tryz.func35, Tryz.ntmps35
    go_wp2_with fail
    refine HH.out.mono ?_
    rintro x w1 ⟨rfl, O1⟩
    have HO := Lib.hid O1
    clear O1 HH
    go_wp2_with fail
    go_ret2
    exact ⟨rfl, HO.out⟩
theorem rllook_lost (h : RL w0 lp r m n L w) (hl : L.D.T.length = 2 + L.leaves + L.ws.length) (hlo : L.lost = true) (k : Nat) (hk : k < L.ws.length) : Calls Tryz.prog 35 #[.pointer (some ⟨lp, 0, none⟩), .int .i64 k] w fun x w' => x = .returned (.tuple #[.slice none 0 0, .int .i64 4]) ∧ Old w w' := by
  have HH := Lib.hid (rlhome_any h hl)
  have H := Lib.hid h
  generalize L.ws.length = nh at *
  have k0 : ¬ (k : Int) < 0 := by omega
  have k1 : ¬ (nh : Int) ≤ (k : Int) := by omega
  clear h hl
  go_enter Tryz.func35, Tryz.ntmps35
  go_wp2_with fail
  refine HH.out.mono ?_
  rintro x w1 ⟨rfl, O1⟩
  have HO := Lib.hid O1
  have c6 : w1.cell? ⟨lp, 6, none⟩ = some (.bool true) := by rw [← hlo]; exact (H.out.old O1).head.cell 6
  clear O1 HH
  go_wp2_with fail
  go_ret2
  exact ⟨rfl, HO.out⟩
set_option maxHeartbeats 3200000 in
theorem rllook_home (h : RL w0 lp r m n L w) (hl : L.D.T.length = 2 + L.leaves + L.ws.length) (hlo : L.lost = false) (hd : L.D.down = false) (ht : L.D.turns ≤ 90000) (hm : L.D.T.length ≤ 4096) (htk : ∀ (k : Nat) (b : List Nat), L.ws[k]? = some (some b) → Trk b) (k : Nat) (hk : k < L.ws.length) : Calls Tryz.prog 35 #[.pointer (some ⟨lp, 0, none⟩), .int .i64 k] w (RLooked (L.homeAt k) w) := by
  have HH := Lib.hid (rlhome_any h hl)
  have H := Lib.hid h
  have HTk := Lib.hid htk
  have HD := Lib.hid hd
  have hkn : k < L.ws.length := hk
  obtain ⟨nh, hnh⟩ : ∃ nh, L.ws.length = nh := ⟨_, rfl⟩
  have k0 : ¬ (k : Int) < 0 := by omega
  have k1 : ¬ (nh : Int) ≤ (k : Int) := by omega
  have hsum : 2 + L.leaves + k < L.D.T.length := by omega
  have HW := Lib.hid hkn
  have hle : L.leaves ≤ 4096 := by omega
  have hk9 : k ≤ 4096 := by omega
  rw [hnh] at HH
  obtain ⟨x, hx⟩ := get_of_lt (l := L.ws) (n := k) hkn
  have hg : L.ws.getD k none = x := getD_of hx
  have HX := Lib.hid hx
  have HG := Lib.hid hg
  clear h hl hd hm hk hkn hnh htk hx hg
  cases x with
  | some b =>
    have HA : Hid (L.homeAt k = b) := by show _ = _; unfold LS.homeAt; rw [HG.out]
    have HT := Lib.hid (HTk.out k b HX.out)
    rw [HA.out]
    go_enter Tryz.func35, Tryz.ntmps35
    go_wp2_with fail
    refine HH.out.mono ?_
    rintro x w1 ⟨rfl, O1⟩
    have HO := Lib.hid O1
    have A1 := H.out.old O1
    have c6 : w1.cell? ⟨lp, 6, none⟩ = some (.bool false) := by rw [← hlo]; exact A1.head.cell 6
    have c5 : w1.cell? ⟨lp, 5, none⟩ = some (.map (some m)) := A1.head.cell 5
    have hhit := A1.map.hit (k := k) (by omega) HG.out
    obtain ⟨c, w2, hcv, hc2, L2, O2⟩ := bytes_of w1 b HT.out.byte
    rw [HT.out.len] at hcv hc2
    have HL2 : Hid (w.heap.size ≤ w1.heap.size ∧ 96 ≤ c ∧ Loose w2 w1.heap.size b ∧ Old w w2) := ⟨O1.size, hc2, L2, O1.trans O2⟩
    clear O1 A1 HH L2 O2
    generalize strOf b = sb at *
    generalize w1.heap.size = g1 at *
    go_wp2_with fail
    go_ret2
    exact ⟨g1, c, rfl, HL2.out.2.1, HL2.out.1, HL2.out.2.2.1, HL2.out.2.2.2⟩
  | none =>
    have HA : Hid (L.homeAt k = L.D.seen.getD (2 + L.leaves + k) []) := by show _ = _; unfold LS.homeAt; rw [HG.out]
    rw [HA.out]
    go_enter Tryz.func35, Tryz.ntmps35
    go_wp2_with fail
    refine HH.out.mono ?_
    rintro x w1 ⟨rfl, O1⟩
    have HO := Lib.hid O1
    have A1 := H.out.old O1
    have c6 : w1.cell? ⟨lp, 6, none⟩ = some (.bool false) := by rw [← hlo]; exact A1.head.cell 6
    have c5 : w1.cell? ⟨lp, 5, none⟩ = some (.map (some m)) := A1.head.cell 5
    have hmiss := A1.map.miss (k := k) (by omega) HG.out
    have hlk := rlook_ok (A1.rs.old (w' := w1.drew) ((Touch.refl _ _).drew)) H.out.ok (by omega) (2 + L.leaves + k) hsum HD.out
    have HLk := Lib.hid hlk
    have d0 : w1.drew.cell? ⟨lp, 0, none⟩ = some (.pointer (some ⟨r, 0, none⟩)) := A1.head.cell 0
    have d1 : w1.drew.cell? ⟨lp, 1, none⟩ = some (.int .i64 (L.leaves : Int)) := A1.head.cell 1
    have hA1 := Lib.hid A1
    have ha : IntKind.i64.wrap (2 + (L.leaves : Int)) = ((2 + L.leaves : Nat) : Int) := by rw [wrap_fits ⟨by omega, by omega⟩]; omega
    have hb : IntKind.i64.wrap (((2 + L.leaves : Nat) : Int) + (k : Int)) = ((2 + L.leaves + k : Nat) : Int) := by rw [wrap_fits ⟨by omega, by omega⟩]; omega
    clear A1 hlk HH O1
    generalize 2 + L.leaves + k = kk at *
    generalize 2 + L.leaves = ll at *
    generalize L.leaves = lv at *
    go_wp2_with fail
    go_region_held3 (fun w' => w'.cell? ⟨lp, 0, none⟩ = some (.pointer (some ⟨r, 0, none⟩)) ∧ w'.cell? ⟨lp, 1, none⟩ = some (.int .i64 (lv : Int))) (first | exact ⟨d0, d1⟩ | exact ⟨HC2.out.1, HC2.out.2⟩)
      (first
        | (go_at_call 33; refine HLk.out.mono ?_; rintro x w2 ⟨g2, c2, rfl, hc2, hg2, L2, O2⟩
           have HC2 : Hid (w2.cell? ⟨lp, 0, none⟩ = some (.pointer (some ⟨r, 0, none⟩)) ∧ w2.cell? ⟨lp, 1, none⟩ = some (.int .i64 (lv : Int))) := ⟨(O2.cell (p := ⟨lp, 0, none⟩) (lt_of_cell? d0) (fun q => q)).trans d0, (O2.cell (p := ⟨lp, 1, none⟩) (lt_of_cell? d1) (fun q => q)).trans d1⟩
           have HL2 : Hid (w.heap.size ≤ g2 ∧ 96 ≤ c2 ∧ Loose w2 g2 (L.D.seen.getD kk []) ∧ Old w w2) := ⟨Nat.le_trans HO.out.size hg2, hc2, L2, HO.out.trans (((Touch.refl (fun _ => False) w1).drew).trans O2)⟩
           clear L2 O2))
    all_goals
      rename_i hHeld
      clear hHeld
      go_wp2_with fail
      refine (ends_yes (lp := lp)).mono ?_
      rintro x w3 ⟨rfl, rfl⟩
      go_wp2_with fail
      go_ret2
      exact ⟨g2, c2, rfl, HL2.out.2.1, HL2.out.1, HL2.out.2.2.1, HL2.out.2.2.2⟩
end
end Go.Proofs.YtmingbgohdhajaaGreat
