/- Open of a vault. -/
import Derived.Test.YtjajenkagcdhlaaGreatJV
import Derived.Test.YtjajenkagcdhlaaGreatNewL
namespace Go.Proofs.YtjajenkagcdhlaaGreat
open Go.RowKit
set_option maxRecDepth 100000

section
variable {ops : Array Oper} {o : Oper} {a : Act} {w : World} {K : Act → World → Prop} {Q : Exit → Act → World → Prop} {E : Prop}
theorem step_buildV (hg : o.guard = none) (p0 p1 p2 p3 p4 : Operand) (ho : o.op = .build 74 #[(0, p0), (1, p1), (2, p2), (3, p3), (4, p4)]) (lp x : Nat) (vn vk va : List Value) (h0 : a.eval p0 = .pointer (some ⟨lp, 0, none⟩)) (h1 : a.eval p1 = .agg vn.toArray) (h2 : a.eval p2 = .agg vk.toArray) (h3 : a.eval p3 = .agg va.toArray) (h4 : a.eval p4 = .pointer (some ⟨x, 0, none⟩))
    (l1 : vn.length = 82) (l2 : vk.length = 82) (l3 : va.length = 41) (h : K (a.put o.dst (.agg (vcells lp vn vk va x).toArray)) w) : if Region.wanted o (yielded ops a.tmps) = true then Oper.wp Tryz.prog o a w K Q else E := by
  refine step_wanted hg ?_
  unfold Oper.wp execOp
  simp only [ho, Sem.run_bind, Sem.run_pure, Result.andThen_ok, List.map_toArray, List.map_cons, List.map_nil, h0, h1, h2, h3, h4, run_buildV lp x vn vk va l1 l2 l3]
  exact h
theorem step_boxV (hg : o.guard = none) (p : Operand) (ho : o.op = .box 74 p) (vs : List Value) (hp : a.eval p = .agg vs.toArray) (h : K (a.put o.dst (.pointer (some ⟨w.heap.size, 0, none⟩))) (w.alloc (.cells vs.toArray 74))) : if Region.wanted o (yielded ops a.tmps) = true then Oper.wp Tryz.prog o a w K Q else E := by
  refine step_wanted hg ?_
  unfold Oper.wp execOp
  simp only [ho, hp, Sem.run_bind, Sem.run_pure, Result.andThen_ok, boxAgg]
  exact h
end
/-- The first t pages are there. -/
def HgTo (w : World) (g : Nat) (H : List (List Nat)) (t : Nat) : Prop := ∃ cs : List Value, Blk w g 30 cs ∧ cs.length = H.length ∧ ∀ (i : Nat) b, i < t → H[i]? = some b → ∃ h o c, cs[i]? = some (.slice (some ⟨h, o, none⟩) 96 c) ∧ 96 ≤ c ∧ Trk b ∧ Byt w (some ⟨h, o, none⟩) b
theorem HgTo.old {w w' : World} {g t : Nat} {H : List (List Nat)} (x : HgTo w g H t) (m : Old w w') : HgTo w' g H t := by
  obtain ⟨cs, hb, hl, hs⟩ := x
  refine ⟨cs, hb.touch m (fun q => q), hl, fun i b ht hi => ?_⟩
  obtain ⟨h, o, c, h1, h2, h3, h4⟩ := hs i b ht hi
  exact ⟨h, o, c, h1, h2, h3, h4.keep fun k cs hk => hk.touch m (fun q => q)⟩
theorem HgTo.cell {w : World} {g t i : Nat} {H : List (List Nat)} (x : HgTo w g H t) (hi : i < H.length) : ∃ v, w.cell? ⟨g, i, none⟩ = some v ∧ w.frozen? ⟨g, i, none⟩ = false := by
  obtain ⟨cs, hb, hl, hs⟩ := x
  exact ⟨_, (hb.cell i).trans (List.getElem?_eq_getElem (by omega)), hb.frozen i⟩
theorem HgTo.set {w : World} {g t h o c : Nat} {H : List (List Nat)} {b : List Nat} (x : HgTo w g H t) (hb : H[t]? = some b) (hc : 96 ≤ c) (hT : Trk b) (hB : Byt w (some ⟨h, o, none⟩) b) : HgTo (w.setCell ⟨g, t, none⟩ (.slice (some ⟨h, o, none⟩) 96 c)) g H (t + 1) := by
  obtain ⟨cs, hk, hl, hs⟩ := x
  have T := Touch.one (w := w) ⟨g, t, none⟩ (.slice (some ⟨h, o, none⟩) 96 c)
  have k5 : ∀ i ds, Blk w i 5 ds → Blk (w.setCell ⟨g, t, none⟩ (.slice (some ⟨h, o, none⟩) 96 c)) i 5 ds := fun i ds hd => hd.touch T (hd.ne hk (by decide))
  refine ⟨_, hk.set t _, by rw [List.length_set, hl], fun i y hi hy => ?_⟩
  by_cases e : t = i
  · subst e
    rw [hb] at hy
    injection hy with hy
    subst hy
    exact ⟨h, o, c, by rw [List.getElem?_set_self (by rw [hl]; exact lt_of_get hb)], hc, hT, hB.keep k5⟩
  · obtain ⟨h', o', c', q1, q2, q3, q4⟩ := hs i y (by omega) hy
    exact ⟨h', o', c', by rw [List.getElem?_set_ne e]; exact q1, q2, q3, q4.keep k5⟩
theorem HgTo.all {w : World} {g : Nat} {H : List (List Nat)} (x : HgTo w g H H.length) : PgC w g H := by
  obtain ⟨cs, hk, hl, hs⟩ := x
  exact ⟨cs, hk, hl, fun i b hi => hs i b (lt_of_get hi) hi⟩

theorem two_new (w : World) : Blk ((w.alloc (.cells noRecs.toArray 69)).alloc (.cells noPlaces.toArray 71)) w.heap.size 69 noRecs ∧ Blk ((w.alloc (.cells noRecs.toArray 69)).alloc (.cells noPlaces.toArray 71)) (w.heap.size + 1) 71 noPlaces ∧ Old w ((w.alloc (.cells noRecs.toArray 69)).alloc (.cells noPlaces.toArray 71)) := by
  have T1 : Old w (w.alloc (.cells noRecs.toArray 69)) := (Touch.refl _ w).alloc _
  have T2 : Old (w.alloc (.cells noRecs.toArray 69)) ((w.alloc (.cells noRecs.toArray 69)).alloc (.cells noPlaces.toArray 71)) := (Touch.refl _ _).alloc _
  refine ⟨(Blk.new w 69 noRecs).touch T2 (fun q => q), ?_, T1.trans T2⟩
  have := Blk.new (w.alloc (.cells noRecs.toArray 69)) 71 noPlaces
  rwa [World.size_alloc] at this
theorem ReadAns.form {H : List (List Nat)} {w w' : World} {x : Ending} (ht : ∀ b ∈ H, Trk b) (h0 : 0 < H.length) (h : ReadAns H w x w') : ∃ (vr vp : List Value) (o : Bool), x = .returned (.tuple #[.agg vr.toArray, .agg vp.toArray, .bool o]) ∧ Old w w' ∧ vr.length = 82 ∧ vp.length = 41 ∧ (∀ v ∈ vr, v.oneCell' = true) ∧ (∀ v ∈ vp, v.oneCell' = true) ∧
    (o = false → ∀ rs a, ¬ Reading H rs a) ∧ (o = true → ∃ rs a, Reading H rs a ∧ RV w' rs vr ∧ PV w' a vp) := by
  obtain ⟨O, ⟨rfl, hno⟩ | ⟨rs, a, vr, vp, hrd, rfl, hrv, hpv⟩⟩ := h
  · exact ⟨noRecs, noPlaces, false, rfl, O, noRecs_length, rfl, (rv0 w').one, (pv0 w').one, fun _ => hno, fun e => (by cases e)⟩
  · have hV := ids_vld ht h0 hrd.1
    exact ⟨vr, vp, true, rfl, O, by rw [hrv.1, hV.r41], by rw [hpv.1, hV.a41], hrv.one, hpv.one, fun e => (by cases e), fun _ => ⟨rs, a, hrd, hrv, hpv⟩⟩
/-- A ledger that was opened: its home is H. -/
structure OkL (lp : Nat) (H : List (List Nat)) (w : World) : Prop where
  pos : 0 < H.length
  few : H.length ≤ 120
  head : ∃ d g L, Blk w lp 129 (lhead d g L) ∧ L.ws.length = H.length
  trk : ∀ b ∈ H, Trk b
  look : ∀ w1, Old w w1 → ∀ (k : Nat) b, H[k]? = some b → Calls Tryz.prog 49 #[.pointer (some ⟨lp, 0, none⟩), .int .i64 k] w1 (LookedL b w1)
/-- What is asked of the ledger's Open. -/
def OpenOk (dv : Value) (RB : Nat → World → Prop) (RG : Nat → List (List Nat) → World → Prop) (w : World) : Prop := Calls Tryz.prog 47 #[dv] w fun y w1 =>
  (∃ e : Nat, e ≠ 0 ∧ y = .returned (.tuple #[.pointer none, .int .i64 (e : Int)]) ∧ RB e w1) ∨ ∃ lp H, y = .returned (.tuple #[.pointer (some ⟨lp, 0, none⟩), .int .i64 0]) ∧ OkL lp H w1 ∧ RG lp H w1
/-- What Open answers. -/
def OpenAns (RB : Nat → World → Prop) (RG : Nat → List (List Nat) → World → Prop) (y : Ending) (w' : World) : Prop :=
  (∃ e : Nat, e ≠ 0 ∧ y = .returned (.tuple #[.pointer none, .int .i64 (e : Int)]) ∧ RB e w') ∨
  ∃ lp H w1, RG lp H w1 ∧ OkL lp H w1 ∧ Old w1 w' ∧ ((y = .returned (.tuple #[.pointer none, .int .i64 11]) ∧ ∀ rs a, ¬ Reading H rs a) ∨
    ∃ vp x rs a, Reading H rs a ∧ y = .returned (.tuple #[.pointer (some ⟨vp, 0, none⟩), .int .i64 0]) ∧ VM w' vp lp x H.length rs rs a ∧ w1.heap.size ≤ vp ∧ w1.heap.size ≤ x)
set_option maxHeartbeats 6400000 in
theorem vopen_any (dv : Value) (w : World) (RB : Nat → World → Prop) (RG : Nat → List (List Nat) → World → Prop) (hO : OpenOk dv RB RG w) : Calls Tryz.prog 17 #[dv] w (OpenAns RB RG) := by
  have HO : Hid (Calls Tryz.prog 47 #[dv] w fun y w1 => (∃ e : Nat, e ≠ 0 ∧ y = .returned (.tuple #[.pointer none, .int .i64 (e : Int)]) ∧ RB e w1) ∨ ∃ lp H, y = .returned (.tuple #[.pointer (some ⟨lp, 0, none⟩), .int .i64 0]) ∧ OkL lp H w1 ∧ RG lp H w1) := hO
  clear hO
  go_enter Tryz.func17, Tryz.ntmps17
  go_wp2_with fail
  refine HO.out.mono ?_
  rintro y w1 (⟨e, he, rfl, hb⟩ | ⟨lp, H, rfl, hG, hR⟩)
  · have HB := Lib.hid hb
    have he1 : ((e : Int) == 0) = false := by simp only [beq_eq_false_iff_ne]; omega
    have he2 : ((e : Int) != 0) = true := by simp only [bne_iff_ne, ne_eq]; omega
    clear hb
    go_wp2_with fail
    go_ret2
    exact .inl ⟨e, he, rfl, HB.out⟩
  · have HG := Lib.hid hG
    have HRG := Lib.hid hR
    obtain ⟨m, hm⟩ : ∃ m, H.length = m := ⟨_, rfl⟩
    have HHm := Lib.hid hm
    have hm1 : 0 < m ∧ m ≤ 120 := by rw [← hm]; exact ⟨hG.pos, hG.few⟩
    obtain ⟨d1, g1, L1, hd1, hl1⟩ := hG.head
    have HHd := Lib.hid hd1
    rw [hm] at hl1
    have HHl := Lib.hid hl1
    have HHo : Hid (∀ w2, Old w1 w2 → Calls Tryz.prog 48 #[.pointer (some ⟨lp, 0, none⟩)] w2 fun y w' => y = .returned (.int .i64 (m : Int)) ∧ w2 = w') := fun w2 O => by
      have := home_any (HHd.out.touch O (fun q => q))
      rwa [HHl.out] at this
    have hmk := make_pages m (by omega) w1
    have T1 : Old w1 (w1.alloc (.cells (nils m).toArray 30)) := (Touch.refl _ w1).alloc _
    have hmn : ¬ (m : Int) < 0 := by omega
    have hm0 : (0 : Int) < (m : Int) := by omega
    have HN0 : Hid (HgTo (w1.alloc (.cells (nils m).toArray 30)) w1.heap.size H 0) := ⟨nils m, Blk.new w1 30 (nils m), by rw [HHm.out]; simp [nils], fun i b hi => absurd hi (Nat.not_lt_zero _)⟩
    have HO0 := Lib.hid T1
    clear hG hR hm hd1 hl1 T1 HO
    go_wp2_with (first | ((with_reducible refine (HHo.out _ (Touch.refl _ _)).mono ?_); rintro y w' ⟨rfl, rfl⟩))
    clear hmk
    obtain ⟨gp, hgp⟩ : ∃ gp, w1.heap.size = gp := ⟨_, rfl⟩
    rw [hgp] at HN0 ⊢
    have HGp := Lib.hid hgp
    clear hgp
    generalize w1.alloc (.cells (nils m).toArray 30) = w2 at *
    go_loopw [24] (fun i wx => ∃ t : Nat, t ≤ m ∧ i = .int .i64 t ∧ Hid (HgTo wx gp H t) ∧ Hid (Old w1 wx)) (fun i _ => m - (intOf i).toNat)
    case atStart => exact ⟨0, by omega, rfl, HN0, HO0⟩
    case round =>
      obtain ⟨t, ht, rfl, HN, HO⟩ := hrel
      clear HN0 HO0
      by_cases hlt : t < m
      · obtain ⟨b, hb⟩ := get_of_lt (l := H) (n := t) (by rw [HHm.out]; exact hlt)
        have HLk := Lib.hid (HG.out.look wr HO.out t b hb)
        have HBt := Lib.hid hb
        have HTb := Lib.hid (HG.out.trk b (mem_of_get hb))
        have j0 : (0 : Int) ≤ (t : Int) := by omega
        have j1 : (t : Int) < (m : Int) := by omega
        clear hb
        go_wp2_with (first
          | ((with_reducible refine HLk.out.mono ?_); rintro y w3 ⟨hh, ho, c, rfl, hl, B3, O3, hc3⟩
             have HB3 := Lib.hid B3
             have HN3 := Lib.hid (HN.out.old O3)
             have HO3 := Lib.hid (HO.out.trans O3)
             have HC3 := Lib.hid hc3
             obtain ⟨z, hz, hfz⟩ := HN3.out.cell (i := t) (by rw [HHm.out]; exact hlt)
             clear B3 O3 hc3 hl))
        have HNn : Hid (HgTo (w3.setCell ⟨gp, t, none⟩ (.slice (some ⟨hh, ho, none⟩) 96 c)) gp H (t + 1)) := HN3.out.set HBt.out HC3.out HTb.out HB3.out
        have HOn : Hid (Old w1 (w3.setCell ⟨gp, t, none⟩ (.slice (some ⟨hh, ho, none⟩) 96 c))) := HO3.out.setCell (.inr (by show w1.heap.size ≤ gp; rw [HGp.out]; exact Nat.le_refl _)) _
        exact ⟨⟨t + 1, by omega, by go_num, HNn, HOn⟩, by simp [intOf]; omega⟩
      · obtain rfl : t = m := by omega
        have HPg : Hid (PgC wr gp H) := by have := HN.out; rw [← HHm.out] at this; exact this.all
        have HRd := Lib.hid (read_all gp t H wr HPg.out HHm.out hm1.1 (by omega))
        clear HN
        go_upto_region 13 with (first
          | ((with_reducible refine HRd.out.mono ?_); intro y w3 hA
             obtain ⟨vr, vp, o, rfl, O3, l1, l2, o1, o2, hno, hyes⟩ := hA.form HG.out.trk HG.out.pos
             have HL1 := Lib.hid l1
             have HL2 := Lib.hid l2
             have HO1 := Lib.hid o1
             have HO2 := Lib.hid o2
             have HNo := Lib.hid hno
             have HYes := Lib.hid hyes
             have HO3 := Lib.hid (HO.out.trans O3)
             clear hA l1 l2 o1 o2 hno hyes O3)
          | (with_reducible refine wpList_alloc_recs (op := ⟨some 8, _, _, _, _, _⟩) rfl rfl ?_)
          | ((with_reducible refine wpList_alloc_places (op := ⟨some 9, _, _, _, _, _⟩) rfl rfl ?_)
             have HT4 := Lib.hid (two_new w3)
             generalize (w3.alloc (.cells noRecs.toArray 69)).alloc (.cells noPlaces.toArray 71) = w4 at *
             obtain ⟨n8, hn8⟩ : ∃ n, w3.heap.size = n := ⟨_, rfl⟩
             rw [World.size_alloc]
             rw [hn8] at HT4 ⊢
             obtain ⟨n9, hn9⟩ : ∃ n, n8 + 1 = n := ⟨_, rfl⟩
             rw [hn9] at HT4 ⊢
             have HN89 : Hid (n8 < n9 ∧ w3.heap.size = n8) := ⟨by omega, hn8⟩
             clear hn8 hn9)
          | ((with_reducible refine wpList_store_cells (op := ⟨none, .store 69 _ _, _, _, _, _⟩) rfl 69 (.tmp 8) (.tmp 43) rfl n8 0 vr rfl rfl (by rw [HL1.out]; exact sizeR) HO1.out 69 noRecs (by rw [HL1.out, noRecs_length]; exact Nat.le_refl _) HT4.out.1 ?_); intro w5 K5 T5
             have HB6 := Lib.hid (HT4.out.2.1.touch T5 (by have := HN89.out; intro e; have e' : n9 = n8 := e; omega)))
          | ((with_reducible refine wpList_store_cells (op := ⟨none, .store 71 _ _, _, _, _, _⟩) rfl 71 (.tmp 9) (.tmp 44) rfl n9 0 vp rfl rfl (by rw [HL2.out]; exact sizeP) HO2.out 71 noPlaces (by rw [HL2.out, noPlaces_length]; exact Nat.le_refl _) HB6.out ?_); intro w6 K6 T6))
        rw [splice_all (by rw [HL1.out, noRecs_length])] at K5
        rw [splice_all (by rw [HL2.out, noPlaces_length])] at K6
        have HK8 := Lib.hid (K5.touch T6 (by have := HN89.out; omega))
        have HK9 := Lib.hid K6
        have HO34 := HT4.out.2.2
        have hsz : w3.heap.size = n8 := HN89.out.2
        have HO46 : Hid (Old w3 w6) := (HO34.own T5 (by rw [hsz]; exact Nat.le_refl _)).own T6 (by rw [hsz]; have := HN89.out; omega)
        have HO6 := Lib.hid (HO3.out.trans HO46.out)
        have HHh := Lib.hid (HHo.out w6 HO6.out)
        clear HO34 hsz HB6 HT4 K5 T5 K6 T6
        cases o with
        | false =>
          go_wp2_with fail
          go_ret2
          exact .inr ⟨lp, H, w1, HRG.out, HG.out, HO6.out, .inl ⟨rfl, HNo.out trivial⟩⟩
        | true =>
          obtain ⟨rs, a, hrd, hrv, hpv⟩ := HYes.out rfl
          have HRd' := Lib.hid hrd
          have HRv := Lib.hid (hrv.old HO46.out)
          have HPv := Lib.hid (hpv.old HO46.out)
          have HVd : Hid (Vld rs a t ∧ Holds H (layM rs a)) := by
            have := hrd.vld HG.out.trk HG.out.pos
            rw [HHm.out] at this
            exact this
          clear hrd hrv hpv HYes HNo
          go_upto_region 15 with fail
          have hS0 : w6.drew.rangeAt n8 0 vr ∧ w6.drew.rangeAt n9 0 vp := ⟨blk_range (xs := []) HK8.out, blk_range (xs := []) HK9.out⟩
          have TD : Old w6 w6.drew := (Touch.refl _ w6).drew
          have HHd6 := Lib.hid (HHo.out w6.drew (HO6.out.trans TD))
          have HLb := Lib.hid (leftBy_any n8 0 t rs w6.drew ((HRv.out.old TD).at_ (A := []) (B := []) (by have := HK8.out.touch TD (fun q => q); simpa using this)) HVd.out.1.rsOk HVd.out.1.fits (by omega))
          have HTD := Lib.hid TD
          clear TD HHh
          refine wp_region_held_drew (S := fun w' => w'.rangeAt n8 0 vr ∧ w'.rangeAt n9 0 vp) (by kernel_rfl) hS0 (fun hHeld => ?_)
          refine wpAnyH_take (i := 0) (oi := ⟨some 48, _, _, _, _, _⟩) (v := .pointer (some ⟨lp, 0, none⟩)) rfl (by kernel_rfl) (by kernel_rfl) (by kernel_rfl) (fun _ _ _ h => h) (Or.inl ⟨by rfl, fun w _ => by rfl⟩) hHeld ?_
          simp only [Act.put, List.setIfInBounds_toArray, List.set_cons_zero, List.set_cons_succ]
          refine wpAnyH_take (i := 1) (oi := ⟨some 49, _, _, _, _, _⟩) (v := .agg vr.toArray) rfl (by kernel_rfl) (by kernel_rfl) (by kernel_rfl) (fun _ _ _ h => h) (yieldsIf_load_mid (by rfl) 69 (.tmp 8) rfl n8 0 rfl vr _ (fun w hSw => hSw.1) Tryz.underlying69 rfl (by rw [sizeR, HL1.out])) hHeld ?_
          simp only [Act.put, List.setIfInBounds_toArray, List.set_cons_zero, List.set_cons_succ]
          refine wpAnyH_take (i := 2) (oi := ⟨some 50, _, _, _, _, _⟩) (v := .agg vr.toArray) rfl (by kernel_rfl) (by kernel_rfl) (by kernel_rfl) (fun _ _ _ h => h) (yieldsIf_load_mid (by rfl) 69 (.tmp 8) rfl n8 0 rfl vr _ (fun w hSw => hSw.1) Tryz.underlying69 rfl (by rw [sizeR, HL1.out])) hHeld ?_
          simp only [Act.put, List.setIfInBounds_toArray, List.set_cons_zero, List.set_cons_succ]
          refine wpAnyH_take (i := 3) (oi := ⟨some 51, _, _, _, _, _⟩) (v := .agg vp.toArray) rfl (by kernel_rfl) (by kernel_rfl) (by kernel_rfl) (fun _ _ _ h => h) (yieldsIf_load_mid (by rfl) 71 (.tmp 9) rfl n9 0 rfl vp _ (fun w hSw => hSw.2) Tryz.underlying71 rfl (by rw [sizeP, HL2.out])) hHeld ?_
          simp only [Act.put, List.setIfInBounds_toArray, List.set_cons_zero, List.set_cons_succ]
          refine wpAnyH_take (i := 4) (oi := ⟨some 52, _, _, _, _, _⟩) (v := .pointer (some ⟨lp, 0, none⟩)) rfl (by kernel_rfl) (by kernel_rfl) (by kernel_rfl) (fun _ _ _ h => h) (Or.inl ⟨by rfl, fun w _ => by rfl⟩) hHeld ?_
          simp only [Act.put, List.setIfInBounds_toArray, List.set_cons_zero, List.set_cons_succ]
          refine wpAnyH_ready (rs := [5]) (by kernel_rfl) (by simp) (AllReadyH.cons (o := ⟨some 53, _, _, _, _, _⟩) rfl (fun K hK => ?_) AllReadyH.nil)
          go_simp
          with_reducible refine HHd6.out.mono ?_
          rintro y w' ⟨rfl, rfl⟩
          refine hK.out _ _ hS0 (fun hHeld => ?_)
          clear hK K
          try simp only [Act.put, List.setIfInBounds_toArray, List.set_cons_zero, List.set_cons_succ]
          refine wpAnyH_ready (rs := [6]) (by kernel_rfl) (by simp) (AllReadyH.cons (o := ⟨some 54, _, _, _, _, _⟩) rfl (fun K hK => ?_) AllReadyH.nil)
          go_simp
          with_reducible refine HLb.out.mono ?_
          rintro y w7 ⟨x, rfl, hx, Kx, O7⟩
          have hS1 : w7.rangeAt n8 0 vr ∧ w7.rangeAt n9 0 vp := ⟨blk_range (xs := []) ((HK8.out.touch HTD.out (fun q => q)).touch O7 (fun q => q)), blk_range (xs := []) ((HK9.out.touch HTD.out (fun q => q)).touch O7 (fun q => q))⟩
          refine hK.out _ _ hS1 (fun hHeld => ?_)
          clear hK K
          try simp only [Act.put, List.setIfInBounds_toArray, List.set_cons_zero, List.set_cons_succ]
          refine wpAnyH_ready (rs := [7]) (by kernel_rfl) (by simp) (AllReadyH.cons (o := ⟨some 55, _, _, _, _, _⟩) rfl (fun K hK => ?_) AllReadyH.nil)
          refine step_buildV rfl (.tmp 48) (.tmp 49) (.tmp 50) (.tmp 51) (.tmp 54) rfl lp x vr vr vp rfl rfl rfl rfl rfl HL1.out HL1.out HL2.out (hK.out _ _ hS1 (fun hHeld => ?_))
          clear hK K
          simp only [Act.put, List.setIfInBounds_toArray, List.set_cons_zero, List.set_cons_succ]
          refine wpAnyH_ready (rs := [8]) (by kernel_rfl) (by simp) (AllReadyH.cons (o := ⟨some 56, _, _, _, _, _⟩) rfl (fun K hK => ?_) AllReadyH.nil)
          have hS2 : (w7.alloc (.cells (vcells lp vr vr vp x).toArray 74)).rangeAt n8 0 vr ∧ (w7.alloc (.cells (vcells lp vr vr vp x).toArray 74)).rangeAt n9 0 vp := ⟨blk_range (xs := []) (((HK8.out.touch HTD.out (fun q => q)).touch O7 (fun q => q)).touch ((Touch.refl (fun _ => False) w7).alloc _) (fun q => q)), blk_range (xs := []) (((HK9.out.touch HTD.out (fun q => q)).touch O7 (fun q => q)).touch ((Touch.refl (fun _ => False) w7).alloc _) (fun q => q))⟩
          refine step_boxV rfl (.tmp 55) rfl (vcells lp vr vr vp x) rfl (hK.out _ _ hS2 (fun hHeld => ?_))
          clear hK K
          simp only [Act.put, List.setIfInBounds_toArray, List.set_cons_zero, List.set_cons_succ]
          refine wpAnyH_take (i := 9) (oi := ⟨some 2, _, _, _, _, _⟩) (v := .pointer (some ⟨w7.heap.size, 0, none⟩)) rfl (by kernel_rfl) (by kernel_rfl) (by kernel_rfl) (fun _ _ _ h => h) (Or.inl ⟨by rfl, fun w _ => by rfl⟩) hHeld ?_
          simp only [Act.put, List.setIfInBounds_toArray, List.set_cons_zero, List.set_cons_succ]
          refine wpAnyH_take (i := 10) (oi := ⟨some 3, _, _, _, _, _⟩) (v := .int .i64 0) rfl (by kernel_rfl) (by kernel_rfl) (by kernel_rfl) (fun _ _ _ h => h) (Or.inl ⟨by rfl, fun w _ => by rfl⟩) hHeld ?_
          simp only [Act.put, List.setIfInBounds_toArray, List.set_cons_zero, List.set_cons_succ]
          refine wpAnyH_done (by kernel_rfl) ?_ _
          go_wp2_with fail
          go_ret2
          have OA : Old w7 (w7.alloc (.cells (vcells lp vr vr vp x).toArray 74)) := (Touch.refl _ w7).alloc _
          have O6A := (HTD.out.trans O7).trans OA
          have hs7 : w1.heap.size ≤ w7.heap.size := Nat.le_trans HO6.out.size (Nat.le_trans HTD.out.size O7.size)
          refine .inr ⟨lp, H, w1, HRG.out, HG.out, HO6.out.trans O6A, .inr ⟨w7.heap.size, x, rs, a, HRd'.out, rfl, ?_, hs7, Nat.le_trans HO6.out.size (Nat.le_trans HTD.out.size hx)⟩⟩
          rw [HHm.out]
          exact ⟨⟨vr, vr, vp, Blk.new w7 74 _, HRv.out.old O6A, HRv.out.old O6A, HPv.out.old O6A⟩, Kx.touch OA (fun q => q), HVd.out.1.rsOk, HVd.out.1, HVd.out.1.fits, hm1.2⟩
end Go.Proofs.YtjajenkagcdhlaaGreat
/- Found of a vault. -/
namespace Go.Proofs.YtjajenkagcdhlaaGreat
open Go.RowKit
set_option maxRecDepth 100000

theorem rs0_vld {h : Nat} (hh : 0 < h) : Vld rs0 ps0 h := by
  refine ⟨rfl, rfl, rfl, fun i r ks h1 h2 => ?_, by decide, fun k hk => ?_, hh⟩
  · have hi : i < 41 := by have := lt_of_get h1; simpa [rs0] using this
    unfold rs0 at h1
    unfold ps0 at h2
    rw [List.getElem?_replicate, if_pos hi] at h1 h2
    injection h1 with h1
    injection h2 with h2
    subst h1 h2
    rfl
  · exact absurd hk (by have : ps0.flatten = [] := by decide
                        rw [this]
                        exact List.not_mem_nil)
theorem layM0 : layM rs0 ps0 = [(0, rootPage ps0)] := rfl
/-- Home, where nothing was kept. -/
def home0 (h : Nat) : List (List Nat) := tookH (zeroH h) [(0, rootPage ps0)]
theorem home0_holds {h : Nat} (hh : 0 < h) : Holds (home0 h) (layM rs0 ps0) := by
  intro x hx
  rw [layM0, List.mem_singleton] at hx
  subst hx
  show ((zeroH h).set 0 (rootPage ps0))[0]? = some (rootPage ps0)
  rw [List.getElem?_set_self (by simp [zeroH]; exact hh)]
theorem wpList_box_places {ops : Array Oper} {rest : List Oper} {op : Oper} {a : Act} {w : World} {Q : Exit → Act → World → Prop} (hgd : op.guard = none) (x : Operand) (ho : op.op = .box 71 x) (vs : List Value) (hx : a.eval x = .agg vs.toArray)
    (h : wpList Tryz.prog ops Q rest (a.put op.dst (.pointer (some ⟨w.heap.size, 0, none⟩))) (w.alloc (.cells vs.toArray 71))) : wpList Tryz.prog ops Q (op :: rest) a w := wpList_box_agg hgd 71 x ho vs hx h

theorem sail_new {w0 : Fr} {w : World} {lp d g l h n : Nat} {b : Bl} (hn : n = 2 + l + h) (hl : 5 ≤ l) (hh : 3 ≤ h) (hm : n ≤ 120) (A : LAt w0 lp d b g (newL n l) w) : Sail w0 lp d l h 0 true (fun X => X = zeroH h) (zeroH h) w := by
  obtain ⟨F, Lv, hA⟩ := newL_live hn hl hh (by omega)
  have ht := newL_turns (n := n) (l := l) (by omega) (by omega)
  have h0 : (newL n l).calm = newL n l := by unfold LS.calm DS.calm; rw [← Lv.quiet.left]
  refine ⟨g, b, _, 2, zeroH h, [], [], A, Lv.quiet.down, by rw [h0]; exact RunL.fresh Lv hA, fun _ => Lv.quiet.left, fun X ⟨j, hj, hX⟩ => ?_, rfl, by simp [zeroH], Nat.le_refl _, Nat.zero_le _, by omega⟩
  have : j = 0 := Nat.le_zero.1 hj
  subst this
  exact hX

section
variable {w : World} {d n l h : Nat} {w0 : Fr} {b : Bl}
set_option maxHeartbeats 3200000 in
theorem vfound_any (S : St w0 d b (DS.new n) w) (hn : n = 2 + l + h) (hl : 5 ≤ l) (hh : 3 ≤ h) (hm : n ≤ 120) : Calls Tryz.prog 37 #[.pointer (some ⟨d, 0, none⟩), .int .i64 (l : Int)] w fun y w' =>
    y = .returned (.int .i64 0) ∧ KeptL w w' ∧ ∃ lp, Sail w0 lp d l h 2 true (fun X => X = home0 h) (home0 h) w' := by
  obtain ⟨F, Lv, hA⟩ := newL_live hn hl hh (by omega)
  have hT : (DS.new n).T.length = n := by simp [DS.new]
  have HF := Lib.hid (found_any S (by show 0 ≤ 90000; omega) l (by rw [hT]; exact F.fits))
  have hb : ((DS.new n).run (foundT l)).bad = 0 := F.bad
  rw [hb] at HF
  have HFs := Lib.hid F
  have HNw : Hid (∀ w' lp b g, LAt w0 lp d b g (newL n l) w' → Sail w0 lp d l h 0 true (fun X => X = zeroH h) (zeroH h) w') := fun w' lp b g A => sail_new hn hl hh hm A
  have hl2 : 2 + l + h ≤ 120 := by omega
  clear F Lv hA hT hb S
  go_enter Tryz.func37, Tryz.ntmps37
  go_wp2_with fail
  refine HF.out.mono ?_
  rintro y w1 ⟨rfl, ⟨b1, S1⟩, K1, _⟩
  have HK1 := Lib.hid (KeptL.of_kept K1)
  have HO := Lib.hid (open_any S1 (by have h1 := DS.run_turns (DS.new n) (foundT l); rw [show (foundT l).length = l + 5 by simp [foundT, beginT]; omega, show (DS.new n).turns = 0 from rfl] at h1; omega))
  clear S1 K1 HF
  go_wp2_with fail
  refine HO.out.mono ?_
  rintro y w2 ⟨K2, _, ⟨b2, _, hne, _⟩ | ⟨k, lp, g2, b2, hk, _, _, rfl, A2⟩⟩
  · exact absurd HFs.out.opens hne
  have hk1 : k = 1 := by
    have := HFs.out.cover
    unfold newD at this
    rw [this] at hk
    injection hk with hk
    exact hk.symm
  subst hk1
  have HS2 := Lib.hid (HNw.out w2 lp b2 g2 A2)
  have HK2 := Lib.hid (HK1.out.trans K2)
  clear A2 K2 HO HK1 hk HNw
  go_upto_region 8 with (first
    | (with_reducible refine wpList_build_places (op := ⟨some 24, _, _, _, _, _⟩) rfl rfl ?_)
    | ((with_reducible refine wpList_box_places (op := ⟨some 25, _, _, _, _, _⟩) rfl (.tmp 24) rfl noPlaces rfl ?_)
       have OA : Old w2 (w2.alloc (.cells noPlaces.toArray 71)) := (Touch.refl _ w2).alloc _
       have KA := Blk.new w2 71 noPlaces
       have HLr := Lib.hid (layRoot_any w2.heap.size 0 ps0 _ ((pv0 _).at_ (A := []) (B := []) (by simpa using KA)) rfl (fun ks hks => by
         have := (List.mem_replicate.1 hks).2
         subst this
         decide))
       have HOA := Lib.hid OA
       clear OA KA)
    | ((with_reducible refine HLr.out.mono ?_); rintro y w4 ⟨g4, rfl, hg4, Ow4, O4⟩
       have HOw := Lib.hid Ow4
       have HO4 := Lib.hid (HOA.out.trans O4)
       clear hg4 Ow4 O4))
  have O5 : Old w4 (w4.alloc (.cells #[Value.int .i64 0, .slice (some ⟨g4, 0, none⟩) 96 96] 115)) := (Touch.refl _ w4).alloc _
  have K5 := Blk.new w4 115 [Value.int .i64 0, .slice (some ⟨g4, 0, none⟩) 96 96]
  have HS5 := Lib.hid (HS2.out.old (HO4.out.trans O5))
  have hTr : Trk (rootPage ps0) := rootPage_trk rfl
  have En : Ents (w4.alloc (.cells #[Value.int .i64 0, .slice (some ⟨g4, 0, none⟩) 96 96] 115)) (some ⟨w4.heap.size, 0, none⟩) [(0, rootPage ps0)] := Ents.one (k := 0) hTr.len K5 (Nat.le_refl _) (HOw.out.byt.old O5)
  have hGo : Goes [(0, rootPage ps0)] h := by
    refine ⟨fun x hx => ?_, by simp, by decide⟩
    rw [List.mem_singleton] at hx
    subst hx
    exact ⟨by show 0 < h; omega, hTr.len⟩
  have HW := Lib.hid (sail_write HS5.out (by omega) hl2 _ [(0, rootPage ps0)] 1 1 En rfl (by omega) (fun x hx => by rw [List.mem_singleton] at hx; subst hx; exact hTr))
  have HGo := Lib.hid hGo
  have HO5 := Lib.hid (HO4.out.trans O5)
  clear O5 K5 En hTr hGo HO4 HOw HOA HS5
  refine HW.out.mono ?_
  rintro y w6 ⟨E, rfl, K6, hWr⟩
  have hE : E = 0 ∧ Sail w0 lp d l h 1 true (fun X => X = zeroH h ∨ X = home0 h) (home0 h) w6 := by
    rcases hWr with ⟨_, q, _⟩ | ⟨_, q, _⟩ | ⟨q, _, S6⟩ | ⟨_, q, _⟩
    · exact absurd HGo.out q
    · have : leavesOf [(0, rootPage ps0)].length = 2 := by decide
      omega
    · exact ⟨q, S6⟩
    · cases q
  obtain ⟨rfl, S6⟩ := hE
  have HBa := Lib.hid (sail_balance S6 (by omega) hl2)
  have HK6 : Hid (KeptL w w6) := (HK2.out.trans (KeptL.of_old HO5.out)).trans K6
  clear S6 K6 hWr HW HS2
  go_wp2_with (first
    | ((with_reducible refine HBa.out.mono ?_); rintro y w7 ⟨K7, ⟨rfl, S7⟩ | ⟨_, q, _⟩⟩
       case inr => cases q
       have HS7 := Lib.hid S7
       have HK7 := Lib.hid (HK6.out.trans K7)
       clear S7 K7))
  go_ret
  exact ⟨rfl, HK7.out, lp, HS7.out⟩
end
end Go.Proofs.YtjajenkagcdhlaaGreat
/- A law's vault on its drum. -/
namespace Go.Proofs.YtjajenkagcdhlaaGreat
open Go.RowKit
set_option maxRecDepth 100000

theorem Touch.onto {S : Nat → Prop} {a b c : World} (h : Old a b) (m : Touch S b c) (hs : ∀ k, S k → a.heap.size ≤ k) : Old a c :=
  ⟨m.os.trans h.os, m.tape.trans h.tape, m.output.trans h.output, Nat.le_trans h.size m.size, fun k hk _ => (m.block k (Nat.lt_of_lt_of_le hk h.size) (fun q => by have := hs k q; omega)).trans (h.block k hk (fun q => q))⟩
section
variable {w0 : World} {w w' : World} {vp lp d g x x' l h t : Nat} {b : Bl} {L : LS} {bs bs' vs : List Value} {q : Bool} {P : Hom → Prop} {N : Hom}
/-- The vault's own memory turns, the ledger's does not. -/
theorem LAt.vt (A : LAt ⟨w0, [(x, bs)]⟩ lp d b g L w) (T : Touch (fun i => i = vp ∨ i = x) w w') (hv : Blk w vp 74 vs) (n1 : w0.heap.size ≤ vp) (n2 : w0.heap.size ≤ x) (hx : x' = x ∨ w.heap.size ≤ x') (hb : Blk w' x' 120 bs') : LAt ⟨w0, [(x', bs')]⟩ lp d b g L w' := by
  have ha := A.st.aside (x, bs) (by simp)
  have hS : ∀ t i cs, t ≠ 74 → t ≠ 120 → Blk w i t cs → ¬ (i = vp ∨ i = x) := fun t i cs h1 h2 hi e => by
    rcases e with e | e
    · exact hi.ne hv h1 e
    · exact hi.ne ha.1 h2 e
  obtain ⟨cs, hc⟩ := A.wri.blk
  refine ⟨⟨A.st.dr.touch T (fun i hi e => ?_), Touch.onto A.st.old T (fun k hk => ?_), A.st.new, fun p hp => ?_⟩, A.head.touch T (hS _ _ _ (by decide) (by decide) A.head), A.wri.keep (fun k ds hk => hk.touch T (hS _ _ _ (by decide) (by decide) hk)) (fun ds hk => hk.touch T (hS _ _ _ (by decide) (by decide) hk)), A.nl, A.ng⟩
  · rcases e with rfl | rfl
    · exact A.st.dr.not_foot hv (by unfold other; decide) hi
    · exact ha.2 hi
  · rcases hk with rfl | rfl
    · exact n1
    · exact n2
  · rw [List.mem_singleton] at hp
    subst hp
    refine ⟨hb, fun hf => ?_⟩
    rcases hx with rfl | hx
    · exact ha.2 hf
    · have := A.st.dr.at_.lt _ hf
      omega
theorem LAt.aside (A : LAt ⟨w0, []⟩ lp d b g L w) (o : Old w w') (hx : w.heap.size ≤ x') (hb : Blk w' x' 120 bs') : LAt ⟨w0, [(x', bs')]⟩ lp d b g L w' := by
  have A' := A.step o
  refine ⟨A'.st.base rfl (fun p hp => ?_), A'.head, A'.wri, A'.nl, A'.ng⟩
  rw [List.mem_singleton] at hp
  subst hp
  refine ⟨hb, fun hf => ?_⟩
  have := A.st.dr.at_.lt _ hf
  omega
theorem LAt.bare {X : List (Nat × List Value)} (A : LAt ⟨w0, X⟩ lp d b g L w) : LAt ⟨w0, []⟩ lp d b g L w := ⟨A.st.base rfl (fun p hp => by cases hp), A.head, A.wri, A.nl, A.ng⟩
theorem Sail.vt (A : Sail ⟨w0, [(x, bs)]⟩ lp d l h t q P N w) (T : Touch (fun i => i = vp ∨ i = x) w w') (hv : Blk w vp 74 vs) (n1 : w0.heap.size ≤ vp) (n2 : w0.heap.size ≤ x) (hx : x' = x ∨ w.heap.size ≤ x') (hb : Blk w' x' 120 bs') : Sail ⟨w0, [(x', bs')]⟩ lp d l h t q P N w' := by
  obtain ⟨g, b, L, r, H, fs, gs, h1, h2⟩ := A
  exact ⟨g, b, L, r, H, fs, gs, h1.vt T hv n1 n2 hx hb, h2⟩
theorem Sail.aside (A : Sail ⟨w0, []⟩ lp d l h t q P N w) (o : Old w w') (hx : w.heap.size ≤ x') (hb : Blk w' x' 120 bs') : Sail ⟨w0, [(x', bs')]⟩ lp d l h t q P N w' := by
  obtain ⟨g, b, L, r, H, fs, gs, h1, h2⟩ := A
  exact ⟨g, b, L, r, H, fs, gs, h1.aside o hx hb, h2⟩
theorem Sail.bare {X : List (Nat × List Value)} (A : Sail ⟨w0, X⟩ lp d l h t q P N w) : Sail ⟨w0, []⟩ lp d l h t q P N w := by
  obtain ⟨g, b, L, r, H, fs, gs, h1, h2⟩ := A
  exact ⟨g, b, L, r, H, fs, gs, h1.bare, h2⟩
theorem Wreck.bare {X : List (Nat × List Value)} (A : Wreck ⟨w0, X⟩ d l h t P w) : Wreck ⟨w0, []⟩ d l h t P w := by
  obtain ⟨b, D, h1, h2⟩ := A
  exact ⟨b, D, h1.base rfl (fun p hp => by cases hp), h2⟩
theorem Sail.head (A : Sail ⟨w0, [(x, bs)]⟩ lp d l h t q P N w) : ∃ g L, Blk w lp 129 (lhead d g L) ∧ L.ws.length = h ∧ L.lost = false := by
  obtain ⟨g, b, L, r, H, fs, gs, A, hd, R, hq, hP, hN, hh, hr, hc, hx⟩ := A
  exact ⟨g, L, A.head, by have h1 : L.ws.length = (tookHs H gs).length := R.live.hlen; rw [h1, hN, hh], R.live.lost⟩
/-- What is opened has a home. -/
theorem Sail.okL {fr : Fr} (A : Sail fr lp d l h t q P N w) (ht : t ≤ 300) (h0 : 0 < h) (hm : h ≤ 120) : OkL lp N w := by
  have hlen := A.len
  refine ⟨by omega, by omega, ?_, A.trk, fun w1 o k bs hk => ?_⟩
  · obtain ⟨g, b, L, r, H, fs, gs, A, hd, R, hq, hP, hN, hh, hr, hc, hx⟩ := A
    exact ⟨d, g, L, A.head, by have h1 : L.ws.length = (tookHs H gs).length := R.live.hlen; rw [h1, hN]⟩
  · obtain ⟨g, b, L, r, H, fs, gs, A, hd, R, hq, hP, hN, hh, hr, hc, hx⟩ := A.old o
    have hok := calm_ok (R.live.ok (by rw [List.length_append]; omega))
    have hws : L.ws.length = h := by have h1 : L.ws.length = (tookHs H gs).length := R.live.hlen; rw [h1, hN, hh]
    have hkl := lt_of_get hk
    have e1 := R.live.home (k := k) (by rw [hN]; exact hkl)
    rw [hN, hk] at e1
    injection e1 with e1
    rw [e1]
    exact look_home A hok R.live.lost hd k (by rw [hws, ← hh]; exact hkl)
end
end Go.Proofs.YtjajenkagcdhlaaGreat
/- What a law's vault answers. -/
namespace Go.Proofs.YtjajenkagcdhlaaGreat
open Go.RowKit
set_option maxRecDepth 100000

theorem recPages_trk : ∀ {ks : List Nat} {b : List Nat}, (∀ x ∈ b, x < 256) → ∀ x ∈ recPages ks b, Trk x.2
  | [], _, _, x, h => by cases h
  | k :: ks, b, hb, x, h => by
    rcases List.mem_cons.1 h with rfl | h
    · exact recPage_trk hb
    · exact recPages_trk (fun y hy => hb y (List.mem_of_mem_drop hy)) x h
theorem allPages_trk : ∀ {a : Places} {rs : Recs}, (∀ (i : Nat) b, rs[i]? = some (some b) → ∀ x ∈ b, x < 256) → ∀ x ∈ allPages a rs, Trk x.2
  | [], _, _, x, h => by simp [allPages] at h
  | ks :: a, [], _, x, h => by simp [allPages] at h
  | ks :: a, r :: rs, hb, x, h => by
    have h : x ∈ recPages ks (bytesOf r) ++ allPages a rs := h
    rcases List.mem_append.1 h with h | h
    · refine recPages_trk (fun y hy => ?_) x h
      cases r with
      | none => cases hy
      | some b => exact hb 0 b rfl y hy
    · exact allPages_trk (fun i b hi => hb (i + 1) b (by simpa using hi)) x h
theorem layM_trk {rs : Recs} {a : Places} {h : Nat} (v : Vld rs a h) : ∀ x ∈ layM rs a, Trk x.2 := fun x hx => by
  rcases List.mem_cons.1 hx with rfl | hx
  · exact rootPage_trk v.a41
  · exact allPages_trk (fun i b hi => (v.rsOk.ok i b hi).1) x hx
theorem others_mem {was : Wri} {rs : Recs} {a : Places} {h : Nat} (v : Vld rs a h) {x : Ent} (hx : x ∈ othersM was (layW rs a h)) : x ∈ layM rs a := by
  have h1 := (othersTo_mem.1 hx).2.1
  rw [List.getD_eq_getElem?_getD] at h1
  cases hq : (layW rs a h)[x.1]? with
  | none => rw [hq] at h1; cases h1
  | some y =>
    rw [hq] at h1
    have e : y = some x.2 := h1
    subst e
    exact v.layW_mem hq
theorem others_goes {was : Wri} {rs : Recs} {a : Places} {h : Nat} (v : Vld rs a h) (hne : othersM was (layW rs a h) ≠ []) : Goes (othersM was (layW rs a h)) h :=
  ⟨fun x hx => ⟨v.keys_lt x (others_mem v hx), (layM_trk v x (others_mem v hx)).len⟩, othersTo_nodup _ _ _, List.length_pos_iff.2 hne⟩
/-- What is laid the same is the same. -/
theorem same_laid {N : Hom} {rs rk : Recs} {a a' : Places} (h16 : N.length ≤ 65536) (v : Vld rk a N.length) (v' : Vld rs a' N.length) (hh : Holds N (layM rk a)) (h0 : othersM (layW rk a N.length) (layW rs a' N.length) = []) : rs = rk ∧ a' = a :=
  reading_one (reading_all h16 v' (keep_none v v' hh h0)) (reading_all h16 v hh)

/-- A law's vault. -/
structure Vt (w0 : World) (vp lp d x l h t : Nat) (q : Bool) (P : Hom → Prop) (N : Hom) (rs rk : Recs) (a : Places) (w : World) : Prop where
  sail : Sail ⟨w0, [(x, bud (h - 1 - sumT rs) (h - 1))]⟩ lp d l h t q P N w
  mem : VM w vp lp x h rs rk a
  holds : Holds N (layM rk a)
  nv : w0.heap.size ≤ vp
  nx : w0.heap.size ≤ x
  hh : h ≤ 60
  hl : 2 + l + h ≤ 120
section
variable {w0 w w' : World} {vp lp d x l h t t' : Nat} {q : Bool} {P P' : Hom → Prop} {N : Hom} {rs rk : Recs} {a : Places}
theorem Vt.old (v : Vt w0 vp lp d x l h t q P N rs rk a w) (o : Old w w') : Vt w0 vp lp d x l h t q P N rs rk a w' := ⟨v.sail.old o, v.mem.old o, v.holds, v.nv, v.nx, v.hh, v.hl⟩
theorem Vt.mono (v : Vt w0 vp lp d x l h t q P N rs rk a w) (hp : ∀ X, P X → P' X) (ht : t ≤ t') : Vt w0 vp lp d x l h t' q P' N rs rk a w := ⟨v.sail.mono hp ht, v.mem, v.holds, v.nv, v.nx, v.hh, v.hl⟩
theorem Vt.tracks (v : Vt w0 vp lp d x l h t q P N rs rk a w) : Calls Tryz.prog 20 #[.pointer (some ⟨vp, 0, none⟩)] w fun y w' => y = .returned (.int .i64 (h : Int)) ∧ w = w' := by
  obtain ⟨g, L, hL, hh, _⟩ := v.sail.head
  exact vtracks_any v.mem.lp0 hL hh
theorem Vt.lost (v : Vt w0 vp lp d x l h t q P N rs rk a w) : Calls Tryz.prog 23 #[.pointer (some ⟨vp, 0, none⟩)] w fun y w' => y = .returned (.bool false) ∧ w = w' := by
  obtain ⟨g, L, hL, hh, hl⟩ := v.sail.head
  have := vlost_any v.mem.lp0 hL
  rwa [hl] at this
/-- Its own memory turned. -/
theorem Vt.turn (v : Vt w0 vp lp d x l h t q P N rs rk a w) {x' : Nat} {rs' : Recs} (m : VM w' vp lp x' h rs' rk a) (T : Touch (fun i => i = vp ∨ i = x) w w') (hx : x' = x ∨ w.heap.size ≤ x') : Vt w0 vp lp d x' l h t q P N rs' rk a w' := by
  obtain ⟨vs, hb⟩ := v.mem.blk
  refine ⟨v.sail.vt T hb v.nv v.nx hx m.bq, m, v.holds, v.nv, ?_, v.hh, v.hl⟩
  rcases hx with rfl | hx
  · exact v.nx
  · have := v.sail.old0.size
    have : w0.heap.size ≤ w.heap.size := this
    omega
theorem Vt.put (v : Vt w0 vp lp d x l h t q P N rs rk a w) (k : Nat) (h1 : 1 ≤ k) (h40 : k ≤ 40) (p : Option Addr) (b : List Nat) (n c : Nat) (hB : Has w p b) (hn : b.length = n) (hm : n ≤ 60000) :
    Calls Tryz.prog 21 #[.pointer (some ⟨vp, 0, none⟩), .int .i64 (k : Int), .slice p n c] w fun y w' => Touch (fun i => i = vp ∨ i = x) w w' ∧
      ((y = .returned (.int .i64 3) ∧ h < sumT (rs.set k (some b)) + 1 ∧ Vt w0 vp lp d x l h t q P N rs rk a w') ∨ (y = .returned (.int .i64 0) ∧ sumT (rs.set k (some b)) + 1 ≤ h ∧ Vt w0 vp lp d x l h t q P N (rs.set k (some b)) rk a w')) := by
  obtain ⟨g, L, hL, hh, hl⟩ := v.sail.head
  refine (vput_any0 v.mem hL hl k h1 h40 p b n c hB hn hm).mono ?_
  rintro y w' ⟨T, ⟨rfl, hs, m⟩ | ⟨rfl, hs, m⟩⟩
  · exact ⟨T, .inl ⟨rfl, hs, v.turn m T (.inl rfl)⟩⟩
  · exact ⟨T, .inr ⟨rfl, hs, v.turn m T (.inl rfl)⟩⟩
theorem Vt.drop (v : Vt w0 vp lp d x l h t q P N rs rk a w) (k : Nat) (h1 : 1 ≤ k) (h40 : k ≤ 40) (r : Rec) (hr : rs[k]? = some r) :
    Calls Tryz.prog 12 #[.pointer (some ⟨vp, 0, none⟩), .int .i64 (k : Int)] w fun y w' => y = .returned (.bool r.isSome) ∧ Vt w0 vp lp d x l h t q P N (rs.set k none) rk a w' ∧ Touch (fun i => i = vp ∨ i = x) w w' := by
  cases r with
  | none =>
    refine (vdrop_none v.mem k h1 h40 hr).mono ?_
    rintro y w' ⟨rfl, rfl⟩
    have e : rs.set k none = rs := by
      apply List.ext_getElem?
      intro i
      by_cases he : k = i
      · subst he
        rw [List.getElem?_set_self (lt_of_get hr), hr]
      · rw [List.getElem?_set_ne he]
    rw [e]
    exact ⟨rfl, v, Touch.refl _ _⟩
  | some b =>
    refine (vdrop_some v.mem k h1 h40 b hr).mono ?_
    rintro y w' ⟨rfl, m, T⟩
    exact ⟨rfl, v.turn m T (.inl rfl), T⟩
theorem Vt.undo (v : Vt w0 vp lp d x l h t q P N rs rk a w) : Calls Tryz.prog 15 #[.pointer (some ⟨vp, 0, none⟩)] w fun y w' => y = .returned (.tuple #[]) ∧ ∃ x', Vt w0 vp lp d x' l h t q P N rk rk a w' ∧ Touch (fun i => i = vp) w w' := by
  obtain ⟨g, L, hL, hh, hl⟩ := v.sail.head
  refine (vundo_any v.mem hL hh).mono ?_
  rintro y w' ⟨rfl, x', hx', m, T⟩
  exact ⟨rfl, x', v.turn m (T.mono fun i _ hi => .inl hi) (.inr hx'), T⟩
end
end Go.Proofs.YtjajenkagcdhlaaGreat
/- Keep, Settle, Close of a law's vault. -/
namespace Go.Proofs.YtjajenkagcdhlaaGreat
open Go.RowKit
set_option maxRecDepth 100000

/-- What a vault's call leaves of what a law has besides. -/
structure KeptV (w w' : World) : Prop where
  blk : ∀ t g cs, otherL t → t ≠ 74 → Blk w g t cs → Blk w' g t cs
  map : ∀ (g : Nat) es clock, w.heap[g]? = some (Obj.map es clock) → w'.heap[g]? = some (Obj.map es clock)
theorem KeptV.refl (w : World) : KeptV w w := ⟨fun _ _ _ _ _ h => h, fun _ _ _ h => h⟩
theorem KeptV.trans {a b c : World} (h : KeptV a b) (k : KeptV b c) : KeptV a c := ⟨fun t g cs ht hv hb => k.blk t g cs ht hv (h.blk t g cs ht hv hb), fun g es cl hg => k.map g es cl (h.map g es cl hg)⟩
theorem KeptV.of_kept {w w' : World} (h : KeptL w w') : KeptV w w' := ⟨fun t g cs ht _ hb => h.blk t g cs ht hb, h.map⟩
theorem KeptV.of_old {w w' : World} (h : Old w w') : KeptV w w' := KeptV.of_kept (KeptL.of_old h)
theorem KeptV.of_touch {w w' : World} {vp x : Nat} {vs bs : List Value} (T : Touch (fun i => i = vp ∨ i = x) w w') (hv : Blk w vp 74 vs) (hx : Blk w x 120 bs) : KeptV w w' := by
  refine ⟨fun t g cs ht hn hb => hb.touch T (fun e => ?_), fun g es cl hg => (T.block g (Array.getElem?_eq_some_iff.1 hg).1 (fun e => ?_)).trans hg⟩
  · rcases e with e | e
    · exact hb.ne hv hn e
    · exact hb.ne hx ht.1.2.2.2.2 e
  · have e : g = vp ∨ g = x := e
    rcases e with rfl | rfl
    · rw [hv] at hg; cases hg
    · rw [hx] at hg; cases hg
theorem KeptV.byt {w w' : World} (h : KeptV w w') {p : Option Addr} {b : List Nat} (hb : Byt w p b) : Byt w' p b := hb.keep fun g cs hk => h.blk 5 g cs (by unfold otherL other; decide) (by decide) hk

/-- Where the same lies there is nothing to be written. -/
theorem place0_same : ∀ {a : Places} {rs : Recs}, a.length = rs.length → (∀ (i : Nat) r ks, rs[i]? = some r → a[i]? = some ks → RecOk r ks) → place0 a rs = a
  | [], [], _, _ => rfl
  | ks :: a, r :: rs, hl, h => by
    show ks.take (takesR r) :: place0 a rs = _
    rw [place0_same (by simpa using hl) (fun i r ks h1 h2 => h (i + 1) r ks h1 h2)]
    have := h 0 r ks rfl rfl
    rw [List.take_of_length_le (by
      cases r with
      | none => have e : ks = [] := this; subst e; exact Nat.zero_le _
      | some b => have e : ks.length = takesN b.length := this.2.2; show ks.length ≤ takesN b.length; omega)]
  | [], r :: rs, hl, _ => by simp at hl
  | ks :: a, [], hl, _ => by simp at hl
theorem fill_same : ∀ {free : List Nat} {a : Places} {rs : Recs}, a.length = rs.length → (∀ (i : Nat) r ks, rs[i]? = some r → a[i]? = some ks → RecOk r ks) → fill free a rs = a
  | free, [], [], _, _ => rfl
  | free, ks :: a, r :: rs, hl, h => by
    have := h 0 r ks rfl rfl
    have e : takesR r - ks.length = 0 := by
      cases r with
      | none => have e : ks = [] := this; subst e; rfl
      | some b => have e : ks.length = takesN b.length := this.2.2; show takesN b.length - ks.length = 0; omega
    show (ks ++ free.take (takesR r - ks.length)) :: fill (free.drop (takesR r - ks.length)) a rs = _
    rw [e, List.take_zero, List.append_nil, List.drop_zero, fill_same (by simpa using hl) (fun i r ks h1 h2 => h (i + 1) r ks h1 h2)]
  | free, [], r :: rs, hl, _ => by simp at hl
  | free, ks :: a, [], hl, _ => by simp at hl
theorem placeM_same {rs : Recs} {a : Places} {h : Nat} (v : Vld rs a h) : placeM rs a h = a := by
  unfold placeM
  rw [place0_same v.len v.ok, fill_same v.len v.ok]
theorem othersTo_same (W : Wri) : ∀ k, othersTo W W k = []
  | 0 => rfl
  | k + 1 => by
    show othersTo W W k ++ otherAt W W k = []
    rw [othersTo_same W k]
    cases h : W.getD k none with
    | none => rw [otherAt_none h]; rfl
    | some b => rw [otherAt_same h h]; rfl
theorem turned_same {rs : Recs} {a : Places} {h : Nat} (v : Vld rs a h) : turnedM rs rs a h = [] := by
  unfold turnedM
  rw [placeM_same v]
  exact othersTo_same _ _

section
variable {w0 w w' : World} {vp lp d x l h t t' : Nat} {q : Bool} {P P' : Hom → Prop} {N : Hom} {rs rk : Recs} {a : Places}
theorem Sail.bq {bs : List Value} (A : Sail ⟨w0, [(x, bs)]⟩ lp d l h t q P N w) : Blk w x 120 bs := by
  obtain ⟨g, b, L, r, H, fs, gs, h1, h2⟩ := A
  exact (h1.st.aside (x, bs) (by simp)).1
theorem Sunk.bq {bs : List Value} (A : Sunk ⟨w0, [(x, bs)]⟩ d l h t P w) : Blk w x 120 bs := by
  obtain ⟨b, D, h1, h2⟩ := A
  exact (h1.aside (x, bs) (by simp)).1
theorem Sunk.vt {bs vs : List Value} (A : Sunk ⟨w0, [(x, bs)]⟩ d l h t P w) (T : Touch (fun i => i = vp) w w') (hv : Blk w vp 74 vs) (n1 : w0.heap.size ≤ vp) : Sunk ⟨w0, []⟩ d l h t P w' := by
  obtain ⟨b, D, h1, h2⟩ := A
  exact ⟨b, D, (h1.base (w1 := ⟨w0, []⟩) rfl (fun p hp => by cases hp)).touch hv (by unfold other; decide) n1 T, h2⟩
/-- What Keep leaves. -/
def KeepV (w0 : World) (vp lp d x l h t : Nat) (q : Bool) (P : Hom → Prop) (N : Hom) (rs rk : Recs) (a : Places) (w : World) (y : Ending) (w' : World) : Prop :=
  (y = .returned (.int .i64 0) ∧ rs = rk ∧ Old w w' ∧ Vt w0 vp lp d x l h t q P N rs rk a w') ∨
  (turnedM rs rk a h ≠ [] ∧ KeptV w w' ∧
    ((y = .returned (.int .i64 0) ∧ Vt w0 vp lp d x l h (t + 1) q (fun X => P X ∨ X = tookH N (turnedM rs rk a h)) (tookH N (turnedM rs rk a h)) rs rs (placeM rs a h) w') ∨
     (y = .returned (.int .i64 5) ∧ l < leavesOf (turnedM rs rk a h).length ∧ ∃ x', Vt w0 vp lp d x' l h (t + 1) q P N rk rk a w') ∨
     (y = .returned (.int .i64 4) ∧ q = false ∧ Sunk ⟨w0, []⟩ d l h (t + 1) (fun X => P X ∨ X = tookH N (turnedM rs rk a h)) w' ∧ w'.cell? ⟨vp, 0, none⟩ = some (.pointer (some ⟨lp, 0, none⟩)) ∧ ∃ g L, Blk w' lp 129 (lhead d g L) ∧ L.lost = true)))
theorem Vt.keep (v : Vt w0 vp lp d x l h t q P N rs rk a w) (ht : t ≤ 200) : Calls Tryz.prog 13 #[.pointer (some ⟨vp, 0, none⟩)] w (KeepV w0 vp lp d x l h t q P N rs rk a w) := by
  obtain ⟨g, L, hL, hh, hlo⟩ := v.sail.head
  have hN := v.sail.len
  have vld' : Vld rs (placeM rs a h) h := place_vld v.mem.rok v.mem.vld.plOk v.mem.fit
  have hlen : (turnedM rs rk a h).length ≤ 60 := by
    have h1 := vld'.others_length (layW rk a h)
    have h2 := v.mem.fit
    have h3 := v.hh
    show (othersM _ _).length ≤ 60
    omega
  have hTr : ∀ y ∈ turnedM rs rk a h, Trk y.2 := fun y hy => layM_trk vld' y (others_mem vld' hy)
  refine (vkeep_any v.mem hL hh (Writes ⟨w0, [(x, bud (h - 1 - sumT rs) (h - 1))]⟩ lp d l h t q P N (turnedM rs rk a h)) (fun w1 o p c En hc => ?_)).mono ?_
  · refine (sail_write (v.sail.old o) ht v.hl p (turnedM rs rk a h) _ c En rfl hlen hTr).mono ?_
    rintro y w2 ⟨E, rfl, K, W⟩
    have hW := W
    rcases W with ⟨rfl, _, S⟩ | ⟨rfl, _, S⟩ | ⟨rfl, _, S⟩ | ⟨rfl, _, _, S, g', L', hb, hl1, _⟩
    · obtain ⟨g, L, hL, hh, _⟩ := S.head
      exact ⟨1, rfl, K, ⟨d, g, L, hL, hh⟩, S.bq, by omega, hW⟩
    · obtain ⟨g, L, hL, hh, _⟩ := S.head
      exact ⟨5, rfl, K, ⟨d, g, L, hL, hh⟩, S.bq, by omega, hW⟩
    · obtain ⟨g, L, hL, hh, _⟩ := S.head
      exact ⟨0, rfl, K, ⟨d, g, L, hL, hh⟩, S.bq, by omega, hW⟩
    · exact ⟨4, rfl, K, ⟨d, g', L', hb, hl1⟩, S.bq, by omega, hW⟩
  · rintro y w' (⟨h0, rfl, o, m⟩ | ⟨hne, E, w1, w2, rfl, o, K, W, T, hm⟩)
    · have h0' : othersM (layW rk a N.length) (layW rs (placeM rs a h) N.length) = [] := by rw [hN]; exact h0
      have hs := same_laid (N := N) (by rw [hN]; have := v.hh; omega) (by rw [hN]; exact v.mem.vld) (by rw [hN]; exact vld') v.holds h0'
      exact .inl ⟨rfl, hs.1, o, v.old o⟩
    · obtain ⟨vs, hb⟩ := v.mem.blk
      have hb2 : Blk w2 vp 74 vs := K.blk _ _ _ (by unfold otherL other; decide) (hb.touch o (fun q => q))
      have T2 : Touch (fun i => i = vp ∨ i = x) w2 w' := T.mono fun i _ hi => .inl hi
      refine .inr ⟨hne, ?_, ?_⟩
      · have hx2 : Blk w2 x 120 (bud (h - 1 - sumT rs) (h - 1)) := by
          rcases W with ⟨_, _, S⟩ | ⟨_, _, S⟩ | ⟨_, _, S⟩ | ⟨_, _, _, S, _⟩
          · exact S.bq
          · exact S.bq
          · exact S.bq
          · exact S.bq
        exact ((KeptV.of_old o).trans (KeptV.of_kept K)).trans (KeptV.of_touch T2 hb2 hx2)
      rcases hm with ⟨rfl, m⟩ | ⟨rfl, x', hx', m⟩ | ⟨hE0, hE5, m⟩
      · rcases W with ⟨q, _⟩ | ⟨q, _⟩ | ⟨_, _, S⟩ | ⟨q, _⟩
        · cases q
        · cases q
        · have hHo : Holds (tookH N (turnedM rs rk a h)) (layM rs (placeM rs a h)) := by
            have := keep_holds (N := N) (rs := rk) (a := a) (rs' := rs) (a' := placeM rs a h) (by rw [hN]; exact v.mem.vld) (by rw [hN]; exact vld') v.holds
            rw [hN] at this
            exact this
          exact .inl ⟨rfl, ⟨S.vt T2 hb2 v.nv v.nx (.inl rfl) m.bq, m, hHo, v.nv, v.nx, v.hh, v.hl⟩⟩
        · cases q
      · rcases W with ⟨q, _⟩ | ⟨_, hlv, S⟩ | ⟨q, _⟩ | ⟨q, _⟩
        · cases q
        · refine .inr (.inl ⟨rfl, hlv, x', ⟨S.vt T2 hb2 v.nv v.nx (.inr hx') m.bq, m, v.holds, v.nv, ?_, v.hh, v.hl⟩⟩)
          have : w0.heap.size ≤ w2.heap.size := S.old0.size
          omega
        · cases q
        · cases q
      · rcases W with ⟨_, hng, _⟩ | ⟨q, _⟩ | ⟨q, _⟩ | ⟨rfl, hq, _, S, g', L', hb', _, hlost⟩
        · exact absurd (others_goes vld' hne) hng
        · exact absurd q hE5
        · exact absurd q hE0
        · refine .inr (.inr ⟨rfl, hq, S.vt T hb2 v.nv, m.lp0, g', L', hb'.touch T ?_, hlost⟩)
          exact hb'.ne hb2 (by decide)
end
end Go.Proofs.YtjajenkagcdhlaaGreat
/- Settle, Close, Open of a law's vault. -/
namespace Go.Proofs.YtjajenkagcdhlaaGreat
open Go.RowKit
set_option maxRecDepth 100000

section
variable {w : World} {vp lp : Nat} {Q : Ending → World → Prop}
theorem vsettle_any (h0 : w.cell? ⟨vp, 0, none⟩ = some (.pointer (some ⟨lp, 0, none⟩))) (H : Calls Tryz.prog 46 #[.pointer (some ⟨lp, 0, none⟩)] w fun y w' => (∃ n, y = .returned (.int .i64 n)) ∧ Q y w') :
    Calls Tryz.prog 16 #[.pointer (some ⟨vp, 0, none⟩)] w Q := by
  have HH := Lib.hid H
  clear H
  go_enter Tryz.func16, Tryz.ntmps16
  go_wp2_with (first | ((with_reducible refine HH.out.mono ?_); rintro y w' ⟨⟨n, rfl⟩, hQ⟩
                        have HQ := Lib.hid hQ
                        clear hQ))
  exact HQ.out
theorem vclose_any (h0 : w.cell? ⟨vp, 0, none⟩ = some (.pointer (some ⟨lp, 0, none⟩))) (H : Calls Tryz.prog 58 #[.pointer (some ⟨lp, 0, none⟩)] w fun y w' => (∃ n, y = .returned (.int .i64 n)) ∧ Q y w') :
    Calls Tryz.prog 27 #[.pointer (some ⟨vp, 0, none⟩)] w Q := by
  have HH := Lib.hid H
  clear H
  go_enter Tryz.func27, Tryz.ntmps27
  go_wp2_with (first | ((with_reducible refine HH.out.mono ?_); rintro y w' ⟨⟨n, rfl⟩, hQ⟩
                        have HQ := Lib.hid hQ
                        clear hQ))
  exact HQ.out
end
section
variable {w0 w w' : World} {vp lp d x l h t t' : Nat} {q : Bool} {P P' : Hom → Prop} {N : Hom} {rs rk : Recs} {a : Places}
theorem VM.keptL {w w' : World} (m : VM w vp lp x h rs rk a) (k : KeptL w w') (hx : Blk w' x 120 (bud (h - 1 - sumT rs) (h - 1))) : VM w' vp lp x h rs rk a := m.kept (fun t g cs _ ht hb => k.blk t g cs ht hb) (fun _ => hx)
theorem Vt.settle (v : Vt w0 vp lp d x l h t q P N rs rk a w) (ht : t ≤ 200) : Calls Tryz.prog 16 #[.pointer (some ⟨vp, 0, none⟩)] w fun y w' => KeptV w w' ∧
    ((y = .returned (.int .i64 0) ∧ Vt w0 vp lp d x l h (t + 1) q (fun X => X = N) N rs rk a w') ∨ (y = .returned (.int .i64 4) ∧ q = false ∧ Sunk ⟨w0, []⟩ d l h (t + 1) P w')) := by
  refine vsettle_any v.mem.lp0 ((sail_settle v.sail ht).mono ?_)
  rintro y w' ⟨K, ⟨rfl, S⟩ | ⟨rfl, hq, S⟩⟩
  · exact ⟨⟨_, rfl⟩, KeptV.of_kept K, .inl ⟨rfl, S, v.mem.keptL K S.bq, v.holds, v.nv, v.nx, v.hh, v.hl⟩⟩
  · obtain ⟨b, D, h1, h2⟩ := S
    exact ⟨⟨_, rfl⟩, KeptV.of_kept K, .inr ⟨rfl, hq, b, D, h1.base rfl (fun p hp => by cases hp), h2⟩⟩
theorem Vt.close (v : Vt w0 vp lp d x l h t q P N rs rk a w) (ht : t ≤ 200) : Calls Tryz.prog 27 #[.pointer (some ⟨vp, 0, none⟩)] w fun y w' => KeptV w w' ∧
    ((y = .returned (.int .i64 0) ∧ Vt w0 vp lp d x l h (t + 1) q (fun X => X = N) N rs rk a w') ∨ (y = .returned (.int .i64 4) ∧ q = false ∧ Sunk ⟨w0, []⟩ d l h (t + 1) P w')) := by
  refine vclose_any v.mem.lp0 ((sail_balance v.sail ht v.hl).mono ?_)
  rintro y w' ⟨K, ⟨rfl, S⟩ | ⟨rfl, hq, S⟩⟩
  · exact ⟨⟨_, rfl⟩, KeptV.of_kept K, .inl ⟨rfl, S, v.mem.keptL K S.bq, v.holds, v.nv, v.nx, v.hh, v.hl⟩⟩
  · obtain ⟨b, D, h1, h2⟩ := S
    exact ⟨⟨_, rfl⟩, KeptV.of_kept K, .inr ⟨rfl, hq, b, D, h1.base rfl (fun p hp => by cases hp), h2⟩⟩

/-- A vault that was opened. -/
theorem vt_opened {H : Hom} {rs : Recs} {a : Places} {w1 : World} (S : Sail ⟨w0, []⟩ lp d l h t q P H w1) (m : VM w' vp lp x H.length rs rs a) (o : Old w1 w') (hR : Reading H rs a) (n1 : w1.heap.size ≤ vp) (n2 : w1.heap.size ≤ x) (h0 : 0 < h) (hh : h ≤ 60) (hl : 2 + l + h ≤ 120) : Vt w0 vp lp d x l h t q P H rs rs a w' := by
  have hlen := S.len
  have hv := hR.vld S.trk (by omega)
  rw [hlen] at m
  have hs : w0.heap.size ≤ w1.heap.size := S.old0.size
  exact ⟨S.aside o n2 m.bq, m, hv.2, by omega, by omega, hh, hl⟩
/-- Open behind a fall: what is home is one of P. -/
theorem vt_fell (F : Fell ⟨w0, []⟩ d l h t true P w) (ht : t ≤ 200) (hP : ∀ X, X.length = h → P X → ∃ rs a, Vld rs a h ∧ Holds X (layM rs a)) (h0 : 0 < h) (hh : h ≤ 60) (hl : 2 + l + h ≤ 120) :
    Calls Tryz.prog 17 #[.pointer (some ⟨d, 0, none⟩)] w fun y w' => ∃ vp lp x H rs a, y = .returned (.tuple #[.pointer (some ⟨vp, 0, none⟩), .int .i64 0]) ∧ P H ∧ Reading H rs a ∧ Vt w0 vp lp d x l h (t + 1) true (fun X => X = H) H rs rs a w' ∧ KeptV w w' := by
  refine (vopen_any _ w (fun _ _ => False) (fun lp H w1 => P H ∧ Sail ⟨w0, []⟩ lp d l h (t + 1) true (fun X => X = H) H w1 ∧ KeptL w w1) ?_).mono ?_
  · refine (fell_open F ht hl).mono ?_
    rintro y w1 ⟨mp, N, rfl, hN, S, K⟩
    exact .inr ⟨mp, N, rfl, S.okL (by omega) h0 (by omega), hN, S, K⟩
  · rintro y w' (⟨_, _, _, q⟩ | ⟨lp, H, w1, ⟨hH, S, K⟩, ok, o, ⟨_, hno⟩ | ⟨vp, x, rs, a, hR, rfl, m, n1, n2⟩⟩)
    · exact q.elim
    · obtain ⟨rs, a, v, hh'⟩ := hP H S.len hH
      exact absurd (reading_all (by rw [S.len]; omega) (by rw [S.len]; exact v) hh') (hno rs a)
    · exact ⟨vp, lp, x, H, rs, a, rfl, hH, hR, vt_opened S m o hR n1 n2 h0 hh hl, (KeptV.of_kept K).trans (KeptV.of_old o)⟩
/-- Open once more. -/
theorem Vt.open_ (v : Vt w0 vp lp d x l h t true P N rs rk a w) (ht : t ≤ 200) (h0 : 0 < h) :
    Calls Tryz.prog 17 #[.pointer (some ⟨d, 0, none⟩)] w fun y w' => ∃ vp lp x, y = .returned (.tuple #[.pointer (some ⟨vp, 0, none⟩), .int .i64 0]) ∧ Vt w0 vp lp d x l h (t + 1) true (fun X => X = N) N rk rk a w' ∧ KeptV w w' := by
  refine (vopen_any _ w (fun _ _ => False) (fun lp H w1 => H = N ∧ Sail ⟨w0, []⟩ lp d l h (t + 1) true (fun X => X = H) H w1 ∧ KeptL w w1) ?_).mono ?_
  · refine (sail_open v.sail.bare ht v.hl).mono ?_
    rintro y w1 ⟨mp, rfl, S, K⟩
    exact .inr ⟨mp, N, rfl, S.okL (by omega) h0 (by have := v.hh; omega), rfl, S, K⟩
  · have hN := v.sail.len
    have hRd : Reading N rk a := reading_all (by rw [hN]; have := v.hh; omega) (by rw [hN]; exact v.mem.vld) v.holds
    rintro y w' (⟨_, _, _, q⟩ | ⟨lp, H, w1, ⟨rfl, S, K⟩, ok, o, ⟨_, hno⟩ | ⟨vp, x, rs, a', hR, rfl, m, n1, n2⟩⟩)
    · exact q.elim
    · exact absurd hRd (hno rk a)
    · obtain ⟨rfl, rfl⟩ := reading_one hR hRd
      exact ⟨vp, lp, x, rfl, vt_opened S m o hR n1 n2 h0 v.hh v.hl, (KeptV.of_kept K).trans (KeptV.of_old o)⟩
/-- The same, of a ledger that was founded. -/
theorem vt_first {lp : Nat} (S : Sail ⟨w0, []⟩ lp d l h t true (fun X => X = home0 h) (home0 h) w) (ht : t ≤ 200) (h0 : 0 < h) (hh : h ≤ 60) (hl : 2 + l + h ≤ 120) :
    Calls Tryz.prog 17 #[.pointer (some ⟨d, 0, none⟩)] w fun y w' => ∃ vp lp x, y = .returned (.tuple #[.pointer (some ⟨vp, 0, none⟩), .int .i64 0]) ∧ Vt w0 vp lp d x l h (t + 1) true (fun X => X = home0 h) (home0 h) rs0 rs0 ps0 w' ∧ KeptV w w' := by
  refine (vopen_any _ w (fun _ _ => False) (fun lp H w1 => H = home0 h ∧ Sail ⟨w0, []⟩ lp d l h (t + 1) true (fun X => X = H) H w1 ∧ KeptL w w1) ?_).mono ?_
  · refine (sail_open S ht hl).mono ?_
    rintro y w1 ⟨mp, rfl, S, K⟩
    exact .inr ⟨mp, _, rfl, S.okL (by omega) h0 (by omega), rfl, S, K⟩
  · have hN := S.len
    have hRd : Reading (home0 h) rs0 ps0 := reading_all (by rw [hN]; omega) (by rw [hN]; exact rs0_vld h0) (home0_holds h0)
    rintro y w' (⟨_, _, _, q⟩ | ⟨lp, H, w1, ⟨rfl, S, K⟩, ok, o, ⟨_, hno⟩ | ⟨vp, x, rs, a', hR, rfl, m, n1, n2⟩⟩)
    · exact q.elim
    · exact absurd hRd (hno _ _)
    · obtain ⟨rfl, rfl⟩ := reading_one hR hRd
      exact ⟨vp, lp, x, rfl, vt_opened S m o hR n1 n2 h0 hh hl, (KeptV.of_kept K).trans (KeptV.of_old o)⟩
end
end Go.Proofs.YtjajenkagcdhlaaGreat
/- The law's found and known. -/
namespace Go.Proofs.YtjajenkagcdhlaaGreat
open Go.RowKit
set_option maxRecDepth 100000

section
variable {w0 w : World}
theorem lfound_any (o : Old w0 w) {n l h : Nat} (hn : n = 2 + l + h) (hl : 5 ≤ l) (hh : 3 ≤ h) (h60 : h ≤ 60) (hm : n ≤ 120) : Calls Tryz.prog 10 #[.int .i64 (n : Int), .int .i64 (l : Int)] w fun y w' =>
    ∃ vp lp d x, y = .returned (.tuple #[.pointer (some ⟨vp, 0, none⟩), .pointer (some ⟨d, 0, none⟩)]) ∧ Vt w0 vp lp d x l h 3 true (fun X => X = home0 h) (home0 h) rs0 rs0 ps0 w' ∧ KeptV w w' := by
  have HN := Lib.hid (new_st (w0 := ⟨w0, []⟩) n (by omega) (by omega) o (fun p hp => by cases hp))
  have Hn := Lib.hid hn
  clear o hn
  go_enter Tryz.func10, Tryz.ntmps10
  go_wp2_with fail
  refine HN.out.mono ?_
  rintro y w1 ⟨d, b, rfl, S1, O1⟩
  have HF := Lib.hid (vfound_any S1 Hn.out hl hh hm)
  have HK1 := Lib.hid (KeptV.of_old O1)
  clear S1 O1 HN
  go_wp2_with fail
  refine HF.out.mono ?_
  rintro y w2 ⟨rfl, K2, lp0, S2⟩
  have HO := Lib.hid (vt_first S2 (by omega) (by omega) h60 (by have := Hn.out; omega))
  have HK2 := Lib.hid (HK1.out.trans (KeptV.of_kept K2))
  clear S2 K2 HF HK1
  go_wp2_with fail
  refine HO.out.mono ?_
  rintro y w3 ⟨vp, lp, x, rfl, V3, K3⟩
  have HV := Lib.hid V3
  have HK3 := Lib.hid (HK2.out.trans K3)
  clear V3 K3 HO HK2
  go_wp2_with fail
  go_ret2
  exact ⟨vp, lp, d, x, rfl, HV.out, HK3.out⟩
end
end Go.Proofs.YtjajenkagcdhlaaGreat
/- The law's known. -/
namespace Go.Proofs.YtjajenkagcdhlaaGreat
open Go.RowKit
set_option maxRecDepth 100000

/-- The bytes that known puts. -/
def abc : List Nat := [97, 98, 99]
def rsK : Recs := rs0.set 3 (some abc)
theorem rsK_sum : sumT rsK = 1 := by decide
theorem rsK_ne : rsK ≠ rs0 := by decide
theorem few_turned {h : Nat} {rs rk : Recs} {a : Places} (r : RsOk rs) (v : Vld rk a h) (fit : sumT rs + 1 ≤ h) : leavesOf (turnedM rs rk a h).length ≤ 2 * (sumT rs + 1) := by
  have h1 := (place_vld r v.plOk fit).others_length (layW rk a h)
  have h2 := leavesOf_le (turnedM rs rk a h).length
  have h3 : (turnedM rs rk a h).length ≤ sumT rs + 1 := h1
  omega
theorem abc_byte : ∀ x ∈ abc, x < 256 := by decide
section
variable {w : World}
set_option maxHeartbeats 6400000 in
theorem known_any (w : World) : Calls Tryz.prog 9 #[] w fun y w' => y = .returned (.bool true) ∧ Old w w' := by
  have HFo : Hid (Calls Tryz.prog 10 #[.int .i64 60, .int .i64 20] w fun y w' => ∃ vp lp d x, y = .returned (.tuple #[.pointer (some ⟨vp, 0, none⟩), .pointer (some ⟨d, 0, none⟩)]) ∧ Vt w vp lp d x 20 38 3 true (fun X => X = home0 38) (home0 38) rs0 rs0 ps0 w' ∧ KeptV w w') := lfound_any (Touch.refl _ w) (n := 60) (l := 20) (h := 38) rfl (by omega) (by omega) (by omega) (by omega)
  have HT0 : Hid (∀ w, Calls Tryz.prog 33 #[.int .i64 0] w fun e w' => e = .returned (.int .i64 1) ∧ w = w') := fun w => takes_any 0 (by omega) w
  have HT1 : Hid (∀ w, Calls Tryz.prog 33 #[.int .i64 80] w fun e w' => e = .returned (.int .i64 1) ∧ w = w') := fun w => takes_any 80 (by omega) w
  have HT2 : Hid (∀ w, Calls Tryz.prog 33 #[.int .i64 81] w fun e w' => e = .returned (.int .i64 2) ∧ w = w') := fun w => takes_any 81 (by omega) w
  go_enter Tryz.func9, Tryz.ntmps9
  go_upto_region 2 with (first
    | ((with_reducible refine HFo.out.mono ?_); rintro y w1 ⟨vp, lp, d, x, rfl, V1, K1⟩
       have HV1 := Lib.hid V1
       clear V1 K1 HFo))
  have kc := fun (w : World) (C : Array Value) (n c : Nat) => Lib.run_convert_bytes_const (P := Tryz.prog) w 30 5 C n c Tryz.underlying30 Tryz.underlying5
  have TA : Old w1 (w1.alloc (.cells #[.int .u8 97, .int .u8 98, .int .u8 99] 5 (3, 4))) := (Touch.refl _ w1).alloc _
  have HP := Lib.hid ((HV1.out.old TA).put 3 (by omega) (by omega) (some ⟨w1.heap.size, 0, none⟩) abc 3 3 (Has.new w1 abc (by decide) (3, 4)) rfl (by omega))
  clear TA
  go_wp2_with (first
    | ((with_reducible refine (HT0.out _).mono ?_); rintro y w' ⟨rfl, rfl⟩)
    | ((with_reducible refine (HT1.out _).mono ?_); rintro y w' ⟨rfl, rfl⟩)
    | ((with_reducible refine (HT2.out _).mono ?_); rintro y w' ⟨rfl, rfl⟩))
  clear kc
  refine HP.out.mono ?_
  rintro y w2 ⟨_, ⟨_, hs, _⟩ | ⟨rfl, _, V2⟩⟩
  · exact absurd hs (by decide)
  have HKe := Lib.hid (V2.keep (by omega))
  clear V2 HP HV1 HT0 HT1 HT2
  go_wp2_with fail
  refine HKe.out.mono ?_
  rintro y w3 (⟨_, e, _⟩ | ⟨_, _, ⟨rfl, V3⟩ | ⟨_, hb, _⟩ | ⟨_, hq, _⟩⟩)
  · exact absurd e rsK_ne
  · have HSe := Lib.hid (V3.settle (by omega))
    clear V3 HKe
    go_wp2_with fail
    refine HSe.out.mono ?_
    rintro y w4 ⟨_, ⟨rfl, V4⟩ | ⟨_, hq, _⟩⟩
    · have hfi := V4.mem.fit
      have HFa := Lib.hid (wreck_fall (V4.sail.bare.wreck) (by omega) none [] 0 0 (-1) 0 (HasI.nil _ _) rfl (by omega))
      have HVl : Hid (Vld (rs0.set 3 (some abc)) (placeM (rs0.set 3 (some abc)) ps0 38) 38) := V4.mem.vld
      have HHo := Lib.hid V4.holds
      have HLn := Lib.hid V4.sail.len
      clear V4 HSe hfi
      generalize tookH (home0 38) (turnedM (rs0.set 3 (some abc)) rs0 ps0 38) = N at *
      go_wp2_with fail
      refine HFa.out.mono ?_
      rintro y w5 ⟨rfl, _, F5⟩
      have HOp := Lib.hid (vt_fell F5 (by omega) (fun X _ e => ⟨_, _, HVl.out, by rw [e]; exact HHo.out⟩) (by omega) (by omega) (by omega))
      clear F5 HFa
      go_wp2_with fail
      refine HOp.out.mono ?_
      rintro y w6 ⟨vp', lp', x', H, rs, a, rfl, rfl, hR, V6, _⟩
      have hR2 : Reading H (rs0.set 3 (some abc)) (placeM (rs0.set 3 (some abc)) ps0 38) := reading_all (by rw [HLn.out]; omega) (by rw [HLn.out]; exact HVl.out) HHo.out
      obtain ⟨rfl, rfl⟩ := reading_one hR hR2
      have HGe : Hid (Calls Tryz.prog 32 #[.pointer (some ⟨vp', 0, none⟩), .int .i64 3] w6 fun y w' => ∃ p c, y = .returned (.tuple #[.slice p 3 c, .bool true]) ∧ 3 ≤ c ∧ Byt w' p abc ∧ (∀ g o, p = some ⟨g, o, none⟩ → w6.heap.size ≤ g) ∧ Old w6 w') := vget_any V6.mem 3 (by omega) (by omega) (some abc) rfl
      have HV6 := Lib.hid V6
      clear V6 hR hR2 HOp
      go_wp2_with fail
      refine HGe.out.mono ?_
      rintro y w7 ⟨p7, c7, rfl, hc7, B7, _, O7⟩
      have HV7 := Lib.hid (HV6.out.old O7)
      have HB7 := Lib.hid B7
      have hst := str_any w7 p7 abc 3 c7 B7.has rfl
      have hsa : strOf abc = ⟨#[97, 98, 99]⟩ := rfl
      rw [hsa] at hst
      have HFr : Hid (Calls Tryz.prog 34 #[.pointer (some ⟨vp', 0, none⟩)] w7 fun y w' => y = .returned (.int .i64 36) ∧ w7 = w') := vfree_any HV7.out.mem
      have HTr : Hid (Calls Tryz.prog 20 #[.pointer (some ⟨vp', 0, none⟩)] w7 fun y w' => y = .returned (.int .i64 38) ∧ w7 = w') := HV7.out.tracks
      have HEnd : Hid (Old w w7) := HV7.out.sail.old0
      clear B7 hc7 O7 hsa HB7 HGe HV6
      go_wp2_with (first
        | ((with_reducible refine HFr.out.mono ?_); rintro y w' ⟨rfl, rfl⟩)
        | ((with_reducible refine HTr.out.mono ?_); rintro y w' ⟨rfl, rfl⟩))
      go_ret
      exact ⟨rfl, HEnd.out⟩
    · cases hq
  · have := few_turned (h := 38) (rs := rs0.set 3 (some abc)) (rk := rs0) (a := ps0) ?_ (rs0_vld (by omega)) (by decide)
    · have h1 : sumT (rs0.set 3 (some abc)) = 1 := rsK_sum
      omega
    · exact (rs0_vld (h := 38) (by omega)).rsOk.set (by omega) (fun b e => by cases e; exact ⟨abc_byte, by decide⟩)
  · cases hq
end
end Go.Proofs.YtjajenkagcdhlaaGreat
