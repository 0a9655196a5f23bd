/- The contract of ledger.layPosting. -/
import Derived.Test.YtjajenkagcdhlaaGreatGoes
import Derived.Deep.RegionLaw
namespace Go.Proofs.YtjajenkagcdhlaaGreat
open Go.RowKit
set_option maxRecDepth 100000

theorem leavesOf_le (n : Nat) : leavesOf n ≤ 2 * n := by unfold leavesOf; split <;> omega
theorem leavesOf_pos {n : Nat} (h : 0 < n) : 2 + n * 98 ≤ leavesOf n * 64 := by unfold leavesOf; rw [if_neg (by omega)]; omega
theorem leavesOf_two {n : Nat} (h : 0 < n) : 2 ≤ leavesOf n := by unfold leavesOf; rw [if_neg (by omega)]; omega

theorem etext_length {e : List Ent} (h : ∀ x ∈ e, x.2.length = 96) : (etext e).length = 2 + e.length * 98 := by
  unfold etext
  rw [List.length_append, high_length, flatten_length 98 _ (fun b hb => by
    obtain ⟨x, hx, rfl⟩ := List.mem_map.1 hb
    unfold entText
    rw [List.length_append, high_length, h x hx]), List.length_map]
theorem ptext_length {e : List Ent} (h : ∀ x ∈ e, x.2.length = 96) (h0 : 0 < e.length) : (ptext e).length = leavesOf e.length * 64 := by
  have := leavesOf_pos h0
  unfold ptext
  rw [List.length_append, zeros_length, etext_length h]
  omega
/-- The text of the first t entries. -/
def etextTo (e : List Ent) (t : Nat) : List Nat := high e.length 2 ++ ((e.take t).map entText).flatten
theorem etextTo_all (e : List Ent) : etextTo e e.length = etext e := by unfold etextTo; rw [List.take_length]; rfl
theorem etextTo_next {e : List Ent} {t : Nat} {x : Ent} (h : e[t]? = some x) : etextTo e t ++ high x.1 2 ++ x.2 = etextTo e (t + 1) := by
  unfold etextTo
  rw [take_get h]
  simp [entText]
theorem etextTo_length {e : List Ent} (h : ∀ x ∈ e, x.2.length = 96) (t : Nat) : (etextTo e t).length ≤ 2 + e.length * 98 := by
  unfold etextTo
  rw [List.length_append, high_length, flatten_length 98 _ (fun b hb => by
    obtain ⟨x, hx, rfl⟩ := List.mem_map.1 hb
    unfold entText
    rw [List.length_append, high_length, h x (List.mem_of_mem_take hx)]), List.length_map, List.length_take]
  have : min t e.length ≤ e.length := Nat.min_le_right _ _
  have := Nat.mul_le_mul_right 98 this
  omega

theorem info30 : (Tryz.prog.info? 30).map (fun i => (i.zero, i.size, i.bytes)) = some (some (.slice none 0 0), 1, 24) := by kernel_rfl
def nils (n : Nat) : List Value := List.replicate n (.slice none 0 0)
theorem make_pages (n : Nat) (hn : n ≤ 1000000) (w : World) : (Instr.makeSlice 54 (.int .i64 n) (.int .i64 n)).run Tryz.prog w = .ok (.slice (some ⟨w.heap.size, 0, none⟩) n n) (w.alloc (.cells (nils n).toArray 30)) := by
  obtain ⟨i0, hi, hz0, hz1, hz2⟩ := info_parts info30
  have h := run_make (P := Tryz.prog) w 54 30 i0 (.slice none 0 0) Tryz.underlying54 hi hz0 .i64 .i64 (n : Int) (n : Int) (by omega) (by omega) (by rw [hz2]; omega) (by omega)
  rw [hz1] at h
  have e : madeCells (Value.slice none 0 0).cells n = (nils n).toArray := made_same 1 n _ (by decide)
  rw [h, ← e]
  simp

theorem Mine.not_blk {w : World} {B g : Nat} {v : Value} {xs : List Nat} {t : TypeId} {cs : List Value} (h : Mine w B v xs) (hg : Blk w g t cs) (ht : t ≠ 5) : ¬ blk v g := by
  rcases h with ⟨rfl, _⟩ | ⟨g', c, rfl, _, G⟩
  · intro q; cases q
  · intro q
    have e : g' = g := by injection q
    subst e
    obtain ⟨rest, hr, _⟩ := G.row
    unfold Blk at hg
    rw [hr] at hg
    injection hg with hg
    injection hg with _ hg
    exact ht hg.symm

/-- Of a row of pages the first t are laid. -/
def PgTo (w : World) (g m : Nat) (f : Nat → List Nat) (t : Nat) : Prop := ∃ cs : List Value, Blk w g 30 cs ∧ cs.length = m ∧ ∀ i, i < t → ∃ h, cs[i]? = some (.slice (some ⟨h, 0, none⟩) 96 96) ∧ Own w h (f i)
theorem PgTo.old {w w' : World} {g m t : Nat} {f : Nat → List Nat} (h : PgTo w g m f t) (o : Old w w') : PgTo w' g m f t := by
  obtain ⟨cs, hb, hl, hf⟩ := h
  refine ⟨cs, hb.touch o (fun q => q), hl, fun i hi => ?_⟩
  obtain ⟨k, h1, h2⟩ := hf i hi
  exact ⟨k, h1, h2.old o⟩
theorem PgTo.cell {w : World} {g m t i : Nat} {f : Nat → List Nat} (h : PgTo w g m f t) (hi : i < m) : ∃ v, w.cell? ⟨g, i, none⟩ = some v ∧ w.frozen? ⟨g, i, none⟩ = false := by
  obtain ⟨cs, hb, hl, _⟩ := h
  exact ⟨_, (hb.cell i).trans (List.getElem?_eq_getElem (by omega)), hb.frozen i⟩
theorem Own.ne {w : World} {g h : Nat} {xs : List Nat} {t : TypeId} {cs : List Value} (h1 : Own w h xs) (h2 : Blk w g t cs) (ht : t ≠ 5) : h ≠ g := by
  obtain ⟨rest, hr⟩ := h1.row
  rintro rfl
  unfold Blk at h2
  rw [hr] at h2
  injection h2 with h2
  injection h2 with _ h2
  exact ht h2.symm
theorem PgTo.next {w : World} {g m t h : Nat} {f : Nat → List Nat} (p : PgTo w g m f t) (ht : t < m) (o : Own w h (f t)) : PgTo (w.setCell ⟨g, t, none⟩ (.slice (some ⟨h, 0, none⟩) 96 96)) g m f (t + 1) := by
  obtain ⟨cs, hb, hl, hf⟩ := p
  refine ⟨_, hb.set t _, by rw [List.length_set, hl], fun i hi => ?_⟩
  have T := Touch.one (w := w) ⟨g, t, none⟩ (.slice (some ⟨h, 0, none⟩) 96 96)
  by_cases e : t = i
  · subst e
    exact ⟨h, by rw [List.getElem?_set_self (by omega)], o.touch T (o.ne hb (by decide))⟩
  · obtain ⟨k, h1, h2⟩ := hf i (by omega)
    exact ⟨k, by rw [List.getElem?_set_ne e]; exact h1, h2.touch T (h2.ne hb (by decide))⟩
theorem PgTo.pgs {w : World} {g m : Nat} {f : Nat → List Nat} (p : PgTo w g m f m) (hf : ∀ i, i < m → (f i).length = 96) : Pgs w (some ⟨g, 0, none⟩) ((List.range m).map f) := by
  obtain ⟨cs, hb, hl, hp⟩ := p
  refine ⟨fun i x hx => ?_, fun g' o e => by cases e; exact ⟨cs, hb⟩⟩
  have hi : i < m := by have := lt_of_get hx; simpa using this
  rw [List.getElem?_map, List.getElem?_range hi] at hx
  injection hx with hx
  subst hx
  obtain ⟨k, h1, h2⟩ := hp i hi
  exact ⟨g, 0, _, rfl, by rw [Nat.zero_add, hb.cell]; exact h1, hf i hi, h2.byt⟩
theorem leafText_length (r n k m : Nat) (p : List Nat) (hp : p.length = 64) : (leafText r n k m p).length = 84 := by simp [leafText, high_length, hp]

set_option maxHeartbeats 3200000 in
theorem layText_any (a : Option Addr) (e : List Ent) (len cap r n : Nat) (w : World) (h : Ents w a e) (hlen : e.length = len) (h0 : 0 < len) (hm : len ≤ 65535) (h96 : ∀ x ∈ e, x.2.length = 96) (hk : ∀ x ∈ e, x.1 ≤ 140737488355328)
    (hr : r ≤ 140737488355328) (hn : n ≤ 140737488355328) :
    Calls Tryz.prog 98 #[.slice a len cap, .int .i64 r, .int .i64 n] w fun x w' => ∃ g, x = .returned (.slice (some ⟨g, 0, none⟩) (leavesOf len) (leavesOf len)) ∧ w.heap.size ≤ g ∧ Pgs w' (some ⟨g, 0, none⟩) (posting r n e) ∧ Old w w' := by
  have H := Lib.hid h
  have HL := Lib.hid hlen
  have H96 := Lib.hid h96
  have HKk := Lib.hid hk
  have HM : Hid (leavesOf len ≤ 131070) := Nat.le_trans (leavesOf_le len) (by omega)
  have HLP := Lib.hid (leavesOf_pos h0)
  have HLv := Lib.hid (leaves_any len w (by omega))
  have Hm := Lib.hid (rfl : leavesOf len = leavesOf len)
  clear h hlen h96 hk
  obtain ⟨m, hm'⟩ : ∃ m, leavesOf len = m := ⟨_, rfl⟩
  have HMm := Lib.hid hm'
  rw [hm'] at HM HLP HLv ⊢
  clear hm' Hm
  have hmk := make_pages m (by have := HM.out; omega) w
  have HT0 : Hid (Old w (w.alloc (.cells (nils m).toArray 30))) := (Touch.refl _ _).alloc _
  have HK0 : Hid (Blk (w.alloc (.cells (nils m).toArray 30)) w.heap.size 30 (nils m)) := Blk.new w 30 (nils m)
  generalize w.alloc (.cells (nils m).toArray 30) = w0 at *
  go_enter Tryz.func98, Tryz.ntmps98
  go_wp2_with fail
  refine HLv.out.mono ?_
  rintro x w' ⟨rfl, rfl⟩
  go_wp2_with fail
  clear hmk
  refine (put_any (.slice none 0 0) [] len 2 w.heap.size w0 (Mine.nil _ _) HT0.out.size (by omega) (by omega) (by simp)).mono ?_
  rintro x w1 ⟨v1, rfl, P1⟩
  have HO1 : Hid (Old w w1) := HT0.out.trans P1.of_nil
  have HM1 : Hid (Mine w1 w.heap.size v1 (etextTo e 0)) := by
    show Mine _ _ _ _
    have := P1.mine
    rw [List.nil_append] at this
    simpa [etextTo, HL.out] using this
  have HK1 : Hid (Blk w1 w.heap.size 30 (nils m)) := HK0.out.touch P1.of_nil (fun q => q)
  clear P1 HT0 HK0
  go_wp2_with fail
  go_loopw [8, 22] (fun v i wx => ∃ t : Nat, t ≤ len ∧ i = .int .i64 t ∧ Hid (Mine wx w.heap.size v (etextTo e t)) ∧ Hid (Blk wx w.heap.size 30 (nils m)) ∧ Hid (Old w wx)) (fun _ i _ => len - (intOf i).toNat)
  case atStart => exact ⟨0, by omega, rfl, HM1, HK1, HO1⟩
  case round =>
    obtain ⟨t, hle, rfl, HMi, HK, HO⟩ := hrel
    clear HM1 HK1 HO1
    by_cases hlt : t < len
    · obtain ⟨x, hx⟩ := get_of_lt (l := e) (n := t) (by rw [HL.out]; exact hlt)
      obtain ⟨bb, off, p, c, rfl, hc0, hd0, hcl, hb⟩ := H.out.en t x hx
      have hc := (HO.out.cell (p := ⟨bb, off + t * 2, none⟩) (lt_of_cell? hc0) (fun q => q)).trans hc0
      have hd := (HO.out.cell (p := ⟨bb, off + t * 2 + 1, none⟩) (lt_of_cell? hd0) (fun q => q)).trans hd0
      have h0 : (0 : Int) ≤ (t : Int) := by omega
      have h1 : (t : Int) < (len : Int) := by omega
      have HX := Lib.hid hx
      have HKx := Lib.hid (HKk.out x (mem_of_get hx))
      have H9x := Lib.hid (H96.out x (mem_of_get hx))
      have HB := Lib.hid hb
      have HTl := Lib.hid (etextTo_length H96.out t)
      rw [H9x.out] at hd
      clear hx hb hcl hc0 hd0
      obtain ⟨k, bs⟩ := x
      simp only at hc hd
      have T1 : Old wr (wr.alloc (.cells #[.int .i64 (k : Int), .slice p 96 c] 115)) := (Touch.refl _ _).alloc _
      have HO1 := Lib.hid (HO.out.trans T1)
      have HMi1 := Lib.hid (HMi.out.old T1)
      have HK1 := Lib.hid (HK.out.touch T1 (fun q => q))
      have K2 : Hid (Blk _ _ _ _) := Blk.new wr 115 [.int .i64 (k : Int), .slice p 96 c]
      clear T1 HMi HK
      go_wp2_with fail
      generalize wr.alloc (.cells #[.int .i64 (k : Int), .slice p 96 c] 115) = wa at *
      generalize wr.heap.size = gx at *
      have hx0 : wa.cell? ⟨gx, 0, none⟩ = some (.int .i64 (k : Int)) := K2.out.cell 0
      have hx1 : wa.cell? ⟨gx, 1, none⟩ = some (.slice p 96 c) := K2.out.cell 1
      have HD : Hid (Old wa wa.drew) := (Touch.refl _ _).drew
      have HMd := Lib.hid (HMi1.out.old HD.out)
      have HOd := Lib.hid (HO1.out.trans HD.out)
      have HKd := Lib.hid (HK1.out.touch HD.out (fun q => q))
      have HXd := Lib.hid (K2.out.touch HD.out (fun q => q))
      clear HMi1 HO1 HK1 K2
      go_region_law (first
        | (refine step_append rfl (.tmp 29) (.tmp 31) 30 30 rfl v2 (.slice p 96 c) rfl rfl _ _ (hap _) ?_)
        | (go_simp; go_at_call 110; refine (put_any u8 _ k 2 w.heap.size _ HMd.out HOd.out.size (by omega) HKx.out (by have := HTl.out; have := HL.out; omega)).mono ?_; rintro x w2 ⟨v2, rfl, P2⟩
           have hx1' : w2.cell? ⟨gx, 1, none⟩ = some (.slice p 96 c) := (HXd.out.touch P2.touch (HMd.out.not_blk HXd.out (by decide))).cell 1
           have hO2 := Touch.blk_old HOd.out (Nat.le_refl _) HMd.out P2.touch
           obtain ⟨v3, w3, hap, P3⟩ := mine_append w2 w.heap.size v2 _ bs p 96 c P2.mine (P2.size HOd.out.size) (HB.out.old hO2).has H9x.out (by rw [List.length_append, high_length]; have := HTl.out; have := HL.out; omega)
           have HP := Lib.hid (P2.trans P3)
           have HO3 := Lib.hid (Touch.blk_old HOd.out (Nat.le_refl _) HMd.out (P2.trans P3).touch)
           clear P2 P3 hO2))
      all_goals
        go_wp2_with fail
        refine ⟨⟨t + 1, by omega, by go_num, ?_, ?_, HO3⟩, by simp [intOf]; omega⟩
        · have := HP.out.mine
          rw [etextTo_next HX.out] at this
          exact this
        · exact HKd.out.touch HP.out.touch (HMd.out.not_blk HKd.out (by decide))
    · obtain rfl : t = len := by omega
      rw [← HL.out, etextTo_all] at HMi
      have hpl := ptext_length H96.out (by rw [HL.out]; exact h0)
      have hel := etext_length H96.out
      obtain ⟨v2, w2, hap, P2⟩ := mine_zeros wr w.heap.size u8 _ (m * 64 - (etext e).length) HMi.out HO.out.size (by have := HM.out; have := HL.out; omega)
      have HO2 : Hid (Old w w2) := Touch.blk_old HO.out (Nat.le_refl _) HMi.out P2.touch
      have HM2 : Hid (Mine w2 w.heap.size v2 (ptext e)) := by
        show Mine _ _ _ _
        have := P2.mine
        unfold ptext
        rw [HL.out, HMm.out]
        exact this
      have HP0 : Hid (PgTo w2 w.heap.size m (leaf r n e) 0) := ⟨nils m, HK.out.touch P2.touch (HMi.out.not_blk HK.out (by decide)), by simp [nils], (fun i hi => absurd hi (Nat.not_lt_zero _))⟩
      obtain ⟨a8, c8, rfl, hc8, _⟩ := HMi.out.form
      have hml : m * 64 ≤ 8388480 := by have := HM.out; omega
      have hle' : (etext e).length ≤ m * 64 := by have := HLP.out; have := HL.out; omega
      have HPL : Hid ((ptext e).length = m * 64) := by show _ = _; rw [hpl, HL.out, HMm.out]
      have hw1 : IntKind.i64.wrap ((m : Int) * 64) = (m : Int) * 64 := wrap_fits ⟨by omega, by omega⟩
      have hcast : ((m * 64 - (etext e).length : Nat) : Int) = (m : Int) * 64 - ((etext e).length : Int) := by omega
      rw [hcast] at hap
      have hw2 : IntKind.i64.wrap ((m : Int) * 64 - ((etext e).length : Int)) = (m : Int) * 64 - ((etext e).length : Int) := wrap_fits ⟨by omega, by omega⟩
      clear P2 HK HMi HO hpl hel hc8 hcast
      generalize (etext e).length = el at *
      go_wp2_with (first | (at_builtin; refine wpList_append_run rfl _ _ 30 3 rfl _ _ rfl rfl _ _ (hap _) ?_))
      clear hap hw2
      go_loopw [44] (fun i wx => ∃ t : Nat, t ≤ m ∧ i = .int .i64 t ∧ Hid (PgTo wx w.heap.size m (leaf r n e) t) ∧ Hid (Mine wx w.heap.size v2 (ptext e)) ∧ Hid (Old w wx)) (fun i _ => m - (intOf i).toNat)
      case atStart => exact ⟨0, by omega, rfl, HP0, HM2, HO2⟩
      case round =>
        obtain ⟨k, hkm, rfl, HP, HMt, HOt⟩ := hrel
        clear HP0 HM2 HO2
        by_cases hlt : k < m
        · have h0 : (0 : Int) ≤ (k : Int) := by omega
          have h1 : (k : Int) < (m : Int) := by omega
          go_wp2_with fail
          refine (put_any (.slice none 0 0) [] r 4 wr.heap.size wr (Mine.nil _ _) (Nat.le_refl _) (by omega) hr (by simp)).mono ?_
          rintro x w1 ⟨b1, rfl, P1⟩
          have HP1 := Lib.hid P1
          clear P1
          go_wp2_with fail
          refine (put_any b1 _ n 4 wr.heap.size w1 HP1.out.mine (HP1.out.size (Nat.le_refl _)) (by omega) hn (by simp [high_length])).mono ?_
          rintro x w2 ⟨b2, rfl, P2⟩
          have HP2 := Lib.hid (HP1.out.trans P2)
          clear P2 HP1
          go_wp2_with fail
          refine (put_any b2 _ k 2 wr.heap.size w2 HP2.out.mine (HP2.out.size (Nat.le_refl _)) (by omega) (by omega) (by simp [high_length])).mono ?_
          rintro x w3 ⟨b3, rfl, P3⟩
          have HP3 := Lib.hid (HP2.out.trans P3)
          clear P3 HP2
          go_wp2_with fail
          refine (put_any b3 _ m 2 wr.heap.size w3 HP3.out.mine (HP3.out.size (Nat.le_refl _)) (by omega) (by omega) (by simp [high_length])).mono ?_
          rintro x w4 ⟨b4, rfl, P4⟩
          have HP4 := Lib.hid (HP3.out.trans P4)
          clear P4 HP3
          obtain ⟨a2, c2, e2, hc2, H2⟩ := HMt.out.form
          rw [HPL.out] at e2 hc2
          subst e2
          have hO4 := HP4.out.of_nil
          have HMt4 := Lib.hid (HMt.out.old hO4)
          obtain ⟨gt, ot, rfl, _⟩ := H2.cell 0 (by rw [HPL.out]; omega)
          have hH4 : Has w4 (some ⟨gt, ot + k * 64, none⟩) (((ptext e).drop (k * 64)).take 64) := (H2.old hO4).part (k * 64) 64
          have hpc : (((ptext e).drop (k * 64)).take 64).length = 64 := by rw [List.length_take, List.length_drop, HPL.out]; omega
          obtain ⟨b5, w5, hap, P5⟩ := mine_append w4 wr.heap.size b4 _ _ _ 64 (c2 - k * 64) HP4.out.mine (HP4.out.size (Nat.le_refl _)) hH4 hpc (by simp [high_length])
          have HP5 := Lib.hid (HP4.out.trans P5)
          have HPc := Lib.hid hpc
          clear P5 HP4 hO4 hH4 H2 hpc
          have q1 : IntKind.i64.wrap ((k : Int) * 64) = (k : Int) * 64 := wrap_fits ⟨by omega, by omega⟩
          have q2 : IntKind.i64.wrap ((k : Int) + 1) = (k : Int) + 1 := wrap_fits ⟨by omega, by omega⟩
          have q3 : IntKind.i64.wrap (((k : Int) + 1) * 64) = ((k : Int) + 1) * 64 := wrap_fits ⟨by omega, by omega⟩
          have q4 : (0 : Int) ≤ (k : Int) * 64 := by omega
          have q5 : (k : Int) * 64 ≤ ((k : Int) + 1) * 64 := by omega
          have q6 : ((k : Int) + 1) * 64 ≤ (c2 : Int) := by omega
          have q7 : ((k : Int) * 64).toNat = k * 64 := by omega
          have q8 : (((k : Int) + 1) * 64).toNat - k * 64 = 64 := by omega
          go_wp2_with (first | (at_builtin; refine wpList_append_run rfl _ _ 30 30 rfl _ _ rfl rfl _ _ (hap _) ?_))
          clear hap
          refine (put_any b5 _ n 4 wr.heap.size w5 HP5.out.mine (HP5.out.size (Nat.le_refl _)) (by omega) hn (by simp [high_length, HPc.out])).mono ?_
          rintro x w6 ⟨b6, rfl, P6⟩
          have HP6 := Lib.hid (HP5.out.trans P6)
          clear P6 HP5
          go_wp2_with fail
          refine (put_any b6 _ r 4 wr.heap.size w6 HP6.out.mine (HP6.out.size (Nat.le_refl _)) (by omega) hr (by simp [high_length, HPc.out])).mono ?_
          rintro x w7 ⟨b7, rfl, P7⟩
          have HP7 := Lib.hid (HP6.out.trans P7)
          clear P7 HP6
          have hT : [] ++ high r 4 ++ high n 4 ++ high k 2 ++ high m 2 ++ ((ptext e).drop (k * 64)).take 64 ++ high n 4 ++ high r 4 = leafText r n k m (((ptext e).drop (k * 64)).take 64) := by simp [leafText]
          rw [hT] at HP7
          have hTl := leafText_length r n k m _ HPc.out
          obtain ⟨a7, c7, e7, hc7, H7⟩ := HP7.out.mine.form
          rw [hTl] at e7
          subst e7
          have HH7 := Lib.hid H7
          have HTl := Lib.hid hTl
          clear H7 hTl hT hc7
          go_wp2_with fail
          refine (closed_any a7 _ 84 c7 w7 HH7.out HTl.out (by omega)).mono ?_
          rintro x w8 ⟨g8, rfl, hg8, O8, T8⟩
          have HO8 : Hid (Own w8 g8 (leaf r n e k)) := by
            show Own _ _ _
            unfold leaf
            rw [HL.out, HMm.out]
            exact O8
          have hOw := HP7.out.of_nil.trans T8
          have HPn := Lib.hid ((HP.out.old hOw).next hlt HO8.out)
          have HMn := Lib.hid (HMt.out.old hOw)
          have HOn := Lib.hid (HOt.out.trans hOw)
          obtain ⟨vc, hcc, hff⟩ := (HP.out.old hOw).cell hlt
          have HBk : Hid (∃ cs, Blk w8 w.heap.size 30 cs) := by
            obtain ⟨cs, hb, _⟩ := HP.out.old hOw
            exact ⟨cs, hb⟩
          clear O8 T8 hOw HH7 HP HP7 HMt HOt hg8
          go_wp2_with fail
          refine ⟨⟨k + 1, by omega, by go_num, HPn, ?_, HOn.out.setCell (.inr (Nat.le_refl _)) _⟩, by simp [intOf]; omega⟩
          obtain ⟨cs, hb⟩ := HBk.out
          exact HMn.out.touch (Touch.one ⟨w.heap.size, k, none⟩ _) (fun q hq e => HMn.out.not_blk hb (by decide) (by rw [← show q = w.heap.size from e]; exact hq))
        · obtain rfl : k = m := by omega
          go_wp2_with fail
          go_ret
          refine ⟨_, rfl, Nat.le_refl _, ?_, HOt.out⟩
          have := HP.out.pgs (fun i hi => by
            unfold leaf
            rw [track_length (by rw [leafText_length _ _ _ _ _ (by rw [List.length_take, List.length_drop, HPL.out]; omega)]; omega)])
          unfold posting
          rw [HL.out, HMm.out]
          exact this
end Go.Proofs.YtjajenkagcdhlaaGreat
