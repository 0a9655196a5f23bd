/- The reference's Fall. -/
import Derived.Test.YtmingbgohdhajaaGreatRefD
import Derived.StillTailTactics
namespace Go.Proofs.YtmingbgohdhajaaGreat
open Go.RowKit

/-- How many bytes are done, as far as the first j numbers of keep tell. -/
def partUp (ys : List Int) (torn cut : Int) (i j : Nat) : Nat := if among (ys.take j) i = true then 96 else if (i : Int) = torn then cutOf cut else 0
theorem partUp_succ {ys : List Int} {torn cut : Int} {i j : Nat} {y : Int} (h : ys[j]? = some y) : partUp ys torn cut i (j + 1) = if y = (i : Int) then 96 else partUp ys torn cut i j := by
  unfold partUp
  rw [take_get h, among_snoc]
  by_cases e : y = (i : Int)
  · rw [if_pos e, if_pos (by simp [e])]
  · rw [if_neg e]
    have : decide ((i : Int) = y) = false := by simp; omega
    rw [this, Bool.or_false]
theorem partUp_all (ys : List Int) (torn cut : Int) (i : Nat) : partUp ys torn cut i ys.length = partOf ys torn cut i := by
  unfold partUp partOf
  rw [List.take_length]
theorem partUp_zero (ys : List Int) (torn cut : Int) (i : Nat) : partUp ys torn cut i 0 = if (i : Int) = torn then cutOf cut else 0 := by
  unfold partUp
  rw [if_neg (by simp [among])]
theorem partUp_le (ys : List Int) (torn cut : Int) (i j : Nat) : partUp ys torn cut i j ≤ 96 := by
  unfold partUp
  have := cutOf_le cut
  split
  · omega
  · split <;> omega

set_option maxRecDepth 100000 in
set_option maxHeartbeats 6400000 in
theorem rfall_any {w0 w : World} {r : Nat} {D : DS} (h : Rs w0 r D w) (ok : D.Ok) (ht : D.turns ≤ 100000) (h0w : w0.heap.size ≤ w.heap.size) (ak : Option Addr) (ys : List Int) (len cap : Nat) (torn cut : Int) (hlen : ys.length = len) (hlm : len ≤ 1000)
    (hst : ∀ w', Touch (rmine w0 w) w w' → HasI w' ak ys) :
    Calls Tryz.prog 17 #[.pointer (some ⟨r, 0, none⟩), .slice ak len cap, .int .i64 torn, .int .i64 cut] w fun e w' => e = .returned (.tuple #[]) ∧ RNext w0 r (D.fall (partOf ys torn cut)) w w' := by
  have HOk := Lib.hid ok
  have hA : D.A.length ≤ 100000 := Nat.le_trans ok.long ht
  obtain ⟨vt, va, ha⟩ := h.ex
  have HLo := Lib.hid h.lo
  obtain ⟨aa, ca, rfl⟩ := rlain_form ha.af
  have HI0 : Hid ((∃ vt, RAt w0 r vt (.slice aa D.A.length ca) (D.fallen (partOf ys torn cut) 0) w) ∧ Touch (rmine w0 w) w w) := ⟨⟨vt, ha⟩, Touch.refl _ _⟩
  have HSt := Lib.hid hst
  have HYl := Lib.hid hlen
  have hcu : max 0 (min cut 96) = (cutOf cut : Int) := by unfold cutOf; omega
  have HFin : Hid (D.fall (partOf ys torn cut) = { D.fallen (partOf ys torn cut) D.A.length with A := [], down := false, left := none }) := rfl
  clear h ha ok ht hst hlen
  generalize hM : D.A.length = m at *
  have HM := Lib.hid hM
  clear hM
  go_enter Tryz.func17, Tryz.ntmps17
  go_wp2_with fail
  go_loopw [8] (fun i wx => ∃ t : Nat, t ≤ m ∧ i = .int .i64 t ∧ Hid ((∃ vt, RAt w0 r vt (.slice aa m ca) (D.fallen (partOf ys torn cut) t) wx) ∧ Touch (rmine w0 w) w wx)) (fun i _ => m - (intOf i).toNat)
  case atStart => exact ⟨0, by omega, rfl, HI0⟩
  case round =>
    obtain ⟨t, hle, rfl, HI⟩ := hrel
    clear HI0
    obtain ⟨⟨vt2, a2⟩, T2⟩ := HI.out
    have hc1 : wr.cell? ⟨r, 1, none⟩ = some (.slice aa m ca) := a2.head.cell 1
    have HA2 := Lib.hid a2
    have HT2 := Lib.hid T2
    clear HI T2
    by_cases hlt : t < m
    · obtain ⟨x, hx⟩ := get_of_lt (l := D.A) (n := t) (by rw [HM.out]; exact hlt)
      have hx' := HOk.out.lay x (mem_of_get hx)
      have haf := a2.af
      rw [show (D.fallen (partOf ys torn cut) t).A = D.A from rfl, HM.out] at haf
      obtain ⟨ga, rfl, _, _, _⟩ := row_ptr haf (by omega)
      obtain ⟨hx0, hx1⟩ := rlain_cells HM.out haf hx
      obtain ⟨o, ho⟩ := get_of_lt (l := (D.fallen (partOf ys torn cut) t).T) (n := x.1) (by rw [fallen_length]; exact hx'.1)
      have HNx := Lib.hid (fallen_succ hx ho)
      have HOo := Lib.hid ho
      have HX := Lib.hid hx'.2
      have HX1 := Lib.hid hx'.1
      have HOT := Lib.hid (fallen_trk HOk.out (partOf_le ys torn cut) (i := t) (by rw [HM.out]; exact hle) o (mem_of_get ho))
      have ht0 : (0 : Int) ≤ (t : Int) := by omega
      have ht1 : (t : Int) < (m : Int) := by omega
      have HYs := Lib.hid (HSt.out wr HT2.out)
      obtain ⟨at_, ct, rfl⟩ := str_form a2.tr
      obtain ⟨gt, rfl, _, _, _⟩ := row_ptr a2.tr (by rw [fallen_length]; have := HOk.out.few; omega)
      have T3 : Old wr (wr.alloc (.cells #[.int .i64 (x.1 : Int), .string (strOf x.2)] 109)) := (Touch.refl _ _).alloc _
      have HA3 := Lib.hid (a2.old T3 HLo.out)
      have HT3 := Lib.hid (HT2.out.trans (Touch.of_old T3))
      have HK3 : Hid (Blk (wr.alloc (.cells #[.int .i64 (x.1 : Int), .string (strOf x.2)] 109)) wr.heap.size 109 [.int .i64 (x.1 : Int), .string (strOf x.2)]) := Blk.new wr 109 _
      have HYs3 := Lib.hid (HSt.out _ HT3.out)
      have hlr : r ≠ wr.heap.size := by have := a2.head.lt; omega
      clear haf hx hx' ho a2 T3 HA2 HT2 HYs
      generalize hw3 : wr.alloc (.cells #[.int .i64 (x.1 : Int), .string (strOf x.2)] 109) = w3 at *
      generalize hl3 : wr.heap.size = l3 at *
      have hp0 : Hid (∀ q : Int, ((t : Int) = torn ∧ q = (cutOf cut : Int)) ∨ (¬ (t : Int) = torn ∧ q = 0) → q = (partUp ys torn cut t 0 : Int)) := fun q hq => by
        rw [partUp_zero]
        rcases hq with ⟨h1, rfl⟩ | ⟨h1, rfl⟩
        · rw [if_pos h1]
        · rw [if_neg h1]; rfl
      by_cases htn : (t : Int) = torn
      case pos => (
        subst htn
        have hP0 := Lib.hid (hp0.out _ (.inl ⟨rfl, rfl⟩))
        clear hp0
        go_wp2_with fail
        go_loopw [10, 11] (fun v i wx => ∃ j : Nat, j ≤ len ∧ i = .int .i64 j ∧ v = .int .i64 (partUp ys (t : Int) cut t j : Int) ∧ wx = w3) (fun _ i _ => len - (intOf i).toNat)
        case atStart => exact ⟨0, by omega, rfl, by rw [← hP0.out], rfl⟩
        case round =>
          obtain ⟨j, hj, rfl, rfl, rfl⟩ := hrel
          by_cases hjl : j < len
          · obtain ⟨y, hy⟩ := get_of_lt (l := ys) (n := j) (by rw [HYl.out]; exact hjl)
            obtain ⟨kb, ko, rfl, hcy⟩ := HYs3.out.cell j (by rw [HYl.out]; exact hjl)
            rw [getD_of hy] at hcy
            have HNy := Lib.hid (partUp_succ (torn := (t : Int)) (cut := cut) (i := t) hy)
            have hj0 : (0 : Int) ≤ (j : Int) := by omega
            have hj1 : (j : Int) < (len : Int) := by omega
            clear hy hw3 hl3
            by_cases hyt : y = (t : Int)
            · subst hyt
              rw [if_pos rfl] at HNy
              go_wp2_with fail
              exact ⟨⟨j + 1, by omega, by go_num, by rw [HNy.out]; rfl, trivial⟩, by simp [intOf]; omega⟩
            · have hyt2 : (y == (t : Int)) = false := by simpa using hyt
              rw [if_neg hyt] at HNy
              generalize partUp ys (t : Int) cut t j = pj at *
              go_wp2_with fail
              exact ⟨⟨j + 1, by omega, by go_num, by rw [HNy.out], trivial⟩, by simp [intOf]; omega⟩
          · obtain rfl : j = len := by omega
            have hpe : partUp ys (t : Int) cut t j = partOf ys (t : Int) cut t := by rw [← HYl.out]; exact partUp_all ys (t : Int) cut t
            rw [hpe]
            have hple := partOf_le ys (t : Int) cut t
            have HT3' := Lib.hid HT3.out.drew
            have ad := HA3.out.old (w' := wr.drew) ((Touch.refl _ _).drew) HLo.out
            have kd : Blk wr.drew l3 109 [.int .i64 (x.1 : Int), .string (strOf x.2)] := HK3.out
            have hgt : wr.drew.cell? ⟨gt, x.1, none⟩ = some (.string (strOf o)) := by
              rw [ad.tr.cellAt x.1 (by rw [fallen_length]; have := HX1.out; omega), rstrs_get HOo.out]
            have HS0 : Hid (wr.drew.cell? ⟨l3, 0, none⟩ = some (.int .i64 (x.1 : Int)) ∧ wr.drew.cell? ⟨l3, 1, none⟩ = some (.string (strOf x.2)) ∧ wr.drew.cell? ⟨r, 0, none⟩ = some (.slice (some ⟨gt, 0, none⟩) (D.fallen (partOf ys (t : Int) cut) t).T.length ct) ∧ wr.drew.cell? ⟨gt, x.1, none⟩ = some (.string (strOf o))) := ⟨kd.cell 0, kd.cell 1, ad.head.cell 0, hgt⟩
            have HSet := Lib.hid (rset_at HLo.out ad (by rw [fallen_length]; exact HOk.out.few) (by rw [fallen_length]; exact HOk.out.many) (Nat.le_trans h0w HT3'.out.size) x.1 (mix (partOf ys (t : Int) cut t) x.2 o) (by rw [fallen_length]; exact HX1.out))
            have hsx : (strOf x.2).size = 96 := by rw [rstr_size, HX.out.len]
            have hso : (strOf o).size = 96 := by rw [rstr_size, HOT.out.len]
            have HCat := rstr_mix x.2 o (partOf ys (t : Int) cut t) HOT.out.len
            rw [← HCat] at HSet
            have HRm := Lib.hid (rmine_r ad HLo.out)
            have hlt3 := Lib.hid kd.lt
            have hgtl := Lib.hid (lt_of_cell? hgt)
            have hgr : Hid (gt ≠ r) := fun e => by
              obtain ⟨g2, e1, _, cs2, hb2⟩ := row_ptr ad.tr (by rw [fallen_length]; have := HOk.out.few; omega)
              cases e1
              exact hb2.ne ad.head (by decide) e
            have HFl := Lib.hid (fallen_length D (partOf ys (t : Int) cut) t)
            have hlenx : x.1 < (D.fallen (partOf ys (t : Int) cut) t).T.length := by rw [fallen_length]; exact HX1.out
            have HN4 : Hid (∀ w7, (∃ vt', RAt w0 r vt' (.slice (some ⟨ga, 0, none⟩) m ca) { D.fallen (partOf ys (t : Int) cut) t with T := (D.fallen (partOf ys (t : Int) cut) t).T.set x.1 (mix (partOf ys (t : Int) cut t) x.2 o) } w7) → Touch (fun q => q = r) wr.drew w7 → (∃ vt, RAt w0 r vt (.slice (some ⟨ga, 0, none⟩) m ca) (D.fallen (partOf ys (t : Int) cut) (t + 1)) w7) ∧ Touch (rmine w0 w) w w7) := fun w7 h7 T7 => by
              refine ⟨by rw [HNx.out]; exact h7, HT3'.out.rtrans (T7.mono (fun q _ hq => by rw [hq]; exact HRm.out))⟩
            clear HCat ad kd hgt hw3 hl3 HNx HT3 HT3' HA3 HK3 HOo HOT HX HX1 hx0 hx1 hpe
            generalize (D.fallen (partOf ys (t : Int) cut) t).T.length = n at *
            generalize partOf ys (t : Int) cut t = p at *
            have hp0 : (0 : Int) ≤ (p : Int) := by omega
            have hp9 : (p : Int) ≤ 96 := by omega
            have hxi0 : (0 : Int) ≤ (x.1 : Int) := by omega
            have hxi1 : (x.1 : Int) < (n : Int) := by omega
            generalize strOf x.2 = sx at *
            generalize strOf o = so at *
            go_wp2_with fail
            obtain ⟨q0, q1, q2, q3⟩ := HS0.out
            go_still_tail 18, (by kernel_rfl)
            change wpList _ _ _ _ _ wr.drew
            clear q0 q1 q2 q3 HS0
            generalize wr.drew = wd at *
            go_wp2_with fail
            refine HSet.out.mono ?_
            rintro e w7 ⟨rfl, h7, T7⟩
            have HE7 := Lib.hid (HN4.out w7 h7 T7)
            clear h7 T7 HSet HN4
            go_wp2_with fail
            exact ⟨⟨t + 1, by omega, by go_num, HE7⟩, by simp [intOf]; omega⟩
      )
      case neg => (
        have hP0 := Lib.hid (hp0.out _ (.inr ⟨htn, rfl⟩))
        have htn2 : ((t : Int) == torn) = false := by simpa using htn
        clear hp0
        go_wp2_with fail
        go_loopw [10, 11] (fun v i wx => ∃ j : Nat, j ≤ len ∧ i = .int .i64 j ∧ v = .int .i64 (partUp ys torn cut t j : Int) ∧ wx = w3) (fun _ i _ => len - (intOf i).toNat)
        case atStart => exact ⟨0, by omega, rfl, by rw [← hP0.out], rfl⟩
        case round =>
          obtain ⟨j, hj, rfl, rfl, rfl⟩ := hrel
          by_cases hjl : j < len
          · obtain ⟨y, hy⟩ := get_of_lt (l := ys) (n := j) (by rw [HYl.out]; exact hjl)
            obtain ⟨kb, ko, rfl, hcy⟩ := HYs3.out.cell j (by rw [HYl.out]; exact hjl)
            rw [getD_of hy] at hcy
            have HNy := Lib.hid (partUp_succ (torn := torn) (cut := cut) (i := t) hy)
            have hj0 : (0 : Int) ≤ (j : Int) := by omega
            have hj1 : (j : Int) < (len : Int) := by omega
            clear hy hw3 hl3
            by_cases hyt : y = (t : Int)
            · subst hyt
              rw [if_pos rfl] at HNy
              go_wp2_with fail
              exact ⟨⟨j + 1, by omega, by go_num, by rw [HNy.out]; rfl, trivial⟩, by simp [intOf]; omega⟩
            · have hyt2 : (y == (t : Int)) = false := by simpa using hyt
              rw [if_neg hyt] at HNy
              generalize partUp ys torn cut t j = pj at *
              go_wp2_with fail
              exact ⟨⟨j + 1, by omega, by go_num, by rw [HNy.out], trivial⟩, by simp [intOf]; omega⟩
          · obtain rfl : j = len := by omega
            have hpe : partUp ys torn cut t j = partOf ys torn cut t := by rw [← HYl.out]; exact partUp_all ys torn cut t
            rw [hpe]
            have hple := partOf_le ys torn cut t
            have HT3' := Lib.hid HT3.out.drew
            have ad := HA3.out.old (w' := wr.drew) ((Touch.refl _ _).drew) HLo.out
            have kd : Blk wr.drew l3 109 [.int .i64 (x.1 : Int), .string (strOf x.2)] := HK3.out
            have hgt : wr.drew.cell? ⟨gt, x.1, none⟩ = some (.string (strOf o)) := by
              rw [ad.tr.cellAt x.1 (by rw [fallen_length]; have := HX1.out; omega), rstrs_get HOo.out]
            have HS0 : Hid (wr.drew.cell? ⟨l3, 0, none⟩ = some (.int .i64 (x.1 : Int)) ∧ wr.drew.cell? ⟨l3, 1, none⟩ = some (.string (strOf x.2)) ∧ wr.drew.cell? ⟨r, 0, none⟩ = some (.slice (some ⟨gt, 0, none⟩) (D.fallen (partOf ys torn cut) t).T.length ct) ∧ wr.drew.cell? ⟨gt, x.1, none⟩ = some (.string (strOf o))) := ⟨kd.cell 0, kd.cell 1, ad.head.cell 0, hgt⟩
            have HSet := Lib.hid (rset_at HLo.out ad (by rw [fallen_length]; exact HOk.out.few) (by rw [fallen_length]; exact HOk.out.many) (Nat.le_trans h0w HT3'.out.size) x.1 (mix (partOf ys torn cut t) x.2 o) (by rw [fallen_length]; exact HX1.out))
            have hsx : (strOf x.2).size = 96 := by rw [rstr_size, HX.out.len]
            have hso : (strOf o).size = 96 := by rw [rstr_size, HOT.out.len]
            have HCat := rstr_mix x.2 o (partOf ys torn cut t) HOT.out.len
            rw [← HCat] at HSet
            have HRm := Lib.hid (rmine_r ad HLo.out)
            have hlt3 := Lib.hid kd.lt
            have hgtl := Lib.hid (lt_of_cell? hgt)
            have hgr : Hid (gt ≠ r) := fun e => by
              obtain ⟨g2, e1, _, cs2, hb2⟩ := row_ptr ad.tr (by rw [fallen_length]; have := HOk.out.few; omega)
              cases e1
              exact hb2.ne ad.head (by decide) e
            have HFl := Lib.hid (fallen_length D (partOf ys torn cut) t)
            have hlenx : x.1 < (D.fallen (partOf ys torn cut) t).T.length := by rw [fallen_length]; exact HX1.out
            have HN4 : Hid (∀ w7, (∃ vt', RAt w0 r vt' (.slice (some ⟨ga, 0, none⟩) m ca) { D.fallen (partOf ys torn cut) t with T := (D.fallen (partOf ys torn cut) t).T.set x.1 (mix (partOf ys torn cut t) x.2 o) } w7) → Touch (fun q => q = r) wr.drew w7 → (∃ vt, RAt w0 r vt (.slice (some ⟨ga, 0, none⟩) m ca) (D.fallen (partOf ys torn cut) (t + 1)) w7) ∧ Touch (rmine w0 w) w w7) := fun w7 h7 T7 => by
              refine ⟨by rw [HNx.out]; exact h7, HT3'.out.rtrans (T7.mono (fun q _ hq => by rw [hq]; exact HRm.out))⟩
            clear HCat ad kd hgt hw3 hl3 HNx HT3 HT3' HA3 HK3 HOo HOT HX HX1 hx0 hx1 hpe
            generalize (D.fallen (partOf ys torn cut) t).T.length = n at *
            generalize partOf ys torn cut t = p at *
            have hp0 : (0 : Int) ≤ (p : Int) := by omega
            have hp9 : (p : Int) ≤ 96 := by omega
            have hxi0 : (0 : Int) ≤ (x.1 : Int) := by omega
            have hxi1 : (x.1 : Int) < (n : Int) := by omega
            generalize strOf x.2 = sx at *
            generalize strOf o = so at *
            go_wp2_with fail
            obtain ⟨q0, q1, q2, q3⟩ := HS0.out
            go_still_tail 18, (by kernel_rfl)
            change wpList _ _ _ _ _ wr.drew
            clear q0 q1 q2 q3 HS0
            generalize wr.drew = wd at *
            go_wp2_with fail
            refine HSet.out.mono ?_
            rintro e w7 ⟨rfl, h7, T7⟩
            have HE7 := Lib.hid (HN4.out w7 h7 T7)
            clear h7 T7 HSet HN4
            go_wp2_with fail
            exact ⟨⟨t + 1, by omega, by go_num, HE7⟩, by simp [intOf]; omega⟩
      )
    · obtain rfl : t = m := by omega
      have hf1 : wr.frozen? ⟨r, 1, none⟩ = false := a2.head.frozen 1
      have hc3 : wr.cell? ⟨r, 3, none⟩ = some (.bool D.down) := a2.head.cell 3
      have hf3 : wr.frozen? ⟨r, 3, none⟩ = false := a2.head.frozen 3
      have hc2 : wr.cell? ⟨r, 2, none⟩ = some (.int .i64 (leftOf D.left)) := a2.head.cell 2
      have hf2 : wr.frozen? ⟨r, 2, none⟩ = false := a2.head.frozen 2
      have a3 := a2.afl_none
      have a4 : RAt w0 r vt2 (.slice none 0 0) { D.fallen (partOf ys torn cut) t with A := [], down := false } _ := a3.set 3 (.bool false) rfl rfl rfl
      have a5 : RAt w0 r vt2 (.slice none 0 0) { D.fallen (partOf ys torn cut) t with A := [], down := false, left := none } _ := a4.set 2 (.int .i64 (-1)) rfl rfl rfl
      have HE := Lib.hid a5
      have HT5 := Lib.hid (((HT2.out.rtrans (Touch.head a2 HLo.out 1 (.slice none 0 0))).rtrans (Touch.head a3 HLo.out 3 (.bool false))).rtrans (Touch.head a4 HLo.out 2 (.int .i64 (-1))))
      clear a2 a3 a4 a5
      generalize leftOf D.left = lq at *
      generalize D.down = dq at *
      go_wp2_with fail
      go_end0
      refine ⟨rfl, ?_, HT5.out⟩
      rw [HFin.out]
      exact ⟨HLo.out, vt2, _, HE.out⟩
end Go.Proofs.YtmingbgohdhajaaGreat
