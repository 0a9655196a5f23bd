/- The reference's Settle. -/
import Derived.Test.YthbkhhcijekplaaRefLay
namespace Go.Proofs.Ythbkhhcijekplaa
open Go.RowKit

/-- Afloat is made none. -/
theorem RAt.afl_none {w0 w : World} {r : Nat} {vt va : Value} {D : DS} (h : RAt w0 r vt va D w) : RAt w0 r vt (.slice none 0 0) { D with A := [] } (w.setCell ⟨r, 1, none⟩ (.slice none 0 0)) := by
  have T : Touch (fun q => q = r) w (w.setCell ⟨r, 1, none⟩ (.slice none 0 0)) := Touch.one ⟨r, 1, none⟩ _
  exact ⟨h.head.set 1 _, owns_touch h.tr T (fun q hq e => own_blk h.tr h.head (by decide) (by rw [hq, e])), World.ownsRow_nil _ _ _ _⟩

set_option maxRecDepth 100000 in
set_option maxHeartbeats 3200000 in
theorem rsettle_any {w0 w : World} {r : Nat} {D : DS} (h : Rs w0 r D w) (ok : D.Ok) (ht : D.turns ≤ 99999) (h0w : w0.heap.size ≤ w.heap.size) :
    Calls Try.prog 23 #[.pointer (some ⟨r, 0, none⟩)] w fun e w' => e = .returned (.int .i64 D.err) ∧ RNext w0 r D.settle w w' := by
  have HTn := Lib.hid (rturn_any h (by omega) ok.left)
  have HOk := Lib.hid ok.turned
  have hA : D.turned.A.length ≤ 99999 := by rw [DS.turned_A]; exact Nat.le_trans ok.long ht
  clear h ok ht
  cases hg : D.goes with
  | false =>
    have e2 : D.err = 4 := by unfold DS.err; rw [hg]; rfl
    have e3 : D.settle = D.turned := by unfold DS.settle; rw [hg]; rfl
    rw [e2] at HTn ⊢
    rw [e3]
    clear e2 e3 hg
    go_enter Try.func23, Try.ntmps23
    go_wp2_with fail
    refine HTn.out.mono ?_
    rintro e w1 ⟨rfl, N1⟩
    have HN := Lib.hid N1
    clear N1
    go_wp2_with fail
    go_ret
    exact ⟨rfl, HN.out⟩
  | true =>
    have e2 : D.err = 0 := by unfold DS.err; rw [hg]; rfl
    have HE3 : Hid (D.settle = { D.turned.upto D.turned.A.length with A := [] }) := by show _ = _; unfold DS.settle; rw [hg]; simp [DS.upto, DS.seen, DS.turned_T, DS.turned_A]
    rw [e2] at HTn ⊢
    clear e2 hg
    go_enter Try.func23, Try.ntmps23
    go_wp2_with fail
    refine HTn.out.mono ?_
    rintro e w1 ⟨rfl, N1⟩
    obtain ⟨R1, T1⟩ := N1
    obtain ⟨vt, va, ha⟩ := R1.ex
    have HLo := Lib.hid R1.lo
    obtain ⟨aa, ca, rfl⟩ := rlain_form ha.af
    have HI0 : Hid ((∃ vt, RAt w0 r vt (.slice aa D.turned.A.length ca) (D.turned.upto 0) w1) ∧ Touch (rmine w0 w) w w1) := by
      have e : D.turned.upto 0 = D.turned := by simp [DS.upto, over]
      exact ⟨⟨vt, by rw [e]; exact ha⟩, T1⟩
    clear R1 T1 ha HTn
    generalize hM : D.turned.A.length = m at *
    have HM := Lib.hid hM
    clear hM
    go_wp2_with fail
    go_loopw [4] (fun i wx => ∃ t : Nat, t ≤ m ∧ i = .int .i64 t ∧ Hid ((∃ vt, RAt w0 r vt (.slice aa m ca) (D.turned.upto t) wx) ∧ Touch (rmine w0 w) w wx)) (fun i _ => m - (intOf i).toNat)
    case atStart => exact ⟨0, by omega, rfl, HI0⟩
    case round =>
      obtain ⟨t, hle, rfl, HI⟩ := hrel
      clear HI0
      obtain ⟨⟨vt2, a2⟩, T2⟩ := HI.out
      have hc1 : wr.cell? ⟨r, 1, none⟩ = some (.slice aa m ca) := a2.head.cell 1
      have hf1 : wr.frozen? ⟨r, 1, none⟩ = false := a2.head.frozen 1
      have HA2 := Lib.hid a2
      have HT2 := Lib.hid T2
      clear HI T2
      by_cases hlt : t < m
      · obtain ⟨x, hx⟩ := get_of_lt (l := D.turned.A) (n := t) (by rw [HM.out]; exact hlt)
        have hx' := HOk.out.lay x (mem_of_get hx)
        have haf := a2.af
        rw [show (D.turned.upto t).A = D.turned.A from rfl, HM.out] at haf
        obtain ⟨ga, rfl, _, _, _⟩ := row_ptr haf (by omega)
        have HNx := Lib.hid (upto_succ hx)
        have ad := a2.old (w' := wr.drew) ((Touch.refl _ _).drew) HLo.out
        have afd := ad.af
        rw [show (D.turned.upto t).A = D.turned.A from rfl, HM.out] at afd
        have HS0 : Hid (wr.drew.cell? ⟨r, 1, none⟩ = some (.slice (some ⟨ga, 0, none⟩) m ca) ∧ wr.drew.cell? ⟨ga, t * 2, none⟩ = some (.int .i64 (x.1 : Int)) ∧ wr.drew.cell? ⟨ga, t * 2 + 1, none⟩ = some (.string (strOf x.2))) := ⟨ad.head.cell 1, rlain_cells HM.out afd hx⟩
        have HRm := Lib.hid (rmine_r ad HLo.out)
        have HSet := Lib.hid (rset_at HLo.out ad (by rw [upto_length]; exact HOk.out.few) (by rw [upto_length]; exact HOk.out.many) (Nat.le_trans h0w HT2.out.size) x.1 x.2 (by rw [upto_length]; exact hx'.1))
        have HXg := Lib.hid hx
        have ht0 : (0 : Int) ≤ (t : Int) := by omega
        have ht1 : (t : Int) < (m : Int) := by omega
        clear haf afd ad a2 hx hx' hf1
        go_wp2_with fail
        go_region_held3 (fun w' => w'.cell? ⟨r, 1, none⟩ = some (.slice (some ⟨ga, 0, none⟩) m ca) ∧ w'.cell? ⟨ga, t * 2, none⟩ = some (.int .i64 (x.1 : Int)) ∧ w'.cell? ⟨ga, t * 2 + 1, none⟩ = some (.string (strOf x.2))) (first | exact HS0.out | exact HS1.out)
          (first | (go_at_call 36; refine HSet.out.mono ?_; rintro e w7 ⟨rfl, ⟨vt7, a7⟩, T7⟩; have afd := a7.af; rw [show ({ D.turned.upto t with T := (D.turned.upto t).T.set x.1 x.2 } : DS).A = D.turned.A from rfl, HM.out] at afd; have HS1 : Hid (w7.cell? ⟨r, 1, none⟩ = some (.slice (some ⟨ga, 0, none⟩) m ca) ∧ w7.cell? ⟨ga, t * 2, none⟩ = some (.int .i64 (x.1 : Int)) ∧ w7.cell? ⟨ga, t * 2 + 1, none⟩ = some (.string (strOf x.2))) := ⟨a7.head.cell 1, rlain_cells HM.out afd HXg.out⟩; have HA7 := Lib.hid a7; have HT7 := Lib.hid T7; clear a7 T7 afd))
        go_wp2_with fail
        refine ⟨⟨t + 1, by omega, by go_num, ⟨vt7, by rw [HNx.out]; exact HA7.out⟩, (HT2.out.drew).rtrans (HT7.out.mono (fun q _ hq => by rw [hq]; exact HRm.out))⟩, by simp [intOf]; omega⟩
      · obtain rfl : t = m := by omega
        go_wp2_with fail
        go_ret
        refine ⟨rfl, ?_, HT2.out.rtrans (Touch.head HA2.out HLo.out 1 _)⟩
        rw [HE3.out]
        exact ⟨HLo.out, vt2, _, HA2.out.afl_none⟩
end Go.Proofs.Ythbkhhcijekplaa
