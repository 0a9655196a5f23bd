/- Contracts of a drum's small methods: has, Tracks, Turns, Broken, turn, Break, Look. -/
import Derived.Test.YtjajenkagcdhlaaGreatMem
import Derived.Deep.RegionHeld3
namespace Go.Proofs.YtjajenkagcdhlaaGreat
open Go.RowKit
set_option maxRecDepth 100000

theorem has_yes (d k : Nat) (b : Bl) (D : DS) (V : List (List Nat)) (w : World) (h : At d b D V w) (hk : k < D.T.length) :
    Calls Tryz.prog 59 #[.pointer (some ⟨d, 0, none⟩), .int .i64 k] w fun e w' => e = .returned (.bool true) ∧ w = w' := by
  have hc : w.cell? ⟨d, 1, none⟩ = some (.slice (some ⟨b.v, 0, none⟩) D.T.length D.T.length) := h.head.cell 1
  generalize D.T.length = n at *
  clear h
  have h0 : (0 : Int) ≤ (k : Int) := by omega
  have h1 : (k : Int) < (n : Int) := by omega
  go_enter Tryz.func59, Tryz.ntmps59
  go_wp2
  go_ret
  exact ⟨rfl, rfl⟩
theorem has_no (d : Nat) (k : Int) (b : Bl) (D : DS) (V : List (List Nat)) (w : World) (h : At d b D V w) (hk : k < 0 ∨ (D.T.length : Int) ≤ k) :
    Calls Tryz.prog 59 #[.pointer (some ⟨d, 0, none⟩), .int .i64 k] w fun e w' => e = .returned (.bool false) ∧ w = w' := by
  have hc : w.cell? ⟨d, 1, none⟩ = some (.slice (some ⟨b.v, 0, none⟩) D.T.length D.T.length) := h.head.cell 1
  generalize D.T.length = n at *
  clear h
  by_cases h0 : (0 : Int) ≤ k
  · have h1 : ¬ k < (n : Int) := by omega
    clear hk
    go_enter Tryz.func59, Tryz.ntmps59
    go_wp2
    go_ret
    exact ⟨rfl, rfl⟩
  · clear hk
    go_enter Tryz.func59, Tryz.ntmps59
    go_wp2
    go_ret
    exact ⟨rfl, rfl⟩

theorem tracks_any (d : Nat) (b : Bl) (D : DS) (V : List (List Nat)) (w : World) (h : At d b D V w) :
    Calls Tryz.prog 90 #[.pointer (some ⟨d, 0, none⟩)] w fun e w' => e = .returned (.int .i64 D.T.length) ∧ w = w' := by
  have hc : w.cell? ⟨d, 1, none⟩ = some (.slice (some ⟨b.v, 0, none⟩) D.T.length D.T.length) := h.head.cell 1
  generalize D.T.length = n at *
  clear h
  go_enter Tryz.func90, Tryz.ntmps90
  go_wp2
  go_ret
  exact ⟨rfl, rfl⟩

theorem broken_any (d : Nat) (b : Bl) (D : DS) (V : List (List Nat)) (w : World) (h : At d b D V w) :
    Calls Tryz.prog 25 #[.pointer (some ⟨d, 0, none⟩)] w fun e w' => e = .returned (.bool D.down) ∧ w = w' := by
  have hc : w.cell? ⟨d, 5, none⟩ = some (.pointer (some ⟨b.f, 0, none⟩)) := h.head.cell 5
  have hf : Hid (w.cell? ⟨b.f, 0, none⟩ = some (.int .u32 (bit D.down))) := h.flag.cell 0
  clear h
  go_enter Tryz.func25, Tryz.ntmps25
  go_wp2_with fail
  refine (flag_raised b.f D.down w hf.out).mono ?_
  rintro e w' ⟨rfl, rfl⟩
  go_wp2_with fail
  go_ret
  exact ⟨rfl, rfl⟩

/-- A turn's end. -/
def Turns (d : Nat) (b : Bl) (D : DS) (V : List (List Nat)) (w : World) (e : Ending) (w' : World) : Prop :=
  e = .returned (.bool D.goes) ∧ At d b D.turned V w' ∧ Touch (foot d b) w w'

theorem goes_down {D : DS} (h : D.down = true) : D.goes = false := by simp [DS.goes, h]
theorem goes_left {D : DS} (h : D.left = some 0) : D.goes = false := by simp [DS.goes, h]
theorem goes_yes {D : DS} (h : D.down = false) (h' : D.left ≠ some 0) : D.goes = true := by
  unfold DS.goes
  rw [h]
  simp [h']

set_option maxRecDepth 100000 in
set_option maxHeartbeats 1600000 in
theorem turn_any (d : Nat) (b : Bl) (D : DS) (V : List (List Nat)) (w : World) (h : At d b D V w) (ok : D.Ok) (ht : D.turns ≤ 100000) :
    Calls Tryz.prog 60 #[.pointer (some ⟨d, 0, none⟩)] w (Turns d b D V w) := by
  have hc5 : w.cell? ⟨d, 5, none⟩ = some (.pointer (some ⟨b.f, 0, none⟩)) := h.head.cell 5
  have hc4 : w.cell? ⟨d, 4, none⟩ = some b.well := h.head.cell 4
  have hf : Hid (w.cell? ⟨b.f, 0, none⟩ = some (.int .u32 (bit D.down))) := h.flag.cell 0
  have H := Lib.hid h
  have HT := Lib.hid ht
  have HO := Lib.hid ok
  clear h ht ok
  cases hd : D.down with
  | true =>
    have HG := Lib.hid (goes_down hd)
    have Hd := Lib.hid hd
    clear hd
    go_enter Tryz.func60, Tryz.ntmps60
    go_wp2_with fail
    refine (flag_raised b.f D.down w hf.out).mono ?_
    rintro e w' ⟨rfl, rfl⟩
    rw [Hd.out]
    go_wp2_with fail
    go_ret
    refine ⟨by rw [HG.out]; rfl, ?_, Touch.refl _ _⟩
    have e : D.turned = D := by unfold DS.turned; rw [HG.out]; simp only [Bool.false_eq_true, if_false]; rw [← Hd.out]
    rw [e]
    exact H.out
  | false =>
    have Hd := Lib.hid hd
    clear hd
    rcases H.out.well with ⟨hl, hw⟩ | ⟨g, n, m, hl, hw, hb⟩
    · have HG := Lib.hid (goes_yes Hd.out (by rw [hl]; simp))
      rw [hw] at hc4
      have Hl := Lib.hid hl
      have Hw := Lib.hid hw
      clear hl hw
      have H0 := Lib.hid (add_one d 3 100 _ (D.turns : Int) (by omega) (by have := HT.out; unfold most; omega) w H.out.head rfl)
      go_enter Tryz.func60, Tryz.ntmps60
      go_wp2_with fail
      refine (flag_raised b.f D.down w hf.out).mono ?_
      rintro e w' ⟨rfl, rfl⟩
      rw [Hd.out]
      go_wp2_with fail
      refine H0.out.mono ?_
      rintro e w1 ⟨rfl, K1, T1⟩
      have HK := Lib.hid K1
      have HT1 := Lib.hid T1
      clear K1 T1
      go_wp2_with fail
      go_ret
      have hS : ∀ k, k ≠ d → ¬ (fun k => k = d) k := fun k hk => hk
      refine ⟨by rw [HG.out]; rfl, ?_, HT1.out.mono (fun k _ hk => .inl hk)⟩
      have A := H.out
      have e : D.turned = { D with turns := D.turns + 1 } := by unfold DS.turned; rw [HG.out, Hl.out]; simp
      rw [e]
      exact ⟨HK.out, A.set.touch HT1.out A.ds.symm, A.see.touch HT1.out A.dv.symm, A.sv, A.flag.touch HT1.out A.df.symm, owns_touch A.own HT1.out (fun k hk e => own_blk A.own A.head (by decide) (by rw [hk, e])), A.well.touch HT1.out (fun k hk e => well_blk A.well A.head (by decide) (by rw [hk, e]))⟩
    · rw [hw] at hc4
      have hgd : g ≠ d := hb.ne H.out.head (by decide)
      have hgf : g ≠ b.f := hb.ne H.out.flag (by decide)
      have Hl := Lib.hid hl
      have Hw := Lib.hid hw
      have Hb := Lib.hid hb
      clear hl hw hb
      rcases Nat.eq_zero_or_pos n with hn | hn
      · subst hn
        have HG := Lib.hid (goes_left Hl.out)
        go_enter Tryz.func60, Tryz.ntmps60
        go_wp2_with fail
        refine (flag_raised b.f D.down w hf.out).mono ?_
        rintro e w' ⟨rfl, rfl⟩
        rw [Hd.out]
        go_wp2_with fail
        refine (take_no g 120 _ w Hb.out rfl).mono ?_
        rintro e w1 ⟨rfl, K1, T1⟩
        have hc5' : w1.cell? ⟨d, 5, none⟩ = some (.pointer (some ⟨b.f, 0, none⟩)) := (T1.cell (p := ⟨d, 5, none⟩) H.out.head.lt hgd.symm).trans hc5
        have HF : Hid (Blk w1 b.f 112 [.int .u32 (bit false)]) := by have := H.out.flag.touch T1 hgf.symm; rwa [Hd.out] at this
        have HK := Lib.hid K1
        have HT1 := Lib.hid T1
        clear K1 T1 hc5 hc4
        go_wp2_with fail
        refine (raise_down b.f 112 w1 HF.out).mono ?_
        rintro e w2 ⟨rfl, K2, T2⟩
        have HK2 := Lib.hid K2
        have HT2 := Lib.hid T2
        clear K2 T2
        go_wp2_with fail
        go_ret
        have A := H.out
        have hT : Touch (fun k => k = g ∨ k = b.f) w w2 := (HT1.out.mono (fun _ _ h => .inl h)).trans (HT2.out.mono (fun _ _ h => .inr h))
        have e : D.turned = { D with down := true } := by unfold DS.turned; rw [HG.out]; simp
        refine ⟨by rw [HG.out]; rfl, ?_, hT.mono (fun k _ hk => ?_)⟩
        · rw [e]
          exact ⟨A.head.touch hT (by rintro (h | h); exact hgd h.symm; exact A.df h), A.set.touch hT (by rintro (h | h); exact Hb.out.ne A.set (by decide) h.symm; exact A.flag.ne A.set (by decide) h.symm), A.see.touch hT (by rintro (h | h); exact Hb.out.ne A.see (by decide) h.symm; exact A.flag.ne A.see (by decide) h.symm), A.sv, HK2.out,
            owns_touch A.own hT (by rintro k hk (h | h); exact own_blk A.own Hb.out (by decide) (by rw [hk, h]); exact own_blk A.own A.flag (by decide) (by rw [hk, h])), .inr ⟨g, 0, m, Hl.out, Hw.out, HK.out.touch HT2.out hgf⟩⟩
        · rcases hk with rfl | rfl
          · exact .inr (.inr (.inr (.inr (.inr Hw.out))))
          · exact .inr (.inr (.inr (.inl rfl)))
      · have HG := Lib.hid (goes_yes Hd.out (by rw [Hl.out]; simp; omega))
        have hn1000 := HO.out.left n Hl.out
        have H1 := Lib.hid (take_yes g 120 _ (n : Int) (by omega) (by unfold most; omega) w Hb.out rfl)
        clear hn1000
        go_enter Tryz.func60, Tryz.ntmps60
        go_wp2_with fail
        refine (flag_raised b.f D.down w hf.out).mono ?_
        rintro e w' ⟨rfl, rfl⟩
        rw [Hd.out]
        go_wp2_with fail
        refine H1.out.mono ?_
        rintro e w1 ⟨rfl, K1, T1⟩
        have HH1 := Lib.hid (H.out.head.touch T1 hgd.symm)
        have HK := Lib.hid K1
        have HT1 := Lib.hid T1
        clear K1 T1 hc5 hc4
        go_wp2_with fail
        refine (add_one d 3 100 _ (D.turns : Int) (by omega) (by have := HT.out; unfold most; omega) w1 HH1.out rfl).mono ?_
        rintro e w2 ⟨rfl, K2, T2⟩
        have HK2 := Lib.hid K2
        have HT2 := Lib.hid T2
        clear K2 T2
        go_wp2_with fail
        go_ret
        have A := H.out
        have hT : Touch (fun k => k = g ∨ k = d) w w2 := (HT1.out.mono (fun _ _ h => .inl h)).trans (HT2.out.mono (fun _ _ h => .inr h))
        have e : D.turned = { D with turns := D.turns + 1, left := some (n - 1) } := by unfold DS.turned; rw [HG.out, Hl.out]; simp
        refine ⟨by rw [HG.out]; rfl, ?_, hT.mono (fun k _ hk => ?_)⟩
        · rw [e]
          refine ⟨HK2.out, A.set.touch hT (by rintro (h | h); exact Hb.out.ne A.set (by decide) h.symm; exact A.ds h.symm), A.see.touch hT (by rintro (h | h); exact Hb.out.ne A.see (by decide) h.symm; exact A.dv h.symm), A.sv, A.flag.touch hT (by rintro (h | h); exact hgf h.symm; exact A.df h.symm),
            owns_touch A.own hT (by rintro k hk (h | h); exact own_blk A.own Hb.out (by decide) (by rw [hk, h]); exact own_blk A.own A.head (by decide) (by rw [hk, h])), .inr ⟨g, n - 1, m, rfl, Hw.out, ?_⟩⟩
          have := HK.out.touch HT2.out hgd
          rw [show ((n - 1 : Nat) : Int) = (n : Int) - 1 by omega]
          exact this
        · rcases hk with rfl | rfl
          · exact .inr (.inr (.inr (.inr (.inr Hw.out))))
          · exact .inl rfl
end Go.Proofs.YtjajenkagcdhlaaGreat
