/- The contract of a drum's Settle. -/
import Derived.Test.YtjajenkagcdhlaaGreatLay
namespace Go.Proofs.YtjajenkagcdhlaaGreat
open Go.RowKit
set_option maxRecDepth 100000

/-- A drum of which the first i Lays are settled. -/
def DS.upto (D : DS) (i : Nat) : DS := { D with T := over D.T (D.A.take i) }
theorem upto_succ {D : DS} {i : Nat} {x : Nat × List Nat} (h : D.A[i]? = some x) : (D.upto (i + 1)) = { D.upto i with T := (D.upto i).T.set x.1 x.2 } := by
  have hl := lt_of_get h
  have e : D.A.take (i + 1) = D.A.take i ++ [x] := by
    rw [List.take_succ_eq_append_getElem hl]
    congr 2
    rw [List.getElem?_eq_getElem hl] at h
    injection h
  simp [DS.upto, e, over_snoc]
theorem upto_trk {D : DS} (h : D.Ok) (i : Nat) : ∀ b ∈ (D.upto i).T, Trk b := over_trk h.trk _ (fun x hx => (h.lay x (List.mem_of_mem_take hx)).2)
theorem upto_length (D : DS) (i : Nat) : (D.upto i).T.length = D.T.length := over_length _ _

theorem At.afl_set {d : Nat} {b : Bl} {D : DS} {V : List (List Nat)} {w : World} (A : At d b D V w) : At d { b with afl := .slice none 0 0 } { D with A := [] } V (w.setCell ⟨d, 2, none⟩ (.slice none 0 0)) := by
  have T : Touch (fun k => k = d) w (w.setCell ⟨d, 2, none⟩ (.slice none 0 0)) := Touch.one ⟨d, 2, none⟩ _
  exact ⟨by rw [← head_afl]; exact A.head.set 2 _, A.set.touch T A.ds.symm, A.see.touch T A.dv.symm, A.sv, A.flag.touch T A.df.symm, World.ownsRow_nil _ _ _ _, A.well.touch T (fun k hk e => well_blk A.well A.head (by decide) (by rw [hk, e]))⟩

theorem foot_afl {d : Nat} {b : Bl} {k : Nat} (h : foot d { b with afl := .slice none 0 0 } k) : foot d b k := by
  rcases h with h | h | h | h | h | h
  · exact .inl h
  · exact .inr (.inl h)
  · exact .inr (.inr (.inl h))
  · exact .inr (.inr (.inr (.inl h)))
  · cases h
  · exact .inr (.inr (.inr (.inr (.inr h))))

set_option maxRecDepth 100000 in
set_option maxHeartbeats 1600000 in
theorem settle_any (d : Nat) (b : Bl) (D : DS) (w : World) (h : Dr d b D w) (ht : D.turns ≤ 99999) :
    Calls Tryz.prog 30 #[.pointer (some ⟨d, 0, none⟩)] w fun e w' => e = .returned (.int .i64 D.err) ∧ Done d b D.settle w w' := by
  have H2 := Lib.hid (turn_any d b D D.seen w h.at_ h.ok (by omega))
  have H := Lib.hid h
  have HT := Lib.hid ht
  clear h ht
  cases hg : D.goes with
  | false =>
    have HG := Lib.hid hg
    clear hg
    go_enter Tryz.func30, Tryz.ntmps30
    go_wp2_with fail
    refine H2.out.mono ?_
    rintro e w1 ⟨rfl, A1, T1⟩
    rw [HG.out]
    have HA := Lib.hid A1
    have HT1 := Lib.hid T1
    clear A1 T1
    go_wp2_with fail
    go_ret
    refine ⟨?_, b, ⟨H.out.ok.settled, ?_⟩, HT1.out, fun _ hk => .inl hk⟩
    · unfold DS.err; rw [HG.out]; rfl
    · unfold DS.settle; rw [HG.out]; simp only [Bool.false_eq_true, if_false]; rw [turned_seen]; exact HA.out
  | true =>
    have HG := Lib.hid hg
    clear hg
    go_enter Tryz.func30, Tryz.ntmps30
    go_wp2_with fail
    refine H2.out.mono ?_
    rintro e w1 ⟨rfl, A1, T1⟩
    rw [HG.out]
    obtain ⟨a, c, hafl⟩ := lains_form A1.own
    have hc : w1.cell? ⟨d, 2, none⟩ = some (.slice a D.turned.A.length c) := by rw [← hafl]; exact A1.head.cell 2
    have HOk := Lib.hid H.out.ok.turned
    have HA0 : Hid (At d b (D.turned.upto 0) D.seen w1) := by
      have e : D.turned.upto 0 = D.turned := by simp [DS.upto, over]
      show At d b (D.turned.upto 0) D.seen w1
      rw [e]; exact A1
    have HT1 := Lib.hid T1
    have Hafl := Lib.hid hafl
    clear A1 T1 H2 hafl
    generalize hm : D.turned.A.length = m at *
    have HM := Lib.hid hm
    have hm5 : m ≤ 100000 := by rw [← hm, DS.turned_A]; exact Nat.le_trans H.out.ok.long (Nat.le_succ_of_le HT.out)
    clear hm
    go_wp2_with fail
    go_loopw [15] (fun i wx => ∃ t : Nat, t ≤ m ∧ i = .int .i64 t ∧ Hid (At d b (D.turned.upto t) D.seen wx) ∧ Hid (Touch (foot d b) w wx)) (fun i _ => m - (intOf i).toNat)
    case atStart => exact ⟨0, by omega, rfl, HA0, HT1⟩
    case round =>
      obtain ⟨t, hle, rfl, HA, HTx⟩ := hrel
      clear HA0 hc HT1
      by_cases hlt : t < m
      · obtain ⟨x, hx⟩ := get_of_lt (l := D.turned.A) (n := t) (by rw [HM.out]; exact hlt)
        have hx' := HOk.out.lay x (mem_of_get hx)
        have own := HA.out.own
        rw [Hafl.out] at own
        rw [show (D.turned.upto t).A = D.turned.A from rfl, HM.out] at own
        obtain ⟨g, rfl⟩ := lains_ptr own (by omega)
        have HR := Lib.hid (lains_at (fun x hx => (HOk.out.lay x hx).2) HM.out own hx)
        have HX := Lib.hid hx'.2
        have HX1 := Lib.hid hx'.1
        have HS := Lib.hid (upto_succ hx)
        have h0 : (0 : Int) ≤ (t : Int) := by omega
        have h1 : (t : Int) < (m : Int) := by omega
        clear own hx' hx
        go_wp2_with (first
          | (with_reducible refine wpList_alloc_lain (op := ⟨some 4, _, _, _, _, _⟩) rfl rfl ?_)
          | (with_reducible refine wpList_load_lain (op := ⟨some 18, _, _, _, _, _⟩) rfl (.tmp 17) rfl g (t * 97) rfl x HX.out HR.out ?_)
          | ((with_reducible refine wpList_store_lain (op := ⟨none, .store 107 _ _, _, _, _, _⟩) rfl (.tmp 4) (.tmp 18) rfl _ x HX.out rfl rfl noLain noLain_length (Blk.new _ 107 noLain) ?_); intro w2 K2 T2))
        have T3 : Old wr w2.drew := (((Touch.refl (fun _ => False) wr).alloc _).own T2 (Nat.le_refl _)).drew
        have A3 := HA.out.touch T3 (fun _ _ q => q)
        have K3 : Blk w2.drew wr.heap.size 107 (lain x) := K2
        have hTT := upto_trk HOk.out t
        have hlen : x.1 < (D.turned.upto t).T.length := by rw [upto_length]; exact HX1.out
        have hgs : wr.heap.size ≠ b.s := by have := HA.out.set.lt; omega
        have T4 : Touch (fun k => k = b.s) w2.drew (w2.drew.setCells b.s (x.1 * 96) (cells x.2)) := setCells_touch _ _ _ _
        have A4 := A3.set_set hTT hlen HX.out
        have K4 := K3.touch T4 hgs
        have hS0 : w2.drew.cell? ⟨d, 0, none⟩ = some (.slice (some ⟨b.s, 0, none⟩) (D.turned.upto t).T.length (D.turned.upto t).T.length) ∧ w2.drew.cell? ⟨wr.heap.size, 0, none⟩ = some (.int .i64 (x.1 : Int)) ∧ w2.drew.rangeAt wr.heap.size 1 (cells x.2) ∧ w2.drew.there b.s (x.1 * 96) 96 :=
          ⟨A3.head.cell 0, K3.cell 0, blk_range (xs := [.int .i64 (x.1 : Int)]) K3, rows_there hTT A3.set hlen⟩
        have hS1 : (w2.drew.setCells b.s (x.1 * 96) (cells x.2)).cell? ⟨d, 0, none⟩ = some (.slice (some ⟨b.s, 0, none⟩) (D.turned.upto t).T.length (D.turned.upto t).T.length) ∧ (w2.drew.setCells b.s (x.1 * 96) (cells x.2)).cell? ⟨wr.heap.size, 0, none⟩ = some (.int .i64 (x.1 : Int)) ∧ (w2.drew.setCells b.s (x.1 * 96) (cells x.2)).rangeAt wr.heap.size 1 (cells x.2) ∧ (w2.drew.setCells b.s (x.1 * 96) (cells x.2)).there b.s (x.1 * 96) 96 :=
          ⟨(T4.cell (p := ⟨d, 0, none⟩) A3.head.lt A3.ds).trans (A3.head.cell 0), K4.cell 0, blk_range (xs := [.int .i64 (x.1 : Int)]) K4, World.there_setCells hS0.2.2.2 _ _ _⟩
        have HS0 := Lib.hid hS0
        have HS1 := Lib.hid hS1
        have HA4 : Hid (At d b (D.turned.upto (t + 1)) D.seen (w2.drew.setCells b.s (x.1 * 96) (cells x.2))) := by
          show At d b (D.turned.upto (t + 1)) D.seen _
          rw [HS.out]; exact A4
        have HT4 : Hid (Touch (foot d b) w (w2.drew.setCells b.s (x.1 * 96) (cells x.2))) := (HTx.out.trans (Touch.of_old T3)).trans (T4.mono (fun k _ hk => .inr (.inl hk)))
        have hcl : (cells x.2).length = 96 := by rw [cells_length, HX.out.len]
        have hone := cells_one x.2
        have hu := Tryz.underlying105
        clear K2 T2 T3 A3 K3 hTT hgs T4 A4 K4 hS0 hS1 HR HX HX1 HS HA HTx
        generalize (D.turned.upto t).T.length = n at *
        generalize cells x.2 = cs at *
        generalize x.1 = q at *
        have hk0 : (0 : Int) ≤ (q : Int) := by omega
        have hk1 : (q : Int) < (n : Int) := by omega
        clear hlen
        have hi : (Tryz.prog.info? 105).map (·.size) = some cs.length := by rw [size105, hcl]
        generalize wr.heap.size = l at *
        go_region_held3 (fun w' => w'.cell? ⟨d, 0, none⟩ = some (.slice (some ⟨b.s, 0, none⟩) n n) ∧ w'.cell? ⟨l, 0, none⟩ = some (.int .i64 (q : Int)) ∧ w'.rangeAt l 1 cs ∧ w'.there b.s (q * 96) 96) (first | exact HS0.out | exact HS1.out) (fail)
        rename_i hHeld
        clear hHeld HS0 HS1 hu hi hcl hone hk0 hk1
        generalize w2.drew.setCells b.s (q * 96) cs = w5 at *
        go_wp2_with fail
        refine ⟨⟨t + 1, by omega, by go_num, HA4, HT4⟩, by simp [intOf]; omega⟩
      · obtain rfl : t = m := by omega
        have hc2 : wr.cell? ⟨d, 2, none⟩ = some b.afl := HA.out.head.cell 2
        have hf2 : wr.frozen? ⟨d, 2, none⟩ = false := HA.out.head.frozen 2
        have HA6 := Lib.hid HA.out.afl_set
        go_wp2_with fail
        go_ret
        refine ⟨by unfold DS.err; rw [HG.out]; rfl, { b with afl := .slice none 0 0 }, ⟨H.out.ok.settled, ?_⟩, HTx.out.trans ((Touch.one ⟨d, 2, none⟩ _).mono (fun k _ hk => .inl hk)), fun k hk => .inl (foot_afl hk)⟩
        have e : ({ D.turned.upto t with A := [] } : DS) = D.settle := by
          unfold DS.settle; rw [HG.out, ← HM.out]
          simp [DS.upto, DS.seen, DS.turned_T, DS.turned_A]
        have e2 : D.settle.seen = D.seen := by
          rw [← e, ← HM.out]
          simp [DS.upto, DS.seen, over, DS.turned_T, DS.turned_A]
        rw [e2, ← e]
        exact HA6.out
end Go.Proofs.YtjajenkagcdhlaaGreat
