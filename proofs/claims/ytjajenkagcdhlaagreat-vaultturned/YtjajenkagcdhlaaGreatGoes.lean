/- The contract of ledger.goes. -/
import Derived.Test.YtjajenkagcdhlaaGreatRead
namespace Go.Proofs.YtjajenkagcdhlaaGreat
open Go.RowKit
set_option maxRecDepth 100000

/-- The first t entries may be written. -/
def GoesTo (e : List Ent) (home t : Nat) : Prop := (∀ x ∈ e.take t, x.1 < home ∧ x.2.length = 96) ∧ ((e.take t).map (·.1)).Nodup
theorem GoesTo.next {e : List Ent} {home t : Nat} {x : Ent} (h : GoesTo e home t) (hx : e[t]? = some x) (h1 : x.1 < home) (h2 : x.1 ∉ (e.take t).map (·.1)) (h3 : x.2.length = 96) : GoesTo e home (t + 1) := by
  refine ⟨fun y hy => ?_, ?_⟩
  · rw [take_get hx] at hy
    rcases List.mem_append.1 hy with q | q
    · exact h.1 y q
    · obtain rfl := List.mem_singleton.1 q
      exact ⟨h1, h3⟩
  · rw [take_get hx, List.map_append, List.nodup_append]
    refine ⟨h.2, by simp, fun a ha b hb => ?_⟩
    simp at hb
    subst hb
    exact fun q => h2 (q ▸ ha)
theorem not_goes {e : List Ent} {home t : Nat} {x : Ent} (hx : e[t]? = some x) (h : home ≤ x.1 ∨ x.1 ∈ (e.take t).map (·.1) ∨ x.2.length ≠ 96) : ¬ Goes e home := fun g => by
  have hm := g.1 x (mem_of_get hx)
  rcases h with h | h | h
  · omega
  · have hn := g.2.1
    rw [← List.take_append_drop (t + 1) e, take_get hx, List.append_assoc, List.map_append, List.nodup_append] at hn
    exact hn.2.2 x.1 h x.1 (by simp) rfl
  · exact h hm.2
theorem GoesTo.all {e : List Ent} {home : Nat} (h : GoesTo e home e.length) : decide (Goes e home) = decide (0 < e.length) := by
  unfold GoesTo at h
  rw [List.take_length] at h
  exact decide_eq_decide.2 ⟨fun q => q.2.2, fun q => ⟨h.1, h.2, q⟩⟩

def hadTo (e : List Ent) (t i : Nat) : Bool := decide (i ∈ (e.take t).map (·.1))

set_option maxHeartbeats 3200000 in
theorem goes_any (a : Option Addr) (e : List Ent) (len cap home : Nat) (w : World) (h : Ents w a e) (hlen : e.length = len) (hm : len ≤ 100000) (hh : home ≤ 5000) :
    Calls Tryz.prog 72 #[.slice a len cap, .int .i64 home] w fun x w' => x = .returned (.bool (decide (Goes e home))) ∧ Old w w' := by
  have hmk := make_bools home (by omega) w
  have HK0 : Hid (Blk (w.alloc (.cells (flags (fun _ => false) home).toArray 4)) w.heap.size 4 (flags (hadTo e 0) home)) := by
    show Blk _ _ _ _
    rw [show flags (hadTo e 0) home = flags (fun _ => false) home from flags_congr (fun i _ => by simp [hadTo])]
    exact Blk.new w 4 _
  have HT0 : Hid (Old w (w.alloc (.cells (flags (fun _ => false) home).toArray 4))) := (Touch.refl _ _).alloc _
  have HG0 : Hid (GoesTo e home 0) := ⟨(fun x hx => by simp at hx), by simp⟩
  have H := Lib.hid h
  have HL := Lib.hid hlen
  clear h hlen
  generalize w.alloc (.cells (flags (fun _ => false) home).toArray 4) = w0 at *
  obtain ⟨R, hR⟩ : ∃ R, decide (Goes e home) = R := ⟨_, rfl⟩
  rw [hR]
  have HR := Lib.hid hR
  clear hR
  go_enter Tryz.func72, Tryz.ntmps72
  go_wp2_with fail
  go_loopw [12] (fun i wx => ∃ t : Nat, t ≤ len ∧ i = .int .i64 t ∧ Hid (Blk wx w.heap.size 4 (flags (hadTo e t) home)) ∧ Hid (Old w wx) ∧ Hid (GoesTo e home t)) (fun i _ => len - (intOf i).toNat)
  case atStart => exact ⟨0, by omega, rfl, HK0, HT0, HG0⟩
  case round =>
    obtain ⟨t, hle, rfl, HK, HT, HG⟩ := hrel
    clear HK0 HT0 hmk HG0
    by_cases hlt : t < len
    · obtain ⟨x, hx⟩ := get_of_lt (l := e) (n := t) (by rw [HL.out]; exact hlt)
      obtain ⟨bb, off, p, c, rfl, hc, hd, hcl, hb⟩ := (H.out.old HT.out).en t x hx
      have h0 : (0 : Int) ≤ (t : Int) := by omega
      have h1 : (t : Int) < (len : Int) := by omega
      have HX := Lib.hid hx
      clear hx hb hcl
      obtain ⟨k, bs⟩ := x
      simp only at hc hd
      obtain ⟨m, hbm⟩ : ∃ m, bs.length = m := ⟨_, rfl⟩
      rw [hbm] at hd
      have HBm := Lib.hid hbm
      clear hbm
      have T1 : Old wr (wr.alloc (.cells #[.int .i64 (k : Int), .slice p m c] 115)) := (Touch.refl _ _).alloc _
      have HT1 := Lib.hid (HT.out.trans T1)
      have HK1 := Lib.hid (HK.out.touch T1 (fun q => q))
      have K2 := Blk.new wr 115 [.int .i64 (k : Int), .slice p m c]
      have hx0 : (wr.alloc (.cells #[.int .i64 (k : Int), .slice p m c] 115)).cell? ⟨wr.heap.size, 0, none⟩ = some (.int .i64 (k : Int)) := K2.cell 0
      have hx1 : (wr.alloc (.cells #[.int .i64 (k : Int), .slice p m c] 115)).cell? ⟨wr.heap.size, 1, none⟩ = some (.slice p m c) := K2.cell 1
      clear K2 T1
      by_cases hk : k < home
      · have hk0 : (0 : Int) ≤ (k : Int) := by omega
        have hkn : ¬ (k : Int) < 0 := by omega
        have hk1 : (k : Int) < (home : Int) := by omega
        have hk2 : ¬ (home : Int) ≤ (k : Int) := by omega
        have hcz := (HK1.out.cell k).trans (flags_get _ _ _ hk)
        have hfz := HK1.out.frozen k
        cases hu : hadTo e t k with
        | true =>
          have HN : Hid (R = false) := by
            show R = false
            rw [← HR.out]
            exact decide_eq_false (not_goes HX.out (.inr (.inl (of_decide_eq_true hu))))
          rw [hu] at hcz
          clear HK HT HK1 hu HG
          go_wp2_with fail
          go_ret
          exact ⟨by rw [HN.out]; rfl, HT1.out⟩
        | false =>
          rw [hu] at hcz
          by_cases hb : m = 96
          · subst hb
            have HG' : Hid (GoesTo e home (t + 1)) := HG.out.next HX.out hk (of_decide_eq_false hu) HBm.out
            have HO := Lib.hid (HT1.out.setCell (p := ⟨w.heap.size, k, none⟩) (.inr (Nat.le_refl _)) (.bool true))
            have HN : Hid (Blk ((wr.alloc (.cells #[.int .i64 (k : Int), .slice p 96 c] 115)).setCell ⟨w.heap.size, k, none⟩ (.bool true)) w.heap.size 4 (flags (hadTo e (t + 1)) home)) := by
              show Blk _ _ _ _
              have := HK1.out.set k (.bool true)
              rw [flags_set hk (g := hadTo e (t + 1)) (fun i hi => by
                unfold hadTo
                rw [take_get HX.out, List.map_append, Bool.eq_iff_iff]
                simp)] at this
              exact this
            clear HK HT HK1 HT1 hu HG
            go_wp2_with fail
            exact ⟨⟨t + 1, by omega, by go_num, HN, HO, HG'⟩, by simp [intOf]; omega⟩
          · have hb' : ¬ (m : Int) = 96 := by omega
            have HN : Hid (R = false) := by
              show R = false
              rw [← HR.out]
              exact decide_eq_false (not_goes HX.out (.inr (.inr (by rw [HBm.out]; exact hb))))
            clear HK HT HK1 hu HG
            go_wp2_with fail
            go_ret
            exact ⟨by rw [HN.out]; rfl, HT1.out⟩
      · have hkn : ¬ (k : Int) < 0 := by omega
        have hk2 : (home : Int) ≤ (k : Int) := by omega
        have HN : Hid (R = false) := by
          show R = false
          rw [← HR.out]
          exact decide_eq_false (not_goes HX.out (.inl (by simp; omega)))
        clear HK HT HK1 HG
        go_wp2_with fail
        go_ret
        exact ⟨by rw [HN.out]; rfl, HT1.out⟩
    · obtain rfl : t = len := by omega
      have HN : Hid (R = decide (0 < t)) := by
        show R = _
        rw [← HR.out, ← HL.out]
        exact GoesTo.all (by have := HG.out; rwa [HL.out])
      clear HG HK
      by_cases h0 : 0 < t
      · have h0' : 0 < (t : Int) := by omega
        rw [decide_eq_true h0] at HN
        go_wp2_with fail
        go_ret
        exact ⟨by rw [HN.out]; rfl, HT.out⟩
      · have h0' : ¬ 0 < (t : Int) := by omega
        rw [decide_eq_false h0] at HN
        go_wp2_with fail
        go_ret
        exact ⟨by rw [HN.out]; rfl, HT.out⟩
end Go.Proofs.YtjajenkagcdhlaaGreat
