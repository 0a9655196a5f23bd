/- The walk of lariatlaw1.OnceDeep. -/
import Derived.Test.YtnhepceannajeaaDeep
import Derived.Test.YtnhepceannajeaaPick
import Derived.Deep.DeepCutAuto
import Derived.Deep.RegionWith
namespace Go.Proofs.Ytnhepceannajeaa
open Go.RowKit Go.MuLone Go.Conc.Locks Go.Maps

theorem ask_first (B t bt bc bn bg N : Nat) (hN : N ≤ 25) (hN0 : 0 < N) (mo : Option Nat) (w : World) (S : St B t mo 0 (fun _ => none) w) (E : Env t bt bc bn bg N w) (Vc : Var bc (.int .i64 0) w) :
    Calls Try.prog 25 #[.int .i64 0, .pointer (some ⟨bt, 0, none⟩), .pointer (some ⟨bc, 0, none⟩), .pointer (some ⟨bn, 0, none⟩), .pointer (some ⟨bg, 0, none⟩)] w
      fun e w' => e = .returned (.int .i64 N) ∧ ∃ mo', St B t mo' N (fillG (fun _ => none) 0 N) w' ∧ Moves (fun i => i = bc) B t mo w mo' w' ∧ Var bc (.int .i64 N) w' := by
  have h := ask_new B t bt bc bn bg N hN (N - 1) 0 (by omega) mo 0 (fun _ => none) 0 w (by omega) (by omega) (by omega) S E Vc (fun _ _ _ => rfl)
  refine Calls.mono (by simpa using h) ?_
  rintro e w' ⟨v, rfl, rfl, mo', s, m, V⟩
  simp at s V
  exact ⟨by simp, mo', s, m, V⟩

theorem Var.drew {k : Nat} {x : Value} {w : World} (h : Var k x w) : Var k x w.drew := ⟨by rw [World.cell?_drew]; exact h.c, by simp [h.f]⟩
theorem St.drew {B t : Nat} {mo : Option Nat} {c : Nat} {G : Slots} {w : World} (h : St B t mo c G w) : St B t mo c G w.drew := h.alloc (Touch.refl _ w).drew
theorem Env.drew {t bt bc bn bg N : Nat} {w : World} (E : Env t bt bc bn bg N w) : Env t bt bc bn bg N w.drew := ⟨E.vt.drew, E.vn.drew, E.vg.drew, E.nt, E.nn, E.ng⟩

/-- Where the law stands: the table, the variables, the count x. -/
structure DeepAt (B t bt bc bn bg N : Nat) (mo : Option Nat) (c : Nat) (G : Slots) (x : Int) (w0 w : World) : Prop where
  st : St B t mo c G w
  env : Env t bt bc bn bg N w
  vc : Var bc (.int .i64 x) w
  low : B ≤ w.heap.size
  below : Below B w0 w

theorem DeepAt.step {B t bt bc bn bg N : Nat} {mo mo' : Option Nat} {c c' : Nat} {G G' : Slots} {x x' : Int} {w0 w w' : World} (D : DeepAt B t bt bc bn bg N mo c G x w0 w) (hB : B ≤ bc) (s : St B t mo' c' G' w') (m : Moves (fun i => i = bc) B t mo w.drew mo' w') (v : Var bc (.int .i64 x') w') : DeepAt B t bt bc bn bg N mo' c' G' x' w0 w' :=
  ⟨s, D.env.drew.moves D.st.drew m, v, Nat.le_trans D.low m.touch.size, D.below.drew.trans (m.below D.low (fun _ hk => hk ▸ hB))⟩
theorem DeepAt.move {B t bt bc bn bg N : Nat} {mo mo' : Option Nat} {c c' : Nat} {G G' : Slots} {x : Int} {w0 w w' : World} (D : DeepAt B t bt bc bn bg N mo c G x w0 w) (s : St B t mo' c' G' w') (m : Moves Nought B t mo w mo' w') : DeepAt B t bt bc bn bg N mo' c' G' x w0 w' :=
  ⟨s, D.env.moves D.st m.any, D.vc.moves D.st m (plain_int _) (fun h => h), Nat.le_trans D.low m.touch.size, D.below.trans (m.below D.low (fun _ h => h.elim))⟩
theorem DeepAt.drew {B t bt bc bn bg N : Nat} {mo : Option Nat} {c : Nat} {G : Slots} {x : Int} {w0 w : World} (D : DeepAt B t bt bc bn bg N mo c G x w0 w) : DeepAt B t bt bc bn bg N mo c G x w0 w.drew :=
  ⟨D.st.drew, D.env.drew, D.vc.drew, D.low, D.below.drew⟩

structure Begun6 (B bn t bt N : Nat) (w0 w : World) : Prop where
  st : St B t none 0 (fun _ => none) w
  vt : Var bt (.pointer (some ⟨t, 0, none⟩)) w
  vn : Var bn (.int .i64 N) w
  below : Below B w0 w

theorem deep_begun (w w1 : World) (N : Nat) (hb : Below w.heap.size w w1) (hs : w.heap.size < w1.heap.size) {x : Int} (hn : w1.cell? ⟨w.heap.size, 0, none⟩ = some (.int .i64 x)) (hf : w1.frozen? ⟨w.heap.size, 0, none⟩ = false) :
    Begun6 w.heap.size w.heap.size w1.heap.size (w1.heap.size + 1) N w (((w1.setCell ⟨w.heap.size, 0, none⟩ (.int .i64 N)).alloc (.cells #[.int .i32 0, .int .u32 0, .map none] 61)).alloc (.cells #[.pointer (some ⟨w1.heap.size, 0, none⟩)] 25)) := by
  obtain ⟨w2, hw2⟩ : ∃ w2, w2 = w1.setCell ⟨w.heap.size, 0, none⟩ (.int .i64 N) := ⟨_, rfl⟩
  have V2 : Var w.heap.size (.int .i64 N) w2 := by rw [hw2]; exact Var.set ⟨hn, hf⟩ _
  have z2 : w2.heap.size = w1.heap.size := by rw [hw2]; simp
  have b2 : Below w.heap.size w w2 := by rw [hw2]; exact hb.setCell (Nat.le_refl _) _
  rw [← hw2]
  clear hw2
  obtain ⟨w3, hw3⟩ : ∃ w3, w3 = w2.alloc (.cells #[.int .i32 0, .int .u32 0, .map none] 61) := ⟨_, rfl⟩
  have S3 : St w.heap.size w1.heap.size none 0 (fun _ => none) w3 := by rw [hw3, ← z2]; exact st_new _ w2 (by omega)
  have V3 : Var w.heap.size (.int .i64 N) w3 := by rw [hw3]; exact V2.touch ((Touch.refl Nought _).alloc _) (fun h => h)
  have z3 : w3.heap.size = w1.heap.size + 1 := by rw [hw3]; simp [z2]
  have b3 : Below w.heap.size w w3 := by rw [hw3]; exact b2.alloc (by omega) _
  rw [← hw3]
  clear hw3
  refine ⟨S3.alloc ((Touch.refl _ _).alloc _), ?_, V3.touch ((Touch.refl Nought _).alloc _) (fun h => h), b3.alloc (by omega) _⟩
  rw [← z3]
  exact ⟨by rw [World.cell_new]; rfl, World.frozen_new _ _ _ _⟩

theorem deep_ready (w W w4 : World) (N : Nat) {t : Nat} (hs : w.heap.size < t) (hsW : W.heap.size = t + 2) (h : Begun6 w.heap.size w.heap.size t (t + 1) N w W) (hb : Below W.heap.size W w4) :
    DeepAt w.heap.size t (t + 1) w4.heap.size w.heap.size (w4.heap.size + 1) N none 0 (fun _ => none) 0 w ((w4.alloc (.cells #[.int .i64 0] 3)).alloc (.cells #[asker (t + 1) w4.heap.size w.heap.size (w4.heap.size + 1)] 43)) := by
  have T4 : Touch (fun _ => False) W w4 := ⟨hb.os, hb.tape, hb.output, hb.size, fun k hk _ => hb.block k hk⟩
  have hz := hb.size
  obtain ⟨w5, hw5⟩ : ∃ w5, w5 = w4.alloc (.cells #[.int .i64 0] 3) := ⟨_, rfl⟩
  have T5 : Touch (fun _ => False) W w5 := by rw [hw5]; exact T4.alloc _
  have V5 : Var w4.heap.size (.int .i64 0) w5 := by rw [hw5]; exact ⟨by rw [World.cell_new]; rfl, World.frozen_new _ _ _ _⟩
  have z5 : w5.heap.size = w4.heap.size + 1 := by rw [hw5]; simp
  rw [← hw5]
  clear hw5
  have T6 : Touch (fun _ => False) W (w5.alloc (.cells #[asker (t + 1) w4.heap.size w.heap.size (w4.heap.size + 1)] 43)) := T5.alloc _
  have V6 : Var (w4.heap.size + 1) (asker (t + 1) w4.heap.size w.heap.size (w4.heap.size + 1)) (w5.alloc (.cells #[asker (t + 1) w4.heap.size w.heap.size (w4.heap.size + 1)] 43)) := by
    have e : w4.heap.size + 1 = w5.heap.size := z5.symm
    rw [e]
    exact ⟨by rw [World.cell_new]; rfl, World.frozen_new _ _ _ _⟩
  refine ⟨h.st.alloc T6, ⟨h.vt.touch T6 (fun h => h), h.vn.touch T6 (fun h => h), V6, by omega, by omega, by omega⟩, V5.touch ((Touch.refl Nought _).alloc _) (fun h => h), by simp; omega, ?_⟩
  exact h.below.trans (T6.below (by omega) (fun _ _ h => h))

set_option maxHeartbeats 1600000 in
theorem deep_law (n : Int) (a1 : Option Addr) (len1 cap1 : Nat) (w : World) (hr : Row w a1 len1) :
    Calls Try.prog 6 #[.int .i64 n, .slice a1 len1 cap1] w fun e w' => e = .returned (.bool true) ∧ Below w.heap.size w w' := by
  have hm := make_func
  have hn := hnot
  go_enter Try.func6, Try.ntmps6
  go_wp2_with fail
  refine (known_any _).mono ?_
  rintro e w1 ⟨rfl, hb1⟩
  have hn1 : w1.cell? ⟨w.heap.size, 0, none⟩ = some (.int .i64 n) := by
    rw [hb1.cell (p := ⟨w.heap.size, 0, none⟩) (by simp), World.cell_new]; rfl
  have hf1 : w1.frozen? ⟨w.heap.size, 0, none⟩ = false := by
    rw [hb1.frozen (p := ⟨w.heap.size, 0, none⟩) (by simp)]; exact World.frozen_new _ _ _ _
  have hs1 : w.heap.size < w1.heap.size := by have := hb1.size; simp at this; omega
  have b1 := Lib.hid (((Below.refl w.heap.size w).alloc (Nat.le_refl _) (.cells #[.int .i64 n] 3)).trans (hb1.mono (by simp)))
  clear hb1
  go_wp2_with fail
  refine (newTable_any _).mono ?_
  rintro e w2 ⟨rfl, rfl⟩
  have hn2 : ((w1.alloc (.cells #[.int .i32 0, .int .u32 0, .map none] 61)).alloc (.cells #[.pointer (some ⟨w1.heap.size, 0, none⟩)] 25)).cell? ⟨w.heap.size, 0, none⟩ = some (.int .i64 n) := by
    rw [World.cell?_alloc_past _ _ _ (by simp; omega), World.cell?_alloc_past _ _ _ (by simpa using hs1)]; exact hn1
  have hf2 : ((w1.alloc (.cells #[.int .i32 0, .int .u32 0, .map none] 61)).alloc (.cells #[.pointer (some ⟨w1.heap.size, 0, none⟩)] 25)).frozen? ⟨w.heap.size, 0, none⟩ = false := by
    rw [World.frozen?_alloc_old _ _ _ (by simp; omega), World.frozen?_alloc_old _ _ _ (by simp; omega)]; exact hf1
  go_wp2_with fail
  refine (pick_any _ _ (by omega) (by omega) _).mono ?_
  rintro e w3 ⟨k, hk, rfl, rfl⟩
  go_wp2_with fail
  obtain ⟨N, hN⟩ : ∃ N : Nat, (1 + (k : Int)) = (N : Int) := ⟨1 + k, by simp⟩
  have hN1 : 0 < N := by omega
  have hN2 : N ≤ 25 := by omega
  rw [hN]
  obtain ⟨W, hW⟩ : ∃ W, W = ((w1.setCell ⟨w.heap.size, 0, none⟩ (.int .i64 N)).alloc (.cells #[.int .i32 0, .int .u32 0, .map none] 61)).alloc (.cells #[.pointer (some ⟨w1.heap.size, 0, none⟩)] 25) := ⟨_, rfl⟩
  have hsW : W.heap.size = w1.heap.size + 2 := by rw [hW]; simp
  have HW := Lib.hid (deep_begun w w1 N b1.out hs1 hn1 hf1)
  rw [← hW] at HW
  rw [← hW]
  have hcW := HW.out.vt.c
  clear hn2 hf2 hn1 hf1 b1 hk hN hW
  refine (known_any _).mono ?_
  rintro e w4 ⟨rfl, hb4⟩
  have hs4 : w1.heap.size + 2 ≤ w4.heap.size := by have := hb4.size; omega
  have hc4 : w4.cell? ⟨w1.heap.size + 1, 0, none⟩ = some (.pointer (some ⟨w1.heap.size, 0, none⟩)) := by
    rw [hb4.cell (p := ⟨w1.heap.size + 1, 0, none⟩) (by rw [hsW]; show w1.heap.size + 1 < _; omega)]; exact hcW
  have Hb4 := Lib.hid hb4
  clear hb4 hcW
  go_wp2_with fail
  obtain ⟨W5, hW5⟩ : ∃ W5, W5 = (w4.alloc (.cells #[.int .i64 0] 3)).alloc (.cells #[asker (w1.heap.size + 1) w4.heap.size w.heap.size (w4.heap.size + 1)] 43) := ⟨_, rfl⟩
  have D5 := Lib.hid (deep_ready w W w4 N hs1 hsW HW.out Hb4.out)
  rw [← hW5] at D5
  rw [← hW5]
  clear hW5 HW hsW hc4 Hb4
  generalize w4.heap.size = bc at *
  generalize w1.heap.size = t at *
  have hBb : w.heap.size ≤ bc := by omega
  have hg5 := D5.out.env.vg.c
  have hn5 := D5.out.env.vn.c
  have ht5 := D5.out.env.vt.c
  have h25 := enters25
  go_cut [37] (fun c wx => c = .bool false ∧ Hid (∃ mo, DeepAt w.heap.size t (t + 1) bc w.heap.size (bc + 1) N mo N (fillG (fun _ => none) 0 N) N w wx))
  case first =>
    go_region_with (first | (go_at_call 25; refine (ask_first _ _ _ _ _ _ N hN2 hN1 none _ D5.out.st.drew D5.out.env.drew D5.out.vc.drew).mono ?_; rintro e w6 ⟨rfl, mo6, s6, m6, v6⟩; have D6 := Lib.hid (D5.out.step hBb s6 m6 v6); have hg6 := D6.out.env.vg.c; have hn6 := D6.out.env.vn.c; have ht6 := D6.out.env.vt.c; have hc6 := D6.out.vc.c; clear s6 m6 v6) | (go_at_call 15; refine (count_st _ _ _ _ _ _ D6.out.st).mono ?_; rintro e w7 ⟨rfl, s7, m7⟩; have D7 := Lib.hid (D6.out.move s7 m7); have hg7 := D7.out.env.vg.c; have hn7 := D7.out.env.vn.c; have ht7 := D7.out.env.vt.c; clear s7 m7))
    all_goals (go_wp2_with fail; go_meet; exact ⟨rfl, _, D7.out⟩)
  case rest =>
    obtain ⟨rfl, HD⟩ := hcut
    clear D5 hg5 hn5 ht5 h25
    go_wp2_with fail
    go_loopw [8] (fun i wr => ∃ j : Nat, j ≤ 20 ∧ i = .int .i64 j ∧ Hid (∃ mo, DeepAt w.heap.size t (t + 1) bc w.heap.size (bc + 1) N mo N (fillG (fun _ => none) 0 N) N w wr)) (fun i _ => 20 - (intOf i).toNat)
    case atStart => exact ⟨0, by omega, rfl, HD⟩
    case round =>
      obtain ⟨j, hj, rfl, HD'⟩ := hrel
      clear HD
      by_cases hlt : j < len1 ∧ j < 20
      · obtain ⟨h1, h2⟩ := hlt
        rcases hr with h0 | ⟨b, off, zs, rfl, hz, hbw, hcells⟩
        · omega
        obtain ⟨mo, D⟩ := HD'.out
        have hx := (D.below.cell (p := ⟨b, off + j, none⟩) hbw).trans (hcells j (by omega))
        have hn5 := D.env.vn.c
        have hg5 := D.env.vg.c
        have hc5 := D.vc.c
        have HD5 := Lib.hid D
        have hNm : (0 : Int) < (N : Int) ∧ (N : Int) ≤ 1000 := by omega
        have h25 := enters25
        generalize zs.getD j 0 = z at hx
        clear hcells D HD'
        go_wp2_with fail
        go_region_held3 (fun w' => w'.cell? ⟨b, off + j, none⟩ = some (.int .i64 z) ∧ w'.cell? ⟨w.heap.size, 0, none⟩ = some (.int .i64 N)) (first | exact ⟨hx, hn5⟩)
          (first | (go_at_call 20; refine (pick_any _ _ hNm.1 hNm.2 _).mono ?_; rintro e w6 ⟨k', hk', rfl, rfl⟩))
        go_wp2_with fail
        have hkN : k' < N := by omega
        have hgk : fillG (fun _ => none) 0 N (lk k') = some (.inr ((N : Int) - k')) := fillG_in _ hN2 (Nat.zero_le _) hkN
        have Hgk := Lib.hid hgk
        clear hgk hk'
        have hkN' : k' < 100 := by omega
        have hwr : IntKind.i64.wrap ((N : Int) - (k' : Int)) = (N : Int) - (k' : Int) := IntWalk.i64_in _ (by omega)
        go_region_held3 (fun w' => w'.cell? ⟨bc + 1, 0, none⟩ = some (asker (t + 1) bc w.heap.size (bc + 1)) ∧ w'.cell? ⟨w.heap.size, 0, none⟩ = some (.int .i64 N) ∧ w'.cell? ⟨bc, 0, none⟩ = some (.int .i64 N)) (first | exact ⟨hg5, hn5, hc5⟩ | exact ⟨hg6, hn6, hc6⟩)
          (first | (go_at_call 25; refine (ask_made _ _ _ _ _ _ N k' hkN' mo _ _ _ _ HD5.out.drew.drew.st HD5.out.drew.drew.env Hgk.out).mono ?_; rintro e w7 ⟨rfl, s7, m7⟩; have D7 := Lib.hid (HD5.out.drew.drew.move s7 m7); have hg6 := D7.out.env.vg.c; have hn6 := D7.out.env.vn.c; have hc6 := D7.out.vc.c; clear s7 m7))
        clear HD5 hg5 hn5 hc5 hx hg6 hn6 hc6 hwr
        go_wp2_with fail
        go_roundw
        case rel => exact ⟨j + 1, by omega, by go_num, ⟨_, D7.out⟩⟩
        case measure => simp [intOf]; omega
      · obtain ⟨mo, D⟩ := HD'.out
        have HB := Lib.hid D.below
        clear D HD' hr
        by_cases h1 : j < len1
        · have h2 : ¬ j < 20 := fun h => hlt ⟨h1, h⟩
          clear hlt
          go_wp2_with fail
          go_ret
          exact ⟨rfl, HB.out⟩
        · clear hlt
          go_wp2_with fail
          go_ret
          exact ⟨rfl, HB.out⟩
end Go.Proofs.Ytnhepceannajeaa
