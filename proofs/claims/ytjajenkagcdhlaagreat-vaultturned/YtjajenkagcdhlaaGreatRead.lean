/- Rows of bytes, of entries, of pages in memory; the contract of ledger.readCover. -/
import Derived.Test.YtjajenkagcdhlaaGreatCover
import Derived.Test.YtjajenkagcdhlaaGreatSt
import Derived.Deep.DeepCutAuto
import Derived.Deep.RegionWith
import Derived.Deep.QuietTactic
import Derived.BigQuiet
namespace Go.Proofs.YtjajenkagcdhlaaGreat
open Go.RowKit
set_option maxRecDepth 100000

/-- The slice at p has the bytes xs; its block is one of bytes. -/
structure Byt (w : World) (p : Option Addr) (xs : List Nat) : Prop where
  has : Has w p xs
  blk : ∀ g o, p = some ⟨g, o, none⟩ → ∃ cs, Blk w g 5 cs
theorem Byt.keep {w w' : World} {p : Option Addr} {xs : List Nat} (h : Byt w p xs) (m : ∀ g cs, Blk w g 5 cs → Blk w' g 5 cs) : Byt w' p xs :=
  ⟨⟨h.has.byte, fun i hi => by
    obtain ⟨b, off, e, hc⟩ := h.has.cell i hi
    obtain ⟨cs, hb⟩ := h.blk b off e
    exact ⟨b, off, e, by rw [(m b cs hb).cell, ← hb.cell]; exact hc⟩⟩, fun g o e => by
    obtain ⟨cs, hb⟩ := h.blk g o e
    exact ⟨cs, m g cs hb⟩⟩
theorem Byt.old {w w' : World} {p : Option Addr} {xs : List Nat} (h : Byt w p xs) (m : Old w w') : Byt w' p xs := h.keep fun _ _ hb => hb.touch m (fun q => q)
theorem Byt.kept {w w' : World} {p : Option Addr} {xs : List Nat} (h : Byt w p xs) (m : Kept w w') : Byt w' p xs := h.keep fun _ _ hb => m.bytes hb
theorem Own.byt {w : World} {g : Nat} {xs : List Nat} (h : Own w g xs) : Byt w (some ⟨g, 0, none⟩) xs := ⟨h.has, fun g' o e => by
  cases e
  obtain ⟨rest, hg⟩ := h.row
  exact ⟨_, hg⟩⟩
theorem Byt.part {w : World} {b off : Nat} {xs : List Nat} (h : Byt w (some ⟨b, off, none⟩) xs) (k n : Nat) : Byt w (some ⟨b, off + k, none⟩) ((xs.drop k).take n) :=
  ⟨h.has.part k n, fun g o e => by cases e; exact h.blk b off rfl⟩
theorem Byt.lt {w : World} {p : Option Addr} {xs : List Nat} (h : Byt w p xs) : ∀ g o, p = some ⟨g, o, none⟩ → g < w.heap.size := fun g o e => by
  obtain ⟨cs, hb⟩ := h.blk g o e
  exact hb.lt

/-- A row of slices of bytes. -/
structure Pgs (w : World) (a : Option Addr) (ps : List (List Nat)) : Prop where
  pg : ∀ i x, ps[i]? = some x → ∃ b off p, a = some ⟨b, off, none⟩ ∧ w.cell? ⟨b, off + i, none⟩ = some (.slice p 96 96) ∧ x.length = 96 ∧ Byt w p x
  blk : ∀ g o, a = some ⟨g, o, none⟩ → ∃ cs, Blk w g 30 cs
theorem Pgs.keep {w w' : World} {a : Option Addr} {ps : List (List Nat)} (h : Pgs w a ps) (m : ∀ g cs, Blk w g 5 cs → Blk w' g 5 cs) (m' : ∀ g o cs, a = some ⟨g, o, none⟩ → Blk w g 30 cs → Blk w' g 30 cs) : Pgs w' a ps :=
  ⟨fun i x hx => by
    obtain ⟨b, off, p, e, hc, hl, hb⟩ := h.pg i x hx
    obtain ⟨cs, hB⟩ := h.blk b off e
    exact ⟨b, off, p, e, by rw [(m' b off cs e hB).cell, ← hB.cell]; exact hc, hl, hb.keep m⟩, fun g o e => by
    obtain ⟨cs, hb⟩ := h.blk g o e
    exact ⟨cs, m' g o cs e hb⟩⟩
theorem Pgs.old {w w' : World} {a : Option Addr} {ps : List (List Nat)} (h : Pgs w a ps) (m : Old w w') : Pgs w' a ps := h.keep (fun _ _ hb => hb.touch m (fun q => q)) (fun _ _ _ _ hb => hb.touch m (fun q => q))
theorem Pgs.kept {w w' : World} {a : Option Addr} {ps : List (List Nat)} (h : Pgs w a ps) (m : Kept w w') : Pgs w' a ps := h.keep (fun _ _ hb => m.bytes hb) (fun g _ cs _ hb => m.blk 30 g cs (by unfold other; decide) hb)
theorem Pgs.part {w : World} {b off : Nat} {ps : List (List Nat)} (h : Pgs w (some ⟨b, off, none⟩) ps) (k n : Nat) : Pgs w (some ⟨b, off + k, none⟩) ((ps.drop k).take n) :=
  ⟨fun i x hx => by
    have hi : i < n := by have := lt_of_get hx; rw [List.length_take] at this; omega
    rw [List.getElem?_take_of_lt hi, List.getElem?_drop] at hx
    obtain ⟨b', off', p, e, hc, hl, hb⟩ := h.pg (k + i) x hx
    cases e
    exact ⟨b, off + k, p, rfl, by rw [Nat.add_assoc]; exact hc, hl, hb⟩, fun g o e => by cases e; exact h.blk b off rfl⟩
theorem Pgs.take {w : World} {a : Option Addr} {ps : List (List Nat)} (h : Pgs w a ps) (n : Nat) : Pgs w a (ps.take n) :=
  ⟨fun i x hx => by
    have hi : i < n := by have := lt_of_get hx; rw [List.length_take] at this; omega
    rw [List.getElem?_take_of_lt hi] at hx
    exact h.pg i x hx, h.blk⟩

/-- A row of entries. -/
structure Ents (w : World) (a : Option Addr) (e : List Ent) : Prop where
  en : ∀ i x, e[i]? = some x → ∃ b off p c, a = some ⟨b, off, none⟩ ∧ w.cell? ⟨b, off + i * 2, none⟩ = some (.int .i64 (x.1 : Int)) ∧ w.cell? ⟨b, off + i * 2 + 1, none⟩ = some (.slice p x.2.length c) ∧ x.2.length ≤ c ∧ Byt w p x.2
  blk : ∀ g o, a = some ⟨g, o, none⟩ → ∃ cs, Blk w g 115 cs
theorem Ents.keep {w w' : World} {a : Option Addr} {e : List Ent} (h : Ents w a e) (m : ∀ g cs, Blk w g 5 cs → Blk w' g 5 cs) (m' : ∀ g cs, Blk w g 115 cs → Blk w' g 115 cs) : Ents w' a e :=
  ⟨fun i x hx => by
    obtain ⟨b, off, p, c, e, hc, hd, hl, hb⟩ := h.en i x hx
    obtain ⟨cs, hB⟩ := h.blk b off e
    exact ⟨b, off, p, c, e, by rw [(m' b cs hB).cell, ← hB.cell]; exact hc, by rw [(m' b cs hB).cell, ← hB.cell]; exact hd, hl, hb.keep m⟩, fun g o e => by
    obtain ⟨cs, hb⟩ := h.blk g o e
    exact ⟨cs, m' g cs hb⟩⟩
theorem Ents.old {w w' : World} {a : Option Addr} {e : List Ent} (h : Ents w a e) (m : Old w w') : Ents w' a e := h.keep (fun _ _ hb => hb.touch m (fun q => q)) (fun _ _ hb => hb.touch m (fun q => q))
theorem Ents.kept {w w' : World} {a : Option Addr} {e : List Ent} (h : Ents w a e) (m : Kept w w') : Ents w' a e := h.keep (fun _ _ hb => m.bytes hb) (fun g cs hb => m.blk 115 g cs (by unfold other; decide) hb)

theorem num_take (xs : List Nat) (n : Nat) : ∀ k, k ≤ n → num (xs.take n) k = num xs k
  | 0, _ => rfl
  | k + 1, h => by
    show num (xs.take n) k * 256 + at0 (xs.take n) k = num xs k * 256 + at0 xs k
    rw [num_take xs n k (by omega), at0_take (by omega)]

/-- What readCover answers. -/
def Covered (b : List Nat) (k n : Nat) (w : World) (e : Ending) (w' : World) : Prop := e = .returned (.tuple #[.int .i64 (roundC b : Int), .int .i64 (leavesC b : Int), .bool (readC b k n)]) ∧ Old w w'

set_option maxHeartbeats 3200000 in
theorem readCover_any (a : Option Addr) (b : List Nat) (k n : Nat) (w : World) (h : Has w a b) (hl : b.length = 96) (_hk : k < 2) (hn : n ≤ 4096) :
    Calls Tryz.prog 100 #[.slice a 96 96, .int .i64 k, .int .i64 n] w (Covered b k n w) := by
  obtain ⟨g, off, rfl, _⟩ := h.cell 0 (by omega)
  have N1 : ∀ c, Calls Tryz.prog 112 #[.slice (some ⟨g, off, none⟩) 4 c] w.drew fun e w' => e = .returned (.int .i64 (roundC b : Nat)) ∧ w.drew = w' := fun c => by
    have := number_any (some ⟨g, off, none⟩) (b.take 4) 4 c w.drew ((h.take 4).old (Touch.refl _ w).drew) (by rw [List.length_take, hl]; rfl) (by omega)
    rwa [num_take _ _ _ (Nat.le_refl _)] at this
  have N2 : ∀ c, Calls Tryz.prog 112 #[.slice (some ⟨g, off + 4, none⟩) 2 c] w.drew fun e w' => e = .returned (.int .i64 (leavesC b : Nat)) ∧ w.drew = w' := fun c => by
    have := number_any (some ⟨g, off + 4, none⟩) ((b.drop 4).take 2) 2 c w.drew ((h.part 4 2).old (Touch.refl _ w).drew) (by rw [List.length_take, List.length_drop, hl]; rfl) (by omega)
    rwa [num_take _ _ _ (Nat.le_refl _)] at this
  have HN1 := Lib.hid N1
  have HN2 := Lib.hid N2
  have HR : Hid (readC b k n = (decide (0 < roundC b) && (decide (roundC b % 2 = k) && (fits (leavesC b) n && decide (b = cover (roundC b) (leavesC b)))))) := rfl
  have hr4 : roundC b < 4294967296 := num_lt h.byte 4
  have hl2 : leavesC b < 65536 := num_lt (fun x hx => h.byte x (List.mem_of_mem_drop hx)) 2
  have HH := Lib.hid (h.old (Touch.refl _ w).drew)
  have HL := Lib.hid hl
  unfold Covered
  generalize readC b k n = R at *
  clear N1 N2 h hl
  generalize roundC b = r at *
  generalize leavesC b = l at *
  have HD : Hid (Old w w.drew) := (Touch.refl _ _).drew
  go_enter Tryz.func100, Tryz.ntmps100
  go_wp2_with fail
  go_cut [6, 7] (fun x y wx => x = .int .i64 (r : Int) ∧ y = .int .i64 (l : Int) ∧ wx = w.drew)
  case first =>
    go_region_held3 (fun _ => True) (trivial) (first
      | (go_at_call 112; with_reducible refine (HN1.out _).mono ?_; rintro e w' ⟨rfl, rfl⟩)
      | (go_at_call 112; with_reducible refine (HN2.out _).mono ?_; rintro e w' ⟨rfl, rfl⟩))
    all_goals (go_wp2_with fail; go_meet; exact ⟨rfl, rfl, rfl⟩)
  case rest =>
    obtain ⟨rfl, rfl, rfl⟩ := hcut
    clear HN1 HN2
    by_cases h1 : 0 < r
    · have h1' : 0 < (r : Int) := by omega
      have e2 : (r : Int).tmod 2 = ((r % 2 : Nat) : Int) := by rw [Int.tmod_eq_emod_of_nonneg (by omega)]; omega
      by_cases h2 : r % 2 = k
      · have h2' : ((r % 2 : Nat) : Int) = (k : Int) := by omega
        cases hf : fits l n with
        | true =>
          have HF := Lib.hid hf
          have HR' : Hid (R = decide (b = cover r l)) := by show R = _; rw [HR.out, decide_eq_true h1, decide_eq_true h2, hf]; simp
          clear hf HR
          go_wp2_with fail
          refine (fits_any l n _ hn).mono ?_
          rintro e w' ⟨rfl, rfl⟩
          rw [HF.out]
          go_wp2_with fail
          refine (layCover_any r l _ (by omega) (by omega)).mono ?_
          rintro e w1 ⟨g1, rfl, hg1, O1, T1⟩
          have HO := Lib.hid O1
          have HT := Lib.hid T1
          clear O1 T1 hg1
          go_wp2_with fail
          refine (equal_any _ _ b (cover r l) 96 96 _ _ w1 (HH.out.old HT.out) HO.out.has HL.out (by unfold cover; rw [track_length (by rw [coverText_length]; omega)])).mono ?_
          rintro e w' ⟨rfl, rfl⟩
          have HO' := Lib.hid (HD.out.trans HT.out)
          clear HO HT HH
          generalize decide (b = cover r l) = q at *
          go_wp2_with fail
          go_ret3
          exact ⟨by rw [HR'.out]; rfl, HO'.out⟩
        | false =>
          have HF := Lib.hid hf
          have HR' : Hid (R = false) := by show R = false; rw [HR.out, hf]; simp
          clear hf HR
          go_wp2_with fail
          refine (fits_any l n _ hn).mono ?_
          rintro e w' ⟨rfl, rfl⟩
          rw [HF.out]
          go_wp2_with fail
          go_ret3
          exact ⟨by rw [HR'.out]; rfl, HD.out⟩
      · have h2' : ¬ ((r % 2 : Nat) : Int) = (k : Int) := by omega
        have HR' : Hid (R = false) := by show R = false; rw [HR.out, decide_eq_false h2]; simp
        clear HR
        go_wp2_with fail
        go_ret3
        exact ⟨by rw [HR'.out]; rfl, HD.out⟩
    · have h1' : ¬ 0 < (r : Int) := by omega
      have HR' : Hid (R = false) := by show R = false; rw [HR.out, decide_eq_false h1]; simp
      clear HR
      go_wp2_with fail
      go_ret3
      exact ⟨by rw [HR'.out]; rfl, HD.out⟩
end Go.Proofs.YtjajenkagcdhlaaGreat
