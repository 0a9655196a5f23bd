/- Rows of entries that are appended to. -/
import Derived.Test.YtjajenkagcdhlaaGreatKnown
namespace Go.Proofs.YtjajenkagcdhlaaGreat
open Go.RowKit
set_option maxRecDepth 100000

/-- A row of entries of one's own, not older than B, or nil. -/
def MineE (w : World) (B : Nat) (v : Value) (e : List Ent) : Prop := ∃ xs : List Value, w.ownsRow B 115 2 v e.length xs ∧ ∀ (i : Nat) (x : Ent), e[i]? = some x → ∃ p c, xs[i * 2]? = some (.int .i64 (x.1 : Int)) ∧ xs[i * 2 + 1]? = some (.slice p x.2.length c) ∧ x.2.length ≤ c ∧ Byt w p x.2
theorem MineE.nil (w : World) (B : Nat) : MineE w B (.slice none 0 0) [] := ⟨[], World.ownsRow_nil _ _ _ _, fun i x hx => by simp at hx⟩
theorem MineE.form {w : World} {B : Nat} {v : Value} {e : List Ent} (h : MineE w B v e) : ∃ a c, v = .slice a e.length c ∧ e.length ≤ c ∧ Ents w a e := by
  obtain ⟨xs, ⟨hl, ⟨rfl, h0⟩ | ⟨g, cap, cur, rfl, hb, hg, h1, h2, h3, h4⟩⟩, he⟩ := h
  · have : e = [] := List.eq_nil_of_length_eq_zero h0
    subst this
    exact ⟨none, 0, rfl, Nat.le_refl _, ⟨fun i x hx => by simp at hx, fun g o q => by cases q⟩⟩
  · have hB : Blk w g 115 cur.toList := by unfold Blk; rw [hg]
    refine ⟨some ⟨g, 0, none⟩, cap, rfl, h1, ⟨fun i x hx => ?_, fun g' o q => by cases q; exact ⟨_, hB⟩⟩⟩
    obtain ⟨p, c, q1, q2, q3, q4⟩ := he i x hx
    have hi := lt_of_get hx
    refine ⟨g, 0, p, c, rfl, ?_, ?_, q3, q4⟩
    · rw [Nat.zero_add, hB.cell, ← q1, ← h4, List.getElem?_take_of_lt (by omega)]
    · rw [Nat.zero_add, hB.cell, ← q2, ← h4, List.getElem?_take_of_lt (by omega)]
theorem MineE.touch {S : Nat → Prop} {w w' : World} {B : Nat} {v : Value} {e : List Ent} (h : MineE w B v e) (m : Touch S w w') (hn : ∀ k, blk v k → ¬ S k) (h5 : ∀ g cs, Blk w g 5 cs → ¬ S g) : MineE w' B v e := by
  obtain ⟨xs, ho, he⟩ := h
  refine ⟨xs, owns_touch ho m hn, fun i x hx => ?_⟩
  obtain ⟨p, c, q1, q2, q3, q4⟩ := he i x hx
  exact ⟨p, c, q1, q2, q3, q4.keep fun g cs hb => hb.touch m (h5 g cs hb)⟩
theorem MineE.old {w w' : World} {B : Nat} {v : Value} {e : List Ent} (h : MineE w B v e) (m : Old w w') : MineE w' B v e := h.touch m (fun _ _ q => q) (fun _ _ _ q => q)
theorem MineE.lt {w : World} {B : Nat} {v : Value} {e : List Ent} (h : MineE w B v e) : ∀ k, blk v k → B ≤ k ∧ k < w.heap.size := by
  obtain ⟨xs, ho, _⟩ := h
  exact fun k hk => ho.lt k hk
theorem MineE.not_blk {w : World} {B g : Nat} {v : Value} {e : List Ent} {t : TypeId} {cs : List Value} (h : MineE w B v e) (hg : Blk w g t cs) (ht : t ≠ 115) : ¬ blk v g := by
  obtain ⟨xs, ho, _⟩ := h
  exact own_blk ho hg (fun q => ht q.symm)
/-- One more entry. -/
theorem MineE.more {w : World} {B : Nat} {v : Value} {e : List Ent} (h : MineE w B v e) (hB : B ≤ w.heap.size) (k : Nat) (p : Option Addr) (bs : List Nat) (n c : Nat) (hn : bs.length = n) (hc : n ≤ c) (hb : Byt w p bs) (hl : e.length ≤ 1000000) :
    ∃ v' w', (∀ ty, (Builtin.append_ #[78, 78] ty #[v, .slice (some ⟨w.heap.size, 0, none⟩) 1 1]).run Tryz.prog (w.alloc (.cells #[.int .i64 (k : Int), .slice p n c] 115)) = .ok v' w') ∧ MineE w' B v' (e ++ [(k, bs)]) ∧ Touch (blk v) w w' := by
  have T1 : Old w (w.alloc (.cells #[.int .i64 (k : Int), .slice p n c] 115)) := (Touch.refl _ w).alloc _
  have K1 : Blk (w.alloc (.cells #[.int .i64 (k : Int), .slice p n c] 115)) w.heap.size 115 [.int .i64 (k : Int), .slice p n c] := Blk.new w 115 [.int .i64 (k : Int), .slice p n c]
  have h1 := h.old T1
  have hb1 := hb.old T1
  have hB1 : B ≤ (w.alloc (.cells #[.int .i64 (k : Int), .slice p n c] 115)).heap.size := Nat.le_trans hB T1.size
  generalize w.alloc (.cells #[.int .i64 (k : Int), .slice p n c] 115) = w1 at *
  obtain ⟨xs, ho, he⟩ := h1
  obtain ⟨i0, hi0, hz0, hz1, hz2⟩ := info_parts info115
  have hone : ∀ u ∈ [Value.int .i64 (k : Int), .slice p n c], u.oneCell' = true := by
    intro u hu
    simp at hu
    rcases hu with rfl | rfl <;> rfl
  have key : ∀ ty, ∃ v' w', (Builtin.append_ #[78, 78] ty #[v, .slice (some ⟨w.heap.size, 0, none⟩) 1 1]).run Tryz.prog w1 = .ok v' w' ∧ w'.ownsRow B 115 2 v' (e.length + 1) (xs ++ [.int .i64 (k : Int), .slice p n c]) ∧ w1.grownBy w' v.ownBlock := fun ty => by
    obtain ⟨v', w', hap, own, gr, _, _⟩ := run_append_own_at (P := Tryz.prog) w1 B 78 ty 115 i0 _ 2 32 Tryz.underlying78 hi0 hz0 hz1 hz2 rfl (by omega) v _ _ ho ⟨w.heap.size, 0, none⟩ 1 1 [.int .i64 (k : Int), .slice p n c] rfl (World.news_of_block K1) hone (by simp only [maxLen]; omega) (by omega) hB1
    exact ⟨v', w', hap, own, gr⟩
  obtain ⟨v', w', hap, own, gr⟩ := key 78
  have T2 : Touch (blk v) w1 w' := Touch.grown gr (fun k hk => hk)
  refine ⟨v', w', fun ty => hap, ⟨xs ++ [.int .i64 (k : Int), .slice p n c], by rw [List.length_append]; exact own, fun i x hx => ?_⟩, (Touch.of_old T1).trans T2⟩
  have hxl : xs.length = e.length * 2 := ho.1
  have h5 : ∀ g cs, Blk w1 g 5 cs → Blk w' g 5 cs := fun g cs hg => hg.touch T2 (own_blk ho hg (by decide))
  rcases Nat.lt_or_ge i e.length with q | q
  · rw [List.getElem?_append_left q] at hx
    obtain ⟨p', c', q1, q2, q3, q4⟩ := he i x hx
    exact ⟨p', c', by rw [List.getElem?_append_left (by omega)]; exact q1, by rw [List.getElem?_append_left (by omega)]; exact q2, q3, q4.keep h5⟩
  · rw [List.getElem?_append_right q] at hx
    have hi0 : i - e.length = 0 := by
      have := lt_of_get hx
      simp at this
      omega
    rw [hi0] at hx
    injection hx with hx
    subst hx
    have hie : i = e.length := by omega
    subst hie
    exact ⟨p, c, by rw [List.getElem?_append_right (by omega), hxl, Nat.sub_self]; rfl, by rw [List.getElem?_append_right (by omega), hxl, show e.length * 2 + 1 - e.length * 2 = 1 by omega, hn]; rfl, by rw [hn]; exact hc, hb1.keep h5⟩

/-- A drum that no ledger is on. -/
theorem open_corrupt {w0 : Fr} {w : World} {d : Nat} {b : Bl} {D : DS} (h : St w0 d b D w) (hd : D.down = false) (hk : coverK D = none) : Calls Tryz.prog 47 #[.pointer (some ⟨d, 0, none⟩)] w fun x w' => x = .returned (.tuple #[.pointer none, .int .i64 11]) ∧ Old w w' := by
  have HC := Lib.hid (counted_any h hd)
  have HK := Lib.hid hk
  clear h hd hk
  go_enter Tryz.func47, Tryz.ntmps47
  go_wp2_with fail
  refine HC.out.mono ?_
  rintro x w1 ⟨O1, ⟨_, rfl⟩ | ⟨k, l, g, b1, hk, _⟩⟩
  · have HO := Lib.hid O1
    clear O1 HC
    go_wp2_with fail
    go_ret2
    exact ⟨rfl, HO.out⟩
  · rw [HK.out] at hk; cases hk
end Go.Proofs.YtjajenkagcdhlaaGreat
