/- The reference's New. -/
import Derived.Test.YthbkhhcijekplaaRefSettle
namespace Go.Proofs.Ythbkhhcijekplaa
open Go.RowKit

theorem owns_base {w : World} {base base' size n : Nat} {e : TypeId} {v : Value} {xs : List Value} (h : w.ownsRow base e size v n xs) (hb : base' ≤ base) : w.ownsRow base' e size v n xs := by
  refine ⟨h.1, ?_⟩
  rcases h.2 with h0 | ⟨g, cap, cur, rfl, h1, h2⟩
  · exact .inl h0
  · exact .inr ⟨g, cap, cur, rfl, Nat.le_trans hb h1, h2⟩
/-- How long the slice at the head of a block is. -/
def lenAt (w : World) (r : Nat) : Nat := match w.cell? ⟨r, 0, none⟩ with | some (.slice _ l _) => l | _ => 0
theorem strs_snoc (t : Nat) : strs (List.replicate (t + 1) (zeros 96)) = strs (List.replicate t (zeros 96)) ++ [.string (strOf (zeros 96))] := by
  rw [List.replicate_succ']
  simp [strs]

structure RNew (w : World) (r n t : Nat) (wx : World) : Prop where
  at_ : ∃ vt, RAt w r vt (.slice none 0 0) (DS.new t) wx
  lo : w.heap.size ≤ r
  old : Old w wx
  le : t ≤ n

theorem RNew.len {w wx : World} {r n t : Nat} (h : RNew w r n t wx) : lenAt wx r = t := by
  obtain ⟨vt, ha⟩ := h.at_
  have hTl : (DS.new t).T.length = t := by simp [DS.new]
  have htr := ha.tr
  rw [hTl] at htr
  obtain ⟨a, c, rfl⟩ := str_form htr
  have hc : wx.cell? ⟨r, 0, none⟩ = some (.slice a t c) := ha.head.cell 0
  unfold lenAt
  rw [hc]

/-- One string more. -/
theorem RNew.more {w wx : World} {r n t : Nat} (h : RNew w r n t wx) (ht : t < n) (hn : n ≤ 4096) (w7 : World) (O : Old wx w7) :
    ∃ a c v w9, wx.cell? ⟨r, 0, none⟩ = some (.slice a t c) ∧ w7.cell? ⟨r, 0, none⟩ = some (.slice a t c) ∧ (w7.alloc (.cells #[.string (strOf (zeros 96))] 9)).cell? ⟨r, 0, none⟩ = some (.slice a t c) ∧
      (Builtin.append_ #[45, 45] 45 #[.slice a t c, .slice (some ⟨w7.heap.size, 0, none⟩) 1 1]).run Try.prog (w7.alloc (.cells #[.string (strOf (zeros 96))] 9)) = .ok v w9 ∧ (∃ a' c', v = .slice a' (t + 1) c') ∧ (∃ u, w9.cell? ⟨r, 0, none⟩ = some u) ∧ w9.frozen? ⟨r, 0, none⟩ = false ∧
      RNew w r n (t + 1) (w9.setCell ⟨r, 0, none⟩ v) := by
  obtain ⟨vt, ha⟩ := h.at_
  have lo := h.lo
  have hTl : (DS.new t).T.length = t := by simp [DS.new]
  have htr := ha.tr
  rw [hTl] at htr
  obtain ⟨a, c, rfl⟩ := str_form htr
  have a7 := ha.old O lo
  have T8 : Old w7 (w7.alloc (.cells #[.string (strOf (zeros 96))] 9)) := (Touch.refl _ _).alloc _
  have a8 := a7.old T8 lo
  have K8 : Blk (w7.alloc (.cells #[.string (strOf (zeros 96))] 9)) w7.heap.size 9 [.string (strOf (zeros 96))] := Blk.new w7 9 [.string (strOf (zeros 96))]
  obtain ⟨i0, hi0, hz0, hz1, hz2⟩ := info_parts info9
  have tr8 := a8.tr
  rw [hTl] at tr8
  obtain ⟨v, w9, hap, own9, gr9, _, blk9⟩ := run_append_own_at (P := Try.prog) _ w.heap.size 45 45 9 i0 _ 1 16 Try.underlying45 hi0 hz0 hz1 hz2 rfl (by omega) _ _ _ tr8 ⟨w7.heap.size, 0, none⟩ 1 1 [.string (strOf (zeros 96))] rfl (World.news_of_block K8) (fun u hu => by rw [List.mem_singleton.1 hu]; rfl) (by simp only [maxLen]; omega) (by omega) (Nat.le_trans h.old.size (Nat.le_trans O.size T8.size))
  obtain ⟨a9, c9, rfl⟩ := str_form own9
  have T9 : Touch (fun q => (Value.slice a t c).ownBlock = some q) _ w9 := Touch.grown gr9 (fun q hq => hq)
  have B9 := a8.head.touch T9 (own_blk tr8 a8.head (by decide))
  have T10 : Touch (fun q => q = r) w9 (w9.setCell ⟨r, 0, none⟩ (.slice a9 (t + 1) c9)) := Touch.one ⟨r, 0, none⟩ _
  have old8 : Old w (w7.alloc (.cells #[.string (strOf (zeros 96))] 9)) := (h.old.trans O).trans T8
  refine ⟨a, c, _, w9, ha.head.cell 0, a7.head.cell 0, a8.head.cell 0, hap, ⟨a9, c9, rfl⟩, ⟨_, B9.cell 0⟩, B9.frozen 0, ⟨⟨.slice a9 (t + 1) c9, ?_⟩, lo, ?_, by omega⟩⟩
  · refine ⟨?_, ?_, World.ownsRow_nil _ _ _ _⟩
    · have := B9.set 0 (.slice a9 (t + 1) c9)
      exact this
    · have := owns_touch own9 T10 (fun q hq e => own_blk own9 B9 (by decide) (by rw [hq, e]))
      have e : (DS.new (t + 1)).T = List.replicate (t + 1) (zeros 96) := rfl
      rw [e, List.length_replicate, strs_snoc]
      exact this
  · refine ⟨T10.os.trans (T9.os.trans old8.os), T10.tape.trans (T9.tape.trans old8.tape), T10.output.trans (T9.output.trans old8.output), Nat.le_trans old8.size (Nat.le_trans T9.size T10.size), fun q hq _ => ?_⟩
    have e1 := old8.block q hq (fun x => x)
    have e2 := T9.block q (Nat.lt_of_lt_of_le hq old8.size) (fun hq2 => by have := (tr8.lt q hq2).1; omega)
    have e3 := T10.block q (Nat.lt_of_lt_of_le hq (Nat.le_trans old8.size T9.size)) (fun e => by omega)
    rw [e3, e2, e1]

set_option maxRecDepth 100000 in
set_option maxHeartbeats 3200000 in
theorem rnew_any (n : Nat) (hn : n ≤ 4096) (w0 w : World) (h0 : w0.heap.size ≤ w.heap.size) :
    Calls Try.prog 22 #[.int .i64 n] w fun e w' => ∃ r, e = .returned (.pointer (some ⟨r, 0, none⟩)) ∧ Rs w0 r (DS.new n) w' ∧ Old w w' := by
  have HI0 : Hid (RNew w w.heap.size n 0 (w.alloc (.cells #[.slice none 0 0, .slice none 0 0, .int .i64 (-1), .bool false, .int .i64 0] 48))) :=
    ⟨⟨.slice none 0 0, ⟨Blk.new w 48 _, World.ownsRow_nil _ _ _ _, World.ownsRow_nil _ _ _ _⟩⟩, Nat.le_refl _, (Touch.refl _ _).alloc _, Nat.zero_le _⟩
  go_enter Try.func22, Try.ntmps22
  go_wp2_with fail
  generalize hr : w.heap.size = r at *
  have HR := Lib.hid hr
  clear hr
  go_loopw [9] (fun _ wx => ∃ t : Nat, Hid (RNew w r n t wx)) (fun _ wx => n - lenAt wx r)
  case atStart => exact ⟨0, HI0⟩
  case round =>
    obtain ⟨t, HI⟩ := hrel
    clear HI0
    obtain ⟨vt, ha⟩ := HI.out.at_
    have hTl : (DS.new t).T.length = t := by simp [DS.new]
    have htr := ha.tr
    rw [hTl] at htr
    obtain ⟨a, c, rfl⟩ := str_form htr
    have hc : wr.cell? ⟨r, 0, none⟩ = some (.slice a t c) := ha.head.cell 0
    have HC := Lib.hid hc
    clear ha htr hTl
    by_cases hlt : t < n
    · have hlt' : (t : Int) < (n : Int) := by omega
      have HMore := Lib.hid (HI.out.more hlt hn)
      go_wp2_with fail
      have hcd : wr.drew.cell? ⟨r, 0, none⟩ = some (.slice a t c) := hc
      go_region_law (first
        | (refine step_append rfl (.tmp 17) (.tmp 20) 45 45 rfl (.slice a t c) (.slice (some ⟨w7.heap.size, 0, none⟩) 1 1) rfl rfl _ _ hap ?_)
        | (refine step_wanted rfl ?_; go_simp; refine (zeros_any _).mono ?_; rintro e w7 ⟨rfl, K7, O7⟩; obtain ⟨a8, c8, v9, w9, q0, q1, q2, hap, ⟨a9, c9, hv9⟩, ⟨u9, q3⟩, q4, N9⟩ := HMore.out w7 (((Touch.refl _ _).drew).trans O7); rw [HC.out] at q0; cases q0; subst hv9; have HN9 := Lib.hid N9; have hs : (convert 28 9 (.slice (some ⟨wr.heap.size, 0, none⟩) 96 96)).run Try.prog w7 = .ok (.string (strOf (zeros 96))) w7 := str_any w7 _ _ 96 96 (blk_has (zeros_byte 96) K7) (zeros_length 96); clear N9 K7 O7; dsimp only))
      all_goals
        go_wp2_with fail
        exact ⟨⟨t + 1, HN9⟩, by rw [HN9.out.len, HI.out.len]; omega⟩
    · obtain rfl : t = n := by have := HI.out.le; omega
      have hlt' : ¬ (t : Int) < (t : Int) := by omega
      go_wp2_with fail
      go_ret
      obtain ⟨vt, ha⟩ := HI.out.at_
      have h0' : w0.heap.size ≤ w.heap.size := by rw [HR.out]; exact h0
      exact ⟨r, rfl, ⟨h0, vt, _, ha.head, owns_base ha.tr h0', owns_base ha.af h0'⟩, HI.out.old⟩
end Go.Proofs.Ythbkhhcijekplaa
