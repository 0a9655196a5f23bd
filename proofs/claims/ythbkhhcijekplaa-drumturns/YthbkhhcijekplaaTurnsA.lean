/- What the walk of lariatlaw4.DrumTurns carries. -/
import Derived.Test.YthbkhhcijekplaaRefFall
import Derived.Test.YthbkhhcijekplaaTurn
import Derived.Test.YthbkhhcijekplaaWasOps
import Derived.Deep.RegionWith
import Derived.Deep.DeepCutAuto
import Derived.Deep.CutBlock
namespace Go.Proofs.Ythbkhhcijekplaa
open Go.RowKit

/-- What the law has between two rounds: two drums that are one. -/
structure TSt (w : World) (d r tr i : Nat) (wx : World) : Prop where
  ex : ∃ b D, St w d b D wx ∧ Rs w r D wx ∧ D.T.length = tr ∧ D.turns ≤ i

theorem TSt.old {w : World} {d r tr i : Nat} {wx wy : World} (h : TSt w d r tr i wx) (m : Old wx wy) : TSt w d r tr i wy := by
  obtain ⟨b, D, h1, h2, h3, h4⟩ := h.ex
  exact ⟨b, D, h1.step m, h2.old m, h3, h4⟩

theorem turned_turns (D : DS) : D.turned.turns ≤ D.turns + 1 := by unfold DS.turned; split <;> simp
theorem settle_len (D : DS) : D.settle.T.length = D.T.length := by
  unfold DS.settle; split
  · exact DS.seen_length D
  · rw [DS.turned_T]
theorem settle_turns (D : DS) : D.settle.turns ≤ D.turns + 1 := by
  unfold DS.settle; split <;> exact turned_turns D
theorem lay_tr (D : DS) (k : Nat) (xs : List Nat) : (D.lay k xs).T.length = D.T.length := by
  unfold DS.lay; split <;> (simp only [DS.turned_T])
theorem lay_turns (D : DS) (k : Nat) (xs : List Nat) : (D.lay k xs).turns ≤ D.turns + 1 := by
  unfold DS.lay; split <;> exact turned_turns D

/-- The program's turn, then the reference's. -/
theorem TSt.next {w wa wb wc : World} {d r tr i : Nat} {D' : DS} (N : Next w d D' wa wb) (R : RNext w r D' wb wc) (hT : D'.T.length = tr) (ht : D'.turns ≤ i) : TSt w d r tr i wc := by
  obtain ⟨⟨b', S'⟩, _⟩ := N
  exact ⟨b', D', S'.mine (R.2.mono fun _ _ q => rmine_mine q), R.1, hT, ht⟩

/-- A type that is neither drum's. -/
def free (t : TypeId) : Prop := other t ∧ t ≠ 48 ∧ t ≠ 9 ∧ t ≠ 50
theorem RAt.free {S : Nat → Prop} {w0 w w' : World} {r : Nat} {vt va : Value} {D : DS} (ha : RAt w0 r vt va D w) (m : Touch S w w') (hs : ∀ g, S g → ∃ t cs, Go.Proofs.Ythbkhhcijekplaa.free t ∧ Blk w g t cs) (lo : w0.heap.size ≤ r) : RAt w0 r vt va D w' := by
  refine ha.touch m (fun g hg => .inl (fun ⟨_, t', cs', ht', hb'⟩ => ?_)) lo
  obtain ⟨t, cs, ⟨_, h1, h2, h3⟩, hb⟩ := hs g hg
  rcases ht' with rfl | rfl | rfl
  · exact hb.ne hb' h1 rfl
  · exact hb.ne hb' h2 rfl
  · exact hb.ne hb' h3 rfl
theorem Rs.free {S : Nat → Prop} {w0 w w' : World} {r : Nat} {D : DS} (h : Rs w0 r D w) (m : Touch S w w') (hs : ∀ g, S g → ∃ t cs, free t ∧ Blk w g t cs) : Rs w0 r D w' := by
  obtain ⟨vt, va, ha⟩ := h.ex
  refine ⟨h.lo, vt, va, ha.touch m (fun g hg => .inl (fun ⟨_, t', cs', ht', hb'⟩ => ?_)) h.lo⟩
  obtain ⟨t, cs, ⟨_, h1, h2, h3⟩, hb⟩ := hs g hg
  rcases ht' with rfl | rfl | rfl
  · exact hb.ne hb' h1 rfl
  · exact hb.ne hb' h2 rfl
  · exact hb.ne hb' h3 rfl
theorem St.free {S : Nat → Prop} {w0 w w' : World} {d : Nat} {b : Bl} {D : DS} (h : St w0 d b D w) (m : Touch S w w') (hs : ∀ g, S g → w0.heap.size ≤ g ∧ ∃ t cs, free t ∧ Blk w g t cs) : St w0 d b D w' :=
  h.touch m (fun g hg => by
    obtain ⟨h1, t, cs, ⟨h2, _⟩, hb⟩ := hs g hg
    exact ⟨h.dr.not_foot hb h2, h1⟩)
theorem free5 : free 5 := by unfold free other; decide
theorem free3 : free 3 := by unfold free other; decide

theorem int_form {w : World} {base n : Nat} {v : Value} {xs : List Value} (h : w.ownsRow base 3 1 v n xs) : ∃ a c, v = .slice a n c := by
  rcases h.2 with ⟨rfl, rfl⟩ | ⟨g, cap, cur, rfl, _⟩
  · exact ⟨none, 0, rfl⟩
  · exact ⟨_, _, rfl⟩
theorem owns_free {w : World} {base n : Nat} {v : Value} {xs : List Value} (h : w.ownsRow base 3 1 v n xs) : ∀ g, v.ownBlock = some g → base ≤ g ∧ ∃ t cs, free t ∧ Blk w g t cs := fun g hg => by
  rcases h.2 with ⟨e, _⟩ | ⟨g', cap, cur, e, hb', hg', _⟩
  · rw [e] at hg; cases hg
  · rw [e] at hg
    have : g' = g := by simpa [Value.ownBlock] using hg
    subst this
    exact ⟨hb', 3, cur.toList, free3, hg'⟩
theorem owns_int {w : World} {base n : Nat} {v : Value} {xs : List Value} (h : w.ownsRow base 3 1 v n xs) : ∀ g, v.ownBlock = some g → base ≤ g ∧ ∃ cs, Blk w g 3 cs := fun g hg => by
  rcases h.2 with ⟨e, _⟩ | ⟨g', cap, cur, e, hb', hg', _⟩
  · rw [e] at hg; cases hg
  · rw [e] at hg
    have : g' = g := by simpa [Value.ownBlock] using hg
    subst this
    exact ⟨hb', cur.toList, hg'⟩
/-- Numbers that a law collects. -/
def intsI (xs : List Int) : List Value := xs.map fun x => Value.int .i64 x
theorem intsI_append (xs ys : List Int) : intsI (xs ++ ys) = intsI xs ++ intsI ys := by simp [intsI]
theorem intsI_has {w : World} {base c : Nat} {a : Option Addr} {n : Nat} {l : List Int} (hl : l.length = n) (h : w.ownsRow base 3 1 (.slice a n c) n (intsI l)) : HasI w a l :=
  ⟨fun i hi => by
    rcases h.2 with ⟨_, h0⟩ | ⟨g, cap, cur, e, _⟩
    · omega
    · injection e with e1 e2 e3
      subst e1
      refine ⟨g, 0, rfl, ?_⟩
      rw [Nat.zero_add, h.cellAt i (by omega)]
      simp [intsI, List.getD_eq_getElem?_getD, List.getElem?_eq_getElem hi]⟩

/-- They stay through the program's turn and the reference's. -/
theorem ints_stay {w0 w w1 w2 : World} {base c : Nat} {a : Option Addr} {n : Nat} {l : List Int} (hl : l.length = n) (h : w.ownsRow base 3 1 (.slice a n c) n (intsI l)) (K : Kept w w1) (m : Touch (rmine w0 w1) w1 w2) : HasI w2 a l := by
  have hI := intsI_has hl h
  rcases h.2 with ⟨_, h0⟩ | ⟨g, cap, cur, e, _, hg, _⟩
  · exact ⟨fun i hi => by omega⟩
  · injection e with e1 e2 e3
    subst e1
    have b0 : Blk w g 3 cur.toList := hg
    have b2 : Blk w2 g 3 cur.toList := (K.ints b0).rstay m (by decide)
    refine ⟨fun i hi => ?_⟩
    obtain ⟨g', o', e', hc⟩ := hI.cell i hi
    cases e'
    exact ⟨g, 0, rfl, by rw [b2.cell, ← b0.cell]; exact hc⟩

theorem Grows.kept {w w' : World} {g c : Nat} {xs : List Nat} (h : Grows w g c xs) (K : Kept w w') : Grows w' g c xs := by
  obtain ⟨rest, hr, hl⟩ := h.row
  exact ⟨h.byte, rest, K.bytes hr, hl⟩
theorem Grows.blk {w : World} {g c : Nat} {xs : List Nat} (h : Grows w g c xs) : ∃ cs, Blk w g 5 cs := by
  obtain ⟨rest, hr, hl⟩ := h.row
  exact ⟨_, hr⟩
theorem Grows.room {w : World} {g c : Nat} {xs : List Nat} (h : Grows w g c xs) : xs.length ≤ c := by
  obtain ⟨rest, hr, hl⟩ := h.row
  omega
theorem old_of {w W W' : World} {g : Nat} (O : Old w W) (m : Touch (fun k => k = g) W W') (hg : w.heap.size ≤ g) : Old w W' :=
  ⟨m.os.trans O.os, m.tape.trans O.tape, m.output.trans O.output, Nat.le_trans O.size m.size, fun k hk hn => by
    rw [m.block k (Nat.lt_of_lt_of_le hk O.size) (fun q => by omega)]
    exact O.block k hk hn⟩

/-- What is to be laid: bytes that came in, and a whole track of one byte behind them. -/
structure Brought (w : World) (g c : Nat) (xs : List Nat) (wx : World) : Prop where
  grows : Grows wx g c xs
  new : w.heap.size ≤ g
  old : Old w wx

theorem lay_last {w W : World} {g c n p : Nat} {xs ys : List Nat} (L : Brought w g c xs W) (hn : xs.length = n) (hb : ∀ y ∈ ys, y < 256) (hy : ys.length = 96) (hm : n ≤ 140737488351232) (K : Blk W p 5 (cells ys)) :
    ∃ g' c' W', (∀ ty, (Builtin.append_ #[28, 28] ty #[.slice (some ⟨g, 0, none⟩) n c, .slice (some ⟨p, 0, none⟩) 96 96]).run Try.prog W = .ok (.slice (some ⟨g', 0, none⟩) (n + 96) c') W') ∧ Brought w g' c' (xs ++ ys) W' := by
  obtain ⟨g', c', W', hr, hg', G', T'⟩ := append_onto W g c n xs ys (some ⟨p, 0, none⟩) 96 96 L.grows (blk_has hb K) hn hy (by omega)
  refine ⟨g', c', W', hr, G', ?_, old_of L.old T' L.new⟩
  rcases hg' with e | h
  · rw [e]; exact L.new
  · exact Nat.le_trans L.old.size h
/-- Behind the call in between: the first append comes later. -/
theorem lay_late {w w7 : World} {a : Option Addr} {xs ys : List Nat} {n cap p : Nat} (H : Has w a xs) (hn : xs.length = n) (hb : ∀ y ∈ ys, y < 256) (hy : ys.length = 96) (hm : n ≤ 140737488351232) (hp : w.heap.size < p) (K : Blk w7 p 5 (cells ys)) (O : Old (w.alloc (.cells #[] 5)).drew w7) :
    ∃ g c w8, (∀ ty, (Builtin.append_ #[28, 28] ty #[.slice (some ⟨w.heap.size, 0, none⟩) 0 0, .slice a n cap]).run Try.prog w7 = .ok (.slice (some ⟨g, 0, none⟩) n c) w8) ∧
    ∃ g' c' w9, (∀ ty, (Builtin.append_ #[28, 28] ty #[.slice (some ⟨g, 0, none⟩) n c, .slice (some ⟨p, 0, none⟩) 96 96]).run Try.prog w8 = .ok (.slice (some ⟨g', 0, none⟩) (n + 96) c') w9) ∧ Brought w g' c' (xs ++ ys) w9 := by
  have T1 : Old w (w.alloc (.cells #[] 5)).drew := ((Touch.refl _ w).alloc _).drew
  have B0 : Blk (w.alloc (.cells #[] 5)).drew w.heap.size 5 [] := heap_alloc_new w _
  have G1 : Grows w7 w.heap.size 0 [] := ⟨(fun _ h => by cases h), [], B0.touch O (fun q => q), rfl⟩
  obtain ⟨g, c, w8, hr, hg, G8, T8⟩ := append_onto w7 w.heap.size 0 0 [] xs a n cap G1 (H.old (T1.trans O)) rfl hn (by omega)
  simp only [Nat.zero_add, List.nil_append] at hr G8
  refine ⟨g, c, w8, hr, ?_⟩
  have L8 : Brought w g c xs w8 := by
    refine ⟨G8, ?_, old_of (T1.trans O) T8 (Nat.le_refl _)⟩
    rcases hg with e | h
    · rw [e]; exact Nat.le_refl _
    · exact Nat.le_trans (T1.trans O).size h
  exact lay_last L8 hn hb hy hm (K.touch T8 (fun e => by omega))
/-- The call first, then both. -/
theorem lay_both {w w7 : World} {a : Option Addr} {xs ys : List Nat} {n cap p : Nat} (H : Has w a xs) (hn : xs.length = n) (hb : ∀ y ∈ ys, y < 256) (hy : ys.length = 96) (hm : n ≤ 140737488351232) (K : Blk w7 p 5 (cells ys)) (O : Old w w7) :
    ∃ g c w8, (∀ ty, (Builtin.append_ #[28, 28] ty #[.slice (some ⟨w7.heap.size, 0, none⟩) 0 0, .slice a n cap]).run Try.prog (w7.alloc (.cells #[] 5)) = .ok (.slice (some ⟨g, 0, none⟩) n c) w8) ∧
    ∃ g' c' w9, (∀ ty, (Builtin.append_ #[28, 28] ty #[.slice (some ⟨g, 0, none⟩) n c, .slice (some ⟨p, 0, none⟩) 96 96]).run Try.prog w8 = .ok (.slice (some ⟨g', 0, none⟩) (n + 96) c') w9) ∧ Brought w g' c' (xs ++ ys) w9 := by
  obtain ⟨g, c, w8, hr, hg, G8, T8⟩ := append_new w7 a xs n cap (H.old O) hn (by omega)
  exact ⟨g, c, w8, hr, lay_last ⟨G8, Nat.le_trans O.size hg, O.trans T8⟩ hn hb hy hm (K.touch T8 (fun q => q))⟩

/-- A Lay that is refused. -/
theorem lay_no {w0 w : World} {d : Nat} {b : Bl} {D : DS} (S : St w0 d b D w) (k : Int) (a : Option Addr) (len cap : Nat) (h : (k < 0 ∨ (D.T.length : Int) ≤ k) ∨ len ≠ 96) :
    Calls Try.prog 10 #[.pointer (some ⟨d, 0, none⟩), .int .i64 k, .slice a len cap] w fun e w' => e = .returned (.int .i64 1) ∧ w = w' := by
  by_cases hk : k < 0 ∨ (D.T.length : Int) ≤ k
  · exact lay_arg d k b D D.seen w a len cap S.dr.at_ hk
  · obtain ⟨n, rfl⟩ := Int.eq_ofNat_of_zero_le (a := k) (by omega)
    exact lay_len d n b D D.seen w a len cap S.dr.at_ (by omega) (h.resolve_left hk)
theorem rlay_no {w0 w : World} {r : Nat} {D : DS} (R : Rs w0 r D w) (k : Int) (a : Option Addr) (len cap : Nat) (h : (k < 0 ∨ (D.T.length : Int) ≤ k) ∨ len ≠ 96) :
    Calls Try.prog 26 #[.pointer (some ⟨r, 0, none⟩), .int .i64 k, .slice a len cap] w fun e w' => e = .returned (.int .i64 1) ∧ w = w' := by
  by_cases hk : k < 0 ∨ (D.T.length : Int) ≤ k
  · exact rlay_arg R k a len cap hk
  · obtain ⟨n, rfl⟩ := Int.eq_ofNat_of_zero_le (a := k) (by omega)
    exact rlay_len R n a len cap (by omega) (h.resolve_left hk)

/-- 'append(up, x)', up a row of the law's own. -/
theorem ints_append {w0 w : World} (h0 : w0.heap.size ≤ w.heap.size) (v : Value) (n : Nat) (l : List Int) (x : Int) (h : w.ownsRow w0.heap.size 3 1 v n (intsI l)) (hn : n ≤ 100000) :
    ∃ a c a' c' w', v = .slice a n c ∧ (Builtin.append_ #[30, 30] 30 #[.slice a n c, .slice (some ⟨w.heap.size, 0, none⟩) 1 1]).run Try.prog (w.alloc (.cells #[.int .i64 x] 3)) = .ok (.slice a' (n + 1) c') w' ∧
      w'.ownsRow w0.heap.size 3 1 (.slice a' (n + 1) c') (n + 1) (intsI (l ++ [x])) ∧ (∀ (d : Nat) (b : Bl) (D : DS), St w0 d b D w → St w0 d b D w') ∧ (∀ (r : Nat) (vt va : Value) (D : DS), w0.heap.size ≤ r → RAt w0 r vt va D w → RAt w0 r vt va D w') ∧ (∀ (g : Nat) (cs : List Value), Blk w g 44 cs → Blk w' g 44 cs) := by
  obtain ⟨a, c, rfl⟩ := int_form h
  obtain ⟨i0, hi, hz0, hz1, hz2⟩ := info_parts info3
  have T1 : Old w (w.alloc (.cells #[.int .i64 x] 3)) := (Touch.refl _ _).alloc _
  have K1 : Blk (w.alloc (.cells #[.int .i64 x] 3)) w.heap.size 3 [.int .i64 x] := Blk.new w 3 [.int .i64 x]
  have h1 := owns_touch h T1 (fun _ _ q => q)
  obtain ⟨v', w', hr, own', gr, _, hb⟩ := run_append_own_at (P := Try.prog) _ w0.heap.size 30 30 3 i0 _ 1 8 Try.underlying30 hi hz0 hz1 hz2 rfl (by omega) _ _ _ h1 ⟨w.heap.size, 0, none⟩ 1 1 [.int .i64 x] rfl (World.news_of_block K1) (fun u hu => by rw [List.mem_singleton.1 hu]; rfl) (by simp only [maxLen]; omega) (by omega) (Nat.le_trans h0 T1.size)
  obtain ⟨a', c', rfl⟩ := int_form own'
  have Tg : Touch (fun g => (Value.slice a n c).ownBlock = some g) (w.alloc (.cells #[.int .i64 x] 3)) w' := Touch.grown gr (fun k hk => hk)
  refine ⟨a, c, a', c', w', rfl, hr, by rw [intsI_append]; exact own', fun d b D S => (S.step T1).free Tg (owns_free h1), fun r vt va D lo R => (R.old T1 lo).free Tg (fun g hg => (owns_free h1 g hg).2) lo, fun g cs hb => ?_⟩
  refine (hb.touch T1 (fun q => q)).touch Tg (fun hg => ?_)
  obtain ⟨_, cs', hb'⟩ := owns_int h1 g hg
  exact (hb.touch T1 (fun q => q)).ne hb' (by decide) rfl

end Go.Proofs.Ythbkhhcijekplaa
