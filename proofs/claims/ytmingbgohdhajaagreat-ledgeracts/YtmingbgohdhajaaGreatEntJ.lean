/- Rows of entries that are appended to. -/
import Derived.Test.YtmingbgohdhajaaGreatKnown
namespace Go.Proofs.YtmingbgohdhajaaGreat
open Go.RowKit
set_option maxRecDepth 100000

/-- A row of entries of one's own, not older than B, or nil. -/
def MineE (w : World) (B : Nat) (v : Value) (e : List Ent) : Prop := ∃ xs : List Value, w.ownsRow B 68 2 v e.length xs ∧ ∀ (i : Nat) (x : Ent), e[i]? = some x → ∃ p c, xs[i * 2]? = some (.int .i64 (x.1 : Int)) ∧ xs[i * 2 + 1]? = some (.slice p x.2.length c) ∧ x.2.length ≤ c ∧ Byt w p x.2
theorem MineE.nil (w : World) (B : Nat) : MineE w B (.slice none 0 0) [] := ⟨[], World.ownsRow_nil _ _ _ _, fun i x hx => by simp at hx⟩
theorem MineE.form {w : World} {B : Nat} {v : Value} {e : List Ent} (h : MineE w B v e) : ∃ a c, v = .slice a e.length c ∧ e.length ≤ c ∧ Ents w a e := by
  obtain ⟨xs, ⟨hl, ⟨rfl, h0⟩ | ⟨g, cap, cur, rfl, hb, hg, h1, h2, h3, h4⟩⟩, he⟩ := h
  · have : e = [] := List.eq_nil_of_length_eq_zero h0
    subst this
    exact ⟨none, 0, rfl, Nat.le_refl _, ⟨fun i x hx => by simp at hx, fun g o q => by cases q⟩⟩
  · have hB : Blk w g 68 cur.toList := by unfold Blk; rw [hg]
    refine ⟨some ⟨g, 0, none⟩, cap, rfl, h1, ⟨fun i x hx => ?_, fun g' o q => by cases q; exact ⟨_, hB⟩⟩⟩
    obtain ⟨p, c, q1, q2, q3, q4⟩ := he i x hx
    have hi := lt_of_get hx
    refine ⟨g, 0, p, c, rfl, ?_, ?_, q3, q4⟩
    · rw [Nat.zero_add, hB.cell, ← q1, ← h4, List.getElem?_take_of_lt (by omega)]
    · rw [Nat.zero_add, hB.cell, ← q2, ← h4, List.getElem?_take_of_lt (by omega)]
theorem MineE.touch {S : Nat → Prop} {w w' : World} {B : Nat} {v : Value} {e : List Ent} (h : MineE w B v e) (m : Touch S w w') (hn : ∀ k, blk v k → ¬ S k) (h5 : ∀ g cs, Blk w g 5 cs → ¬ S g) : MineE w' B v e := by
  obtain ⟨xs, ho, he⟩ := h
  refine ⟨xs, owns_touch ho m hn, fun i x hx => ?_⟩
  obtain ⟨p, c, q1, q2, q3, q4⟩ := he i x hx
  exact ⟨p, c, q1, q2, q3, q4.keep fun g cs hb => hb.touch m (h5 g cs hb)⟩
theorem MineE.old {w w' : World} {B : Nat} {v : Value} {e : List Ent} (h : MineE w B v e) (m : Old w w') : MineE w' B v e := h.touch m (fun _ _ q => q) (fun _ _ _ q => q)
theorem MineE.lt {w : World} {B : Nat} {v : Value} {e : List Ent} (h : MineE w B v e) : ∀ k, blk v k → B ≤ k ∧ k < w.heap.size := by
  obtain ⟨xs, ho, _⟩ := h
  exact fun k hk => ho.lt k hk
theorem MineE.not_blk {w : World} {B g : Nat} {v : Value} {e : List Ent} {t : TypeId} {cs : List Value} (h : MineE w B v e) (hg : Blk w g t cs) (ht : t ≠ 68) : ¬ blk v g := by
  obtain ⟨xs, ho, _⟩ := h
  exact own_blk ho hg (fun q => ht q.symm)
/-- One more entry. -/
theorem MineE.more {w : World} {B : Nat} {v : Value} {e : List Ent} (h : MineE w B v e) (hB : B ≤ w.heap.size) (k : Nat) (p : Option Addr) (bs : List Nat) (n c : Nat) (hn : bs.length = n) (hc : n ≤ c) (hb : Byt w p bs) (hl : e.length ≤ 1000000) :
    ∃ v' w', (∀ ty, (Builtin.append_ #[46, 46] ty #[v, .slice (some ⟨w.heap.size, 0, none⟩) 1 1]).run Tryz.prog (w.alloc (.cells #[.int .i64 (k : Int), .slice p n c] 68)) = .ok v' w') ∧ MineE w' B v' (e ++ [(k, bs)]) ∧ Touch (blk v) w w' := by
  have T1 : Old w (w.alloc (.cells #[.int .i64 (k : Int), .slice p n c] 68)) := (Touch.refl _ w).alloc _
  have K1 : Blk (w.alloc (.cells #[.int .i64 (k : Int), .slice p n c] 68)) w.heap.size 68 [.int .i64 (k : Int), .slice p n c] := Blk.new w 68 [.int .i64 (k : Int), .slice p n c]
  have h1 := h.old T1
  have hb1 := hb.old T1
  have hB1 : B ≤ (w.alloc (.cells #[.int .i64 (k : Int), .slice p n c] 68)).heap.size := Nat.le_trans hB T1.size
  generalize w.alloc (.cells #[.int .i64 (k : Int), .slice p n c] 68) = w1 at *
  obtain ⟨xs, ho, he⟩ := h1
  obtain ⟨i0, hi0, hz0, hz1, hz2⟩ := info_parts info68
  have hone : ∀ u ∈ [Value.int .i64 (k : Int), .slice p n c], u.oneCell' = true := by
    intro u hu
    simp at hu
    rcases hu with rfl | rfl <;> rfl
  have key : ∀ ty, ∃ v' w', (Builtin.append_ #[46, 46] ty #[v, .slice (some ⟨w.heap.size, 0, none⟩) 1 1]).run Tryz.prog w1 = .ok v' w' ∧ w'.ownsRow B 68 2 v' (e.length + 1) (xs ++ [.int .i64 (k : Int), .slice p n c]) ∧ w1.grownBy w' v.ownBlock := fun ty => by
    obtain ⟨v', w', hap, own, gr, _, _⟩ := run_append_own_at (P := Tryz.prog) w1 B 46 ty 68 i0 _ 2 32 Tryz.underlying46 hi0 hz0 hz1 hz2 rfl (by omega) v _ _ ho ⟨w.heap.size, 0, none⟩ 1 1 [.int .i64 (k : Int), .slice p n c] rfl (World.news_of_block K1) hone (by simp only [maxLen]; omega) (by omega) hB1
    exact ⟨v', w', hap, own, gr⟩
  obtain ⟨v', w', hap, own, gr⟩ := key 46
  have T2 : Touch (blk v) w1 w' := Touch.grown gr (fun k hk => hk)
  refine ⟨v', w', fun ty => hap, ⟨xs ++ [.int .i64 (k : Int), .slice p n c], by rw [List.length_append]; exact own, fun i x hx => ?_⟩, (Touch.of_old T1).trans T2⟩
  have hxl : xs.length = e.length * 2 := ho.1
  have h5 : ∀ g cs, Blk w1 g 5 cs → Blk w' g 5 cs := fun g cs hg => hg.touch T2 (own_blk ho hg (by decide))
  rcases Nat.lt_or_ge i e.length with q | q
  · rw [List.getElem?_append_left q] at hx
    obtain ⟨p', c', q1, q2, q3, q4⟩ := he i x hx
    exact ⟨p', c', by rw [List.getElem?_append_left (by omega)]; exact q1, by rw [List.getElem?_append_left (by omega)]; exact q2, q3, q4.keep h5⟩
  · rw [List.getElem?_append_right q] at hx
    have hi0 : i - e.length = 0 := by
      have := lt_of_get hx
      simp at this
      omega
    rw [hi0] at hx
    injection hx with hx
    subst hx
    have hie : i = e.length := by omega
    subst hie
    exact ⟨p, c, by rw [List.getElem?_append_right (by omega), hxl, Nat.sub_self]; rfl, by rw [List.getElem?_append_right (by omega), hxl, show e.length * 2 + 1 - e.length * 2 = 1 by omega, hn]; rfl, by rw [hn]; exact hc, hb1.keep h5⟩

/-- A drum that no ledger is on. -/
theorem open_corrupt {w0 w : World} {d : Nat} {b : Bl} {D : DS} (h : St w0 d b D w) (hd : D.down = false) (hk : coverK D = none) : Calls Tryz.prog 19 #[.pointer (some ⟨d, 0, none⟩)] w fun x w' => x = .returned (.tuple #[.pointer none, .int .i64 11]) ∧ Old w w' := by
  have HC := Lib.hid (counted_any h hd)
  have HK := Lib.hid hk
  clear h hd hk
  go_enter Tryz.func19, Tryz.ntmps19
  go_wp2_with fail
  refine HC.out.mono ?_
  rintro x w1 ⟨O1, ⟨_, rfl⟩ | ⟨k, l, g, b1, hk, _⟩⟩
  · have HO := Lib.hid O1
    clear O1 HC
    go_wp2_with fail
    go_ret2
    exact ⟨rfl, HO.out⟩
  · rw [HK.out] at hk; cases hk
end Go.Proofs.YtmingbgohdhajaaGreat
/- The contract of lariatlaw5.entries. -/
namespace Go.Proofs.YtmingbgohdhajaaGreat
open Go.RowKit
set_option maxRecDepth 100000

/-- A row of the document's entries of one's own, or nil. -/
def MineR (w : World) (B : Nat) (v : Value) (e : List Ent) : Prop := ∃ xs : List Value, w.ownsRow B 116 2 v e.length xs ∧ ∀ (i : Nat) (x : Ent), e[i]? = some x → xs[i * 2]? = some (.int .i64 (x.1 : Int)) ∧ xs[i * 2 + 1]? = some (.string (strOf x.2))
theorem MineR.nil (w : World) (B : Nat) : MineR w B (.slice none 0 0) [] := ⟨[], World.ownsRow_nil _ _ _ _, fun i x hx => by simp at hx⟩
theorem MineR.touch {S : Nat → Prop} {w w' : World} {B : Nat} {v : Value} {e : List Ent} (h : MineR w B v e) (m : Touch S w w') (hn : ∀ k, blk v k → ¬ S k) : MineR w' B v e := by
  obtain ⟨xs, ho, he⟩ := h
  exact ⟨xs, owns_touch ho m hn, he⟩
theorem MineR.old {w w' : World} {B : Nat} {v : Value} {e : List Ent} (h : MineR w B v e) (m : Old w w') : MineR w' B v e := h.touch m (fun _ _ q => q)
theorem MineR.lt {w : World} {B : Nat} {v : Value} {e : List Ent} (h : MineR w B v e) : ∀ k, blk v k → B ≤ k ∧ k < w.heap.size := by
  obtain ⟨xs, ho, _⟩ := h
  exact fun k hk => ho.lt k hk
theorem MineR.not_blk {w : World} {B g : Nat} {v : Value} {e : List Ent} {t : TypeId} {cs : List Value} (h : MineR w B v e) (hg : Blk w g t cs) (ht : t ≠ 116) : ¬ blk v g := by
  obtain ⟨xs, ho, _⟩ := h
  exact own_blk ho hg (fun q => ht q.symm)
theorem info116 : (Tryz.prog.info? 116).map (fun i => (i.zero, i.size, i.bytes)) = some (some (.agg #[.int .i64 0, .string ⟨#[]⟩]), 2, 24) := by kernel_rfl
theorem MineR.more {w : World} {B : Nat} {v : Value} {e : List Ent} (h : MineR w B v e) (hB : B ≤ w.heap.size) (k : Nat) (bs : List Nat) (hl : e.length ≤ 1000000) :
    ∃ v' w', (∀ ty, (Builtin.append_ #[47, 47] ty #[v, .slice (some ⟨w.heap.size, 0, none⟩) 1 1]).run Tryz.prog (w.alloc (.cells #[.int .i64 (k : Int), .string (strOf bs)] 116)) = .ok v' w') ∧ MineR w' B v' (e ++ [(k, bs)]) ∧ Touch (blk v) w w' := by
  have T1 : Old w (w.alloc (.cells #[.int .i64 (k : Int), .string (strOf bs)] 116)) := (Touch.refl _ w).alloc _
  have K1 : Blk (w.alloc (.cells #[.int .i64 (k : Int), .string (strOf bs)] 116)) w.heap.size 116 [.int .i64 (k : Int), .string (strOf bs)] := Blk.new w 116 [.int .i64 (k : Int), .string (strOf bs)]
  have h1 := h.old T1
  have hB1 : B ≤ (w.alloc (.cells #[.int .i64 (k : Int), .string (strOf bs)] 116)).heap.size := Nat.le_trans hB T1.size
  generalize w.alloc (.cells #[.int .i64 (k : Int), .string (strOf bs)] 116) = w1 at *
  obtain ⟨xs, ho, he⟩ := h1
  obtain ⟨i0, hi0, hz0, hz1, hz2⟩ := info_parts info116
  have hone : ∀ u ∈ [Value.int .i64 (k : Int), .string (strOf bs)], u.oneCell' = true := by
    intro u hu
    simp at hu
    rcases hu with rfl | rfl <;> rfl
  obtain ⟨v', w', hap, own, gr, _, _⟩ := run_append_own_at (P := Tryz.prog) w1 B 47 47 116 i0 _ 2 24 Tryz.underlying47 hi0 hz0 hz1 hz2 rfl (by omega) v _ _ ho ⟨w.heap.size, 0, none⟩ 1 1 [.int .i64 (k : Int), .string (strOf bs)] rfl (World.news_of_block K1) hone (by simp only [maxLen]; omega) (by omega) hB1
  have T2 : Touch (blk v) w1 w' := Touch.grown gr (fun k hk => hk)
  refine ⟨v', w', fun ty => hap, ⟨xs ++ [.int .i64 (k : Int), .string (strOf bs)], by rw [List.length_append]; exact own, fun i x hx => ?_⟩, (Touch.of_old T1).trans T2⟩
  have hxl : xs.length = e.length * 2 := ho.1
  rcases Nat.lt_or_ge i e.length with q | q
  · rw [List.getElem?_append_left q] at hx
    obtain ⟨q1, q2⟩ := he i x hx
    exact ⟨by rw [List.getElem?_append_left (by omega)]; exact q1, by rw [List.getElem?_append_left (by omega)]; exact q2⟩
  · rw [List.getElem?_append_right q] at hx
    have hi0 : i - e.length = 0 := by
      have := lt_of_get hx
      simp at this
      omega
    rw [hi0] at hx
    injection hx with hx
    subst hx
    have hie : i = e.length := by omega
    subst hie
    exact ⟨by rw [List.getElem?_append_right (by omega), hxl, Nat.sub_self]; rfl, by rw [List.getElem?_append_right (by omega), hxl, show e.length * 2 + 1 - e.length * 2 = 1 by omega]; rfl⟩

/-- Such entries as a law makes. -/
structure Made5 (e : List Ent) (home n : Nat) : Prop where
  few : e.length ≤ n
  ent : ∀ x ∈ e, x.1 ≤ home ∧ Trk x.2
theorem Made5.nil (home n : Nat) : Made5 [] home n := ⟨Nat.zero_le _, (fun _ h => by cases h)⟩
theorem Made5.more {e : List Ent} {home n : Nat} (h : Made5 e home n) {k : Nat} (hk : k ≤ home) {P : List Nat} (hP : Trk P) : Made5 (e ++ [(k, P)]) home (n + 1) :=
  ⟨by rw [List.length_append]; have := h.few; simp; omega, fun x hx => by
    rcases List.mem_append.1 hx with q | q
    · exact h.ent x q
    · obtain rfl := List.mem_singleton.1 q
      exact ⟨hk, hP⟩⟩
theorem Made5.skip {e : List Ent} {home n : Nat} (h : Made5 e home n) : Made5 e home (n + 1) := ⟨Nat.le_succ_of_le h.few, h.ent⟩

/-- How entries' rounds stand. -/
structure Ent5 (w wx : World) (home t : Nat) (a b : Value) (e : List Ent) (f : Nat → Bool) (gx gh : Nat) (cs : List Value) : Prop where
  made : Made5 e home t
  mine : MineE wx w.heap.size a e
  ref : MineR wx w.heap.size b e
  had : Blk wx gh 114 (flags f 64)
  arg : Blk wx gx 38 cs
  old : Old w wx
  hx : w.heap.size ≤ gx
  hh : w.heap.size ≤ gh

theorem Ent5.step {w wx w' : World} {home t : Nat} {a b : Value} {e : List Ent} {f : Nat → Bool} {gx gh : Nat} {cs : List Value} (h : Ent5 w wx home t a b e f gx gh cs) (m : Old wx w') : Ent5 w w' home t a b e f gx gh cs :=
  ⟨h.made, h.mine.old m, h.ref.old m, h.had.touch m (fun q => q), h.arg.touch m (fun q => q), h.old.trans m, h.hx, h.hh⟩
theorem Ent5.mark {w wx : World} {home t : Nat} {a b : Value} {e : List Ent} {f : Nat → Bool} {gx gh : Nat} {cs : List Value} (h : Ent5 w wx home t a b e f gx gh cs) {k : Nat} (hk : k < 64) : ∃ f', Ent5 w (wx.setCell ⟨gh, k, none⟩ (.bool true)) home t a b e f' gx gh cs := by
  have T := Touch.one (w := wx) ⟨gh, k, none⟩ (.bool true)
  have hg : Blk (wx.setCell ⟨gh, k, none⟩ (.bool true)) gh 114 (flags (fun i => f i || i == k) 64) := by
    have := h.had.set k (.bool true)
    rwa [flags_set hk (g := fun i => f i || i == k) (fun i _ => rfl)] at this
  exact ⟨_, h.made, h.mine.touch T (fun q hq e => h.mine.not_blk h.had (by decide) (by rw [← show q = gh from e]; exact hq)) (fun q ds hq e => hq.ne h.had (by decide) e), h.ref.touch T (fun q hq e => h.ref.not_blk h.had (by decide) (by rw [← show q = gh from e]; exact hq)), hg, h.arg.touch T (h.arg.ne h.had (by decide)), h.old.setCell (.inr h.hh) _, h.hx, h.hh⟩

theorem MineE.typed {w : World} {B : Nat} {v : Value} {e : List Ent} (h : MineE w B v e) : ∀ k, blk v k → ∃ cs, Blk w k 68 cs := by
  obtain ⟨xs, ⟨_, ⟨rfl, _⟩ | ⟨g, cap, cur, rfl, _, hg, _⟩⟩, _⟩ := h
  · intro k hk; cases hk
  · intro k hk
    have e1 : g = k := by injection hk
    subst e1
    exact ⟨cur.toList, by unfold Blk; rw [hg]⟩
theorem MineR.typed {w : World} {B : Nat} {v : Value} {e : List Ent} (h : MineR w B v e) : ∀ k, blk v k → ∃ cs, Blk w k 116 cs := by
  obtain ⟨xs, ⟨_, ⟨rfl, _⟩ | ⟨g, cap, cur, rfl, _, hg, _⟩⟩, _⟩ := h
  · intro k hk; cases hk
  · intro k hk
    have e1 : g = k := by injection hk
    subst e1
    exact ⟨cur.toList, by unfold Blk; rw [hg]⟩
theorem old_mine {w wx w' : World} {v : Value} (o : Old w wx) (hv : ∀ k, blk v k → w.heap.size ≤ k) (T : Touch (blk v) wx w') : Old w w' :=
  ⟨T.os.trans o.os, T.tape.trans o.tape, T.output.trans o.output, Nat.le_trans o.size T.size, fun k hk hn => (T.block k (Nat.lt_of_lt_of_le hk o.size) (fun q => by have := hv k q; omega)).trans (o.block k hk hn)⟩
/-- One more of the program's entries. -/
theorem Ent5.more1 {w wx : World} {home t : Nat} {a b : Value} {e : List Ent} {f : Nat → Bool} {gx gh : Nat} {cs : List Value} (h : Ent5 w wx home t a b e f gx gh cs) (ht : t ≤ 1000) (k : Nat) (p : Addr) (P : List Nat) (hP : Trk P) (hB : Byt wx (some p) P) :
    ∃ va w', (∀ ty, (Builtin.append_ #[46, 46] ty #[a, .slice (some ⟨wx.heap.size, 0, none⟩) 1 1]).run Tryz.prog (wx.alloc (.cells #[.int .i64 (k : Int), .slice (some p) 96 96] 68)) = .ok va w') ∧ Byt w' (some p) P ∧ MineE w' w.heap.size va (e ++ [(k, P)]) ∧ MineR w' w.heap.size b e ∧ Blk w' gh 114 (flags f 64) ∧ Blk w' gx 38 cs ∧ Old w w' := by
  obtain ⟨va, w', hap, M, T⟩ := h.mine.more h.old.size k (some p) P 96 96 hP.len (Nat.le_refl _) hB (by have := h.made.few; omega)
  refine ⟨va, w', hap, ?_, M, ?_, h.had.touch T (h.mine.not_blk h.had (by decide)), h.arg.touch T (h.mine.not_blk h.arg (by decide)), old_mine h.old (fun k hk => (h.mine.lt k hk).1) T⟩
  · exact hB.keep fun g ds hg => hg.touch T (h.mine.not_blk hg (by decide))
  · exact h.ref.touch T (fun q hq hb => by
      obtain ⟨ds, hd⟩ := h.mine.typed q hb
      exact h.ref.not_blk hd (by decide) hq)
/-- One more of the document's. -/
theorem ent5_more2 {w wx : World} {home t : Nat} {va b : Value} {e : List Ent} {f : Nat → Bool} {gx gh : Nat} {cs : List Value} {k : Nat} {P : List Nat} (hm : Made5 e home t) (ht : t ≤ 1000) (hk : k ≤ home) (hP : Trk P) (h1 : MineE wx w.heap.size va (e ++ [(k, P)])) (h2 : MineR wx w.heap.size b e) (h3 : Blk wx gh 114 (flags f 64)) (h4 : Blk wx gx 38 cs) (h5 : Old w wx) (hx : w.heap.size ≤ gx) (hh : w.heap.size ≤ gh) :
    ∃ vb w', (∀ ty, (Builtin.append_ #[47, 47] ty #[b, .slice (some ⟨wx.heap.size, 0, none⟩) 1 1]).run Tryz.prog (wx.alloc (.cells #[.int .i64 (k : Int), .string (strOf P)] 116)) = .ok vb w') ∧ Ent5 w w' home (t + 1) va vb (e ++ [(k, P)]) f gx gh cs := by
  obtain ⟨vb, w', hap, M, T⟩ := h2.more h5.size k P (by have := hm.few; omega)
  refine ⟨vb, w', hap, ⟨hm.more hk hP, ?_, M, h3.touch T (h2.not_blk h3 (by decide)), h4.touch T (h2.not_blk h4 (by decide)), old_mine h5 (fun k hk => (h2.lt k hk).1) T, hx, hh⟩⟩
  exact h1.touch T (fun q hq hb => by
    obtain ⟨ds, hd⟩ := h2.typed q hb
    exact h1.not_blk hd (by decide) hq) (fun g ds hg hb => h2.not_blk hg (by decide) hb)

theorem page_ex (c : Int) (w : World) : Calls Tryz.prog 37 #[.int .i64 c] w fun x w' => ∃ P, x = .returned (.slice (some ⟨w.heap.size, 0, none⟩) 96 96) ∧ Trk P ∧ Byt w' (some ⟨w.heap.size, 0, none⟩) P ∧ Old w w' :=
  (page_any c w).mono fun _ _ ⟨hx, K, O⟩ => ⟨pageOf c, hx, pageOf_trk c, K.byt (pageOf_trk c), O⟩
end Go.Proofs.YtmingbgohdhajaaGreat
/- The walk of lariatlaw5.LedgerLeaves. -/
namespace Go.Proofs.YtmingbgohdhajaaGreat
open Go.RowKit
set_option maxRecDepth 100000

theorem pick_big (n m : Int) (hm0 : 0 < m) (hm1 : m ≤ 5000) (w : World) : Calls Tryz.prog 5 #[.int .i64 n, .int .i64 m] w fun e w' => ∃ k : Nat, (k : Int) < m ∧ e = .returned (.int .i64 k) ∧ w = w' := by
  have h1 : n.tmod m < m := Int.tmod_lt_of_pos n hm0
  have h2 : -m < n.tmod m := by
    have := Int.tmod_lt_of_pos (-n) hm0
    rw [Int.neg_tmod] at this
    omega
  have hz : ¬ m = 0 := by omega
  by_cases hneg : n.tmod m < 0
  · go_enter Tryz.func5, Tryz.ntmps5
    go_wp2
    go_ret
    exact ⟨(n.tmod m + m).toNat, by omega, by rw [Int.toNat_of_nonneg (by omega)]; rfl, rfl⟩
  · go_enter Tryz.func5, Tryz.ntmps5
    go_wp2
    go_ret
    exact ⟨(n.tmod m).toNat, by omega, by rw [Int.toNat_of_nonneg (by omega)]; rfl, rfl⟩

theorem leavesOf_mono {n m : Nat} (h : n ≤ m) : leavesOf n ≤ leavesOf m := by
  unfold leavesOf
  split
  · exact Nat.zero_le _
  · rw [if_neg (by omega)]; omega

end Go.Proofs.YtmingbgohdhajaaGreat
