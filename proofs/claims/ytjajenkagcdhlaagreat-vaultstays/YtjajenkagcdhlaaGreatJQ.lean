/- For lariatlaw6.VaultStays: the list of what may be opened; what each call leaves. -/
import Derived.Test.YtjajenkagcdhlaaGreatJM
import Derived.Maps.AppendAt
import Derived.Laws.OwnMore
namespace Go.Proofs.YtjajenkagcdhlaaGreat
open Go.RowKit
set_option maxRecDepth 100000

/-- A home on which these records lie. -/
def Good (h : Nat) (r : Recs) (X : Hom) : Prop := ∃ a, Vld r a h ∧ Holds X (layM r a)
abbrev May := List (Nat × Recs)
def Cov (h : Nat) (P : Hom → Prop) (ms : May) : Prop := ∀ X, P X → ∃ e ∈ ms, Good h e.2 X
def mvals (ms : May) : List Value := ms.map fun e => Value.map (some e.1)
/-- A row of maps of one's own. -/
def MineM (w : World) (B : Nat) (v : Value) (ms : May) : Prop := w.ownsRow B 29 1 v ms.length (mvals ms)
theorem info29 : (Tryz.prog.info? 29).map (fun i => (i.zero, i.size, i.bytes)) = some (some (.map none), 1, 8) := by kernel_rfl
theorem MineM.one {w : World} {B : Nat} (hB : B ≤ w.heap.size) (e : Nat × Recs) : MineM (w.alloc (.cells #[.map (some e.1)] 29)) B (.slice (some ⟨w.heap.size, 0, none⟩) 1 1) [e] :=
  World.ownsRow_lit w #[.map (some e.1)] 1 hB (by decide) rfl
theorem MineM.cell {w : World} {B : Nat} {v : Value} {ms : May} (h : MineM w B v ms) : ∃ a c, v = .slice a ms.length c ∧ ∀ (i : Nat) e, ms[i]? = some e → ∃ b off, a = some ⟨b, off, none⟩ ∧ w.cell? ⟨b, off + i, none⟩ = some (.map (some e.1)) := by
  obtain ⟨hl, ⟨rfl, h0⟩ | ⟨g, cap, cur, rfl, hb, hg, h1, h2, h3, h4⟩⟩ := h
  · obtain rfl : ms = [] := List.eq_nil_of_length_eq_zero h0
    exact ⟨none, 0, rfl, fun i e hi => by cases hi⟩
  · have hB : Blk w g 29 cur.toList := by unfold Blk; rw [hg]
    refine ⟨some ⟨g, 0, none⟩, cap, rfl, fun i e hi => ⟨g, 0, rfl, ?_⟩⟩
    have hlt := lt_of_get hi
    have : cur.toList[i]? = (mvals ms)[i]? := by rw [← h4, List.getElem?_take_of_lt (by omega)]
    rw [Nat.zero_add, hB.cell, this]
    unfold mvals
    rw [List.getElem?_map, hi]
    rfl
theorem MineM.lt {w : World} {B : Nat} {v : Value} {ms : May} (h : MineM w B v ms) : ∀ k, blk v k → B ≤ k ∧ k < w.heap.size := fun k hk => World.ownsRow.lt h k hk
theorem MineM.keep {w w' : World} {B : Nat} {v : Value} {ms : May} (h : MineM w B v ms) (m : ∀ g cs, Blk w g 29 cs → Blk w' g 29 cs) : MineM w' B v ms := by
  refine ⟨h.1, ?_⟩
  rcases h.2 with h0 | ⟨g, cap, cur, rfl, hb, hg, h1, h2, h3, h4⟩
  · exact .inl h0
  · exact .inr ⟨g, cap, cur, rfl, hb, m g cur.toList hg, h1, h2, h3, h4⟩
theorem MineM.more {w : World} {B : Nat} {v : Value} {ms : May} (h : MineM w B v ms) (hB : B ≤ w.heap.size) (e : Nat × Recs) (hl : ms.length ≤ 1000000) :
    ∃ v' w', (∀ ty, (Builtin.append_ #[47, 47] ty #[v, .slice (some ⟨w.heap.size, 0, none⟩) 1 1]).run Tryz.prog (w.alloc (.cells #[.map (some e.1)] 29)) = .ok v' w') ∧ MineM w' B v' (ms ++ [e]) ∧ Touch (blk v) w w' := by
  have T1 : Old w (w.alloc (.cells #[.map (some e.1)] 29)) := (Touch.refl _ w).alloc _
  have K1 : Blk (w.alloc (.cells #[.map (some e.1)] 29)) w.heap.size 29 [.map (some e.1)] := Blk.new w 29 [.map (some e.1)]
  have h1 : MineM _ B v ms := h.keep fun g cs hb => hb.touch T1 (fun q => q)
  have hB1 : B ≤ (w.alloc (.cells #[.map (some e.1)] 29)).heap.size := Nat.le_trans hB T1.size
  generalize w.alloc (.cells #[.map (some e.1)] 29) = w1 at *
  obtain ⟨i0, hi0, hz0, hz1, hz2⟩ := info_parts info29
  have hone : ∀ u ∈ [Value.map (some e.1)], u.oneCell' = true := by
    intro u hu
    obtain rfl := List.mem_singleton.1 hu
    rfl
  have key : ∀ ty, ∃ v' w', (Builtin.append_ #[47, 47] ty #[v, .slice (some ⟨w.heap.size, 0, none⟩) 1 1]).run Tryz.prog w1 = .ok v' w' ∧ w'.ownsRow B 29 1 v' (ms.length + 1) (mvals ms ++ [.map (some e.1)]) ∧ w1.grownBy w' v.ownBlock := fun ty => by
    obtain ⟨v', w', hap, own, gr, _, _⟩ := run_append_own_at (P := Tryz.prog) w1 B 47 ty 29 i0 _ 1 8 Tryz.underlying47 hi0 hz0 hz1 hz2 rfl (by omega) v _ _ h1 ⟨w.heap.size, 0, none⟩ 1 1 [.map (some e.1)] rfl (World.news_of_block K1) hone (by simp only [maxLen]; omega) (by omega) hB1
    exact ⟨v', w', hap, own, gr⟩
  obtain ⟨v', w', hap, own, gr⟩ := key 47
  refine ⟨v', w', fun ty => hap, ?_, (Touch.of_old T1).trans (Touch.grown gr (fun k hk => hk))⟩
  unfold MineM
  rw [List.length_append, show mvals (ms ++ [e]) = mvals ms ++ [.map (some e.1)] by simp [mvals]]
  exact own

/-- What is kept of the law's own things; one map may turn. -/
structure Kp (np : Nat) (w w' : World) : Prop where
  blk : ∀ t g cs, (t = 29 ∨ t = 33) → Blk w g t cs → Blk w' g t cs
  map : ∀ (g : Nat) es clock, g ≠ np → w.heap[g]? = some (Obj.map es clock) → w'.heap[g]? = some (Obj.map es clock)
theorem Kp.trans {np : Nat} {a b c : World} (h : Kp np a b) (k : Kp np b c) : Kp np a c := ⟨fun t g cs ht hb => k.blk t g cs ht (h.blk t g cs ht hb), fun g es cl hn hg => k.map g es cl hn (h.map g es cl hn hg)⟩
theorem Kp.of_keptV {np : Nat} {w w' : World} (h : KeptV w w') : Kp np w w' := ⟨fun t g cs ht hb => h.blk t g cs (by rcases ht with rfl | rfl <;> (unfold otherL other; decide)) (by rcases ht with rfl | rfl <;> decide) hb, fun g es cl _ hg => h.map g es cl hg⟩
theorem Kp.of_old {np : Nat} {w w' : World} (h : Old w w') : Kp np w w' := .of_keptV (KeptV.of_old h)
theorem Kp.of_put {np : Nat} {w w' w0 : World} {vp lp d x l h t : Nat} {q : Bool} {P : Hom → Prop} {N : Hom} {rs rk : Recs} {a : Places} (v : Vt w0 vp lp d x l h t q P N rs rk a w) (T : Touch (fun i => i = vp ∨ i = x) w w') : Kp np w w' := by
  obtain ⟨vs, hb⟩ := v.mem.blk
  exact .of_keptV (KeptV.of_touch T hb v.sail.bq)
theorem Kp.of_map {np : Nat} {w w' : World} (T : MapTurn np w w') : Kp np w w' := ⟨fun _ _ _ _ hb => T.blk hb, fun g _ _ hn hg => (T.t.block g (Array.getElem?_eq_some_iff.1 hg).1 hn).trans hg⟩
theorem VMap.kp {np m : Nat} {rs : Recs} {w w' : World} (h : VMap m rs w) (k : Kp np w w') (hn : m ≠ np) : VMap m rs w' := h.keep fun es cl hb => k.map m es cl hn hb

/-- The list of what may be opened. -/
structure MayAt (w0 : World) (mv : Value) (ms : May) (np : Nat) (w : World) : Prop where
  row : MineM w w0.heap.size mv ms
  all : ∀ e ∈ ms, VMap e.1 e.2 w ∧ w0.heap.size ≤ e.1 ∧ e.1 ≠ np ∧ RsOk e.2
  few : ms.length ≤ 100
theorem MayAt.kp {w0 w w' : World} {mv : Value} {ms : May} {np : Nat} (h : MayAt w0 mv ms np w) (k : Kp np w w') : MayAt w0 mv ms np w' :=
  ⟨h.row.keep fun g cs hb => k.blk _ g cs (.inl rfl) hb, fun e he => ⟨(h.all e he).1.kp k (h.all e he).2.2.1, (h.all e he).2⟩, h.few⟩
/-- Another map is what is now. -/
theorem MayAt.new {w0 w w' : World} {mv : Value} {ms : May} {np np' : Nat} (h : MayAt w0 mv ms np w) (k : Kp np w w') (hn : w.heap.size ≤ np') : MayAt w0 mv ms np' w' :=
  ⟨(h.kp k).row, fun e he => ⟨((h.kp k).all e he).1, (h.all e he).2.1, by have := (h.all e he).1.lt; omega, (h.all e he).2.2.2⟩, h.few⟩
theorem MayAt.one {w0 w : World} {e : Nat × Recs} {np : Nat} (hB : w0.heap.size ≤ w.heap.size) (h1 : VMap e.1 e.2 w) (h2 : w0.heap.size ≤ e.1) (h3 : e.1 ≠ np) (h4 : RsOk e.2) : MayAt w0 (.slice (some ⟨w.heap.size, 0, none⟩) 1 1) [e] np (w.alloc (.cells #[.map (some e.1)] 29)) :=
  ⟨MineM.one hB e, fun x hx => by
    rw [List.mem_singleton] at hx
    subst hx
    exact ⟨h1.old ((Touch.refl _ w).alloc _), h2, h3, h4⟩, by show 1 ≤ 100; decide⟩
theorem MayAt.more {w0 w : World} {mv : Value} {ms : May} {np : Nat} {e : Nat × Recs} (h : MayAt w0 mv ms np w) (hf : ms.length ≤ 90) (hB : w0.heap.size ≤ w.heap.size) (h1 : VMap e.1 e.2 w) (h2 : w0.heap.size ≤ e.1) (h3 : e.1 ≠ np) (h4 : RsOk e.2) :
    ∃ v' w', (∀ ty, (Builtin.append_ #[47, 47] ty #[mv, .slice (some ⟨w.heap.size, 0, none⟩) 1 1]).run Tryz.prog (w.alloc (.cells #[.map (some e.1)] 29)) = .ok v' w') ∧ MayAt w0 v' (ms ++ [e]) np w' ∧ Touch (blk mv) w w' := by
  obtain ⟨v', w', hap, M, T⟩ := h.row.more hB e (by have := h.few; omega)
  have hT : ∀ m rs, VMap m rs w → VMap m rs w' := fun m rs hm => hm.touch T fun hb => by
    obtain ⟨hl, ⟨rfl, _⟩ | ⟨g, cap, cur, rfl, hbb, hg, _⟩⟩ := h.row
    · cases hb
    · have e : g = m := by simpa [blk, Value.ownBlock] using hb
      subst e
      obtain ⟨es, cl, h1⟩ := hm.isMap
      rw [hg] at h1
      cases h1
  refine ⟨v', w', hap, ⟨M, fun x hx => ?_, by rw [List.length_append]; show _ + 1 ≤ 100; omega⟩, T⟩
  rcases List.mem_append.1 hx with hx | hx
  · exact ⟨hT _ _ (h.all x hx).1, (h.all x hx).2⟩
  · rw [List.mem_singleton] at hx
    subst hx
    exact ⟨hT _ _ h1, h2, h3, h4⟩
end Go.Proofs.YtjajenkagcdhlaaGreat
/- For lariatlaw6.VaultStays: what the law has of its vault, and what each call leaves. -/
namespace Go.Proofs.YtjajenkagcdhlaaGreat
open Go.RowKit
set_option maxRecDepth 100000

/-- Only a row of maps is turned. -/
structure RowTurn (g : Nat) (w w' : World) : Prop where
  is : ∃ cs, Blk w g 29 cs
  t : Touch (fun k => k = g) w w'
section
variable {w w' : World} {m : Nat}
theorem RowTurn.blk (T : RowTurn m w w') {g : Nat} {t : TypeId} {cs : List Value} (h : Blk w g t cs) (ht : t ≠ 29) : Blk w' g t cs := h.touch T.t fun e => by
  obtain ⟨ds, h1⟩ := T.is
  exact h.ne h1 ht e
theorem RowTurn.map {n : Nat} {rs : Recs} (T : RowTurn m w w') (h : VMap n rs w) : VMap n rs w' := h.touch T.t fun e => by
  obtain ⟨ds, h1⟩ := T.is
  exact h.ne h1 e.symm
theorem St.row {w0 : Fr} {d : Nat} {b : Bl} {D : DS} (h : St w0 d b D w) (T : RowTurn m w w') (hn : w0.w.heap.size ≤ m) : St w0 d b D w' := by
  obtain ⟨ds, h1⟩ := T.is
  exact h.touch h1 (by unfold other; decide) hn T.t
theorem LAt.row {w0 : Fr} {lp d g : Nat} {b : Bl} {L : LS} (h : LAt w0 lp d b g L w) (T : RowTurn m w w') (hn : w0.w.heap.size ≤ m) : LAt w0 lp d b g L w' :=
  ⟨h.st.row T hn, T.blk h.head (by decide), h.wri.keep (fun _ _ hb => T.blk hb (by decide)) (fun _ hb => T.blk hb (by decide)), h.nl, h.ng⟩
theorem Sail.row {w0 : Fr} {lp d l h t : Nat} {q : Bool} {P : Hom → Prop} {N : Hom} (A : Sail w0 lp d l h t q P N w) (T : RowTurn m w w') (hn : w0.w.heap.size ≤ m) : Sail w0 lp d l h t q P N w' := by
  obtain ⟨g, b, L, r, H, fs, gs, h1, h2⟩ := A
  exact ⟨g, b, L, r, H, fs, gs, h1.row T hn, h2⟩
theorem Sunk.row {w0 : Fr} {d l h t : Nat} {P : Hom → Prop} (A : Sunk w0 d l h t P w) (T : RowTurn m w w') (hn : w0.w.heap.size ≤ m) : Sunk w0 d l h t P w' := by
  obtain ⟨b, D, h1, h2⟩ := A
  exact ⟨b, D, h1.row T hn, h2⟩
theorem VM.kept3 {vp lp x h : Nat} {rs rk : Recs} {a : Places} (m : VM w vp lp x h rs rk a) (k : ∀ t g cs, t ≠ 29 → Blk w g t cs → Blk w' g t cs) : VM w' vp lp x h rs rk a := by
  obtain ⟨⟨vn, vk, va, h1, h2, h3, h4⟩, h5, h6, h7, h8, h9⟩ := m
  exact ⟨⟨vn, vk, va, k _ _ _ (by decide) h1, h2.keep fun g cs hb => k _ _ _ (by decide) hb, h3.keep fun g cs hb => k _ _ _ (by decide) hb, h4.keep fun g cs hb => k _ _ _ (by decide) hb⟩, k _ _ _ (by decide) h5, h6, h7, h8, h9⟩
theorem Vt.row {w0 : World} {vp lp d x l h t : Nat} {q : Bool} {P : Hom → Prop} {N : Hom} {rs rk : Recs} {a : Places} (v : Vt w0 vp lp d x l h t q P N rs rk a w) (T : RowTurn m w w') (hn : w0.heap.size ≤ m) : Vt w0 vp lp d x l h t q P N rs rk a w' :=
  ⟨v.sail.row T hn, v.mem.kept3 (fun _ _ _ ht hb => T.blk hb ht), v.holds, v.nv, v.nx, v.hh, v.hl⟩
end
/-- The act's own block stays. -/
def Bx (w w' : World) : Prop := ∀ g cs, Blk w g 33 cs → Blk w' g 33 cs
theorem Bx.trans {a b c : World} (h : Bx a b) (k : Bx b c) : Bx a c := fun g cs hb => k g cs (h g cs hb)
theorem Bx.of_old {w w' : World} (o : Old w w') : Bx w w' := fun _ _ hb => hb.touch o (fun q => q)
theorem Kp.bx {np : Nat} {w w' : World} (k : Kp np w w') : Bx w w' := fun g cs hb => k.blk _ g cs (.inr rfl) hb
theorem RowTurn.bx {g : Nat} {w w' : World} (T : RowTurn g w w') : Bx w w' := fun _ _ hb => T.blk hb (by decide)

/-- The vault sails. -/
structure StA (w0 : World) (d k n vp np kp : Nat) (mv : Value) (lp x t : Nat) (q : Bool) (P : Hom → Prop) (N : Hom) (a : Places) (rs rk : Recs) (ms : May) (w : World) : Prop where
  le : t ≤ k
  v : Vt w0 vp lp d x 30 58 t q P N rs rk a w
  mn : VMap np rs w
  mq : VMap kp rk w
  hn : w0.heap.size ≤ np
  hk : w0.heap.size ≤ kp
  ne : np ≠ kp
  may : MayAt w0 mv ms np w
  cov : Cov 58 P ms
  len : ms.length ≤ n
def Sta (w0 : World) (d k n vp np kp : Nat) (mv : Value) (w : World) : Prop := ∃ lp x t q P N a rs rk ms, StA w0 d k n vp np kp mv lp x t q P N a rs rk ms w
/-- The drum fell, or may fall. -/
def Wrk (w0 : World) (d k n : Nat) (mv : Value) (w : World) : Prop := ∃ t P ms np, t ≤ k ∧ Wreck ⟨w0, []⟩ d 30 58 t P w ∧ MayAt w0 mv ms np w ∧ Cov 58 P ms ∧ ms.length ≤ n
/-- It broke. -/
def Skt (w0 : World) (d k n : Nat) (mv : Value) (w : World) : Prop := ∃ t P ms np, t ≤ k ∧ Sunk ⟨w0, []⟩ d 30 58 t P w ∧ MayAt w0 mv ms np w ∧ Cov 58 P ms ∧ ms.length ≤ n
section
variable {w0 w w' : World} {d k n vp np kp lp x t : Nat} {mv : Value} {q : Bool} {P : Hom → Prop} {N : Hom} {a : Places} {rs rk : Recs} {ms : May}
theorem Sta.mono {k' n' : Nat} (S : Sta w0 d k n vp np kp mv w) (hk : k ≤ k') (hn : n ≤ n') : Sta w0 d k' n' vp np kp mv w := by
  obtain ⟨lp, x, t, q, P, N, a, rs, rk, ms, S⟩ := S
  exact ⟨lp, x, t, q, P, N, a, rs, rk, ms, Nat.le_trans S.le hk, S.v, S.mn, S.mq, S.hn, S.hk, S.ne, S.may, S.cov, Nat.le_trans S.len hn⟩
theorem Skt.mono {k' n' : Nat} (S : Skt w0 d k n mv w) (hk : k ≤ k') (hn : n ≤ n') : Skt w0 d k' n' mv w := by
  obtain ⟨t, P, ms, np, h1, h2, h3, h4, h5⟩ := S
  exact ⟨t, P, ms, np, Nat.le_trans h1 hk, h2, h3, h4, Nat.le_trans h5 hn⟩
theorem Sta.old (S : Sta w0 d k n vp np kp mv w) (o : Old w w') : Sta w0 d k n vp np kp mv w' := by
  obtain ⟨lp, x, t, q, P, N, a, rs, rk, ms, S⟩ := S
  exact ⟨lp, x, t, q, P, N, a, rs, rk, ms, S.le, S.v.old o, S.mn.old o, S.mq.old o, S.hn, S.hk, S.ne, S.may.kp (.of_old o), S.cov, S.len⟩
theorem Sta.old0 (S : Sta w0 d k n vp np kp mv w) : Old w0 w := by
  obtain ⟨lp, x, t, q, P, N, a, rs, rk, ms, S⟩ := S
  exact S.v.sail.old0
theorem Wrk.old0 (S : Wrk w0 d k n mv w) : Old w0 w := by
  obtain ⟨t, P, ms, np, h1, h2, h3⟩ := S
  exact h2.old0
theorem Sta.wrk (S : Sta w0 d k n vp np kp mv w) : Wrk w0 d k n mv w := by
  obtain ⟨lp, x, t, q, P, N, a, rs, rk, ms, S⟩ := S
  exact ⟨t, P, ms, np, S.le, S.v.sail.bare.wreck, S.may, S.cov, S.len⟩
theorem Skt.wrk (S : Skt w0 d k n mv w) : Wrk w0 d k n mv w := by
  obtain ⟨t, P, ms, np, h1, h2, h3⟩ := S
  exact ⟨t, P, ms, np, h1, h2.wreck, h3⟩
theorem Sta.broken (S : Sta w0 d k n vp np kp mv w) : Calls Tryz.prog 25 #[.pointer (some ⟨d, 0, none⟩)] w fun y w' => y = .returned (.bool false) ∧ w = w' := by
  obtain ⟨lp, x, t, q, P, N, a, rs, rk, ms, S⟩ := S
  exact sail_broken S.v.sail
theorem Skt.broken (S : Skt w0 d k n mv w) : Calls Tryz.prog 25 #[.pointer (some ⟨d, 0, none⟩)] w fun y w' => y = .returned (.bool true) ∧ w = w' := by
  obtain ⟨t, P, ms, np, h1, h2, h3⟩ := S
  exact sunk_broken h2
/-- Another map of the same, as what is now. -/
theorem StA.now {w1 : World} (S : StA w0 d k n vp np kp mv lp x t q P N a rs rk ms w) (o : Old w w1) {mo : Nat} (M : VMap mo rs w1) (hmo : w.heap.size ≤ mo) : StA w0 d k n vp mo kp mv lp x t q P N a rs rk ms w1 := by
  have h0 : w0.heap.size ≤ w.heap.size := S.v.sail.old0.size
  have h1 := S.mq.lt
  exact ⟨S.le, S.v.old o, M, S.mq.old o, by omega, S.hk, by omega, S.may.new (.of_old o) hmo, S.cov, S.len⟩
/-- Drop, and what is deleted behind it. -/
theorem Sta.drop (S : Sta w0 d k n vp np kp mv w) (id : Nat) (h1 : 1 ≤ id) (h40 : id ≤ 40) : Calls Tryz.prog 12 #[.pointer (some ⟨vp, 0, none⟩), .int .i64 (id : Int)] w fun y w' => ∃ c : Bool, y = .returned (.bool c) ∧
    ∃ w2, (∀ ty, (Builtin.delete_ #[29, 3] ty #[.map (some np), .int .i64 (id : Int)]).run Tryz.prog w' = .ok (.tuple #[]) w2) ∧ Sta w0 d k n vp np kp mv w2 ∧ Bx w w2 := by
  obtain ⟨lp, x, t, q, P, N, a, rs, rk, ms, S⟩ := S
  obtain ⟨r, hr⟩ := get_of_lt (l := rs) (n := id) (by rw [S.v.mem.rok.r41]; omega)
  refine (S.v.drop id h1 h40 r hr).mono ?_
  rintro y w' ⟨rfl, V', T⟩
  have M' := S.mn.put_ S.v T
  have K' := S.mq.put_ S.v T
  have kp1 : Kp np w w' := .of_put S.v T
  obtain ⟨w2, hrun, M2, T2⟩ := M'.drop (k := id) (by omega) 0
  have tr := M'.turn T2
  exact ⟨_, rfl, w2, fun _ => hrun, ⟨lp, x, t, q, P, N, a, _, rk, ms, S.le, V'.map tr S.hn, M2, K'.aside tr S.ne.symm, S.hn, S.hk, S.ne, S.may.kp (kp1.trans (.of_map tr)), S.cov, S.len⟩, (kp1.trans (.of_map tr)).bx⟩
/-- Put; the map of what is now is still to be stored into. -/
def StP (w0 : World) (d k n vp np kp : Nat) (mv : Value) (id : Nat) (B : List Nat) (w : World) : Prop := ∃ lp x t q P N a rs rk ms, t ≤ k ∧ Vt w0 vp lp d x 30 58 t q P N (rs.set id (some B)) rk a w ∧ VMap np rs w ∧ VMap kp rk w ∧ w0.heap.size ≤ np ∧ w0.heap.size ≤ kp ∧ np ≠ kp ∧ MayAt w0 mv ms np w ∧ Cov 58 P ms ∧ ms.length ≤ n
theorem Sta.put (S : Sta w0 d k n vp np kp mv w) (id : Nat) (h1 : 1 ≤ id) (h40 : id ≤ 40) (p : Option Addr) (B : List Nat) (l c : Nat) (hB : Has w p B) (hl : B.length = l) (hm : l ≤ 500) : Calls Tryz.prog 21 #[.pointer (some ⟨vp, 0, none⟩), .int .i64 (id : Int), .slice p l c] w fun y w' => Bx w w' ∧ Old w0 w' ∧
    ((y = .returned (.int .i64 3) ∧ Sta w0 d k n vp np kp mv w') ∨ (y = .returned (.int .i64 0) ∧ StP w0 d k n vp np kp mv id B w')) := by
  obtain ⟨lp, x, t, q, P, N, a, rs, rk, ms, S⟩ := S
  refine (S.v.put id h1 h40 p B l c hB hl (by omega)).mono ?_
  rintro y w' ⟨T, hor⟩
  have M' := S.mn.put_ S.v T
  have K' := S.mq.put_ S.v T
  have kp1 : Kp np w w' := .of_put S.v T
  refine ⟨kp1.bx, old_put S.v S.v.sail.old0 T, ?_⟩
  rcases hor with ⟨rfl, _, V'⟩ | ⟨rfl, _, V'⟩
  · exact .inl ⟨rfl, lp, x, t, q, P, N, a, rs, rk, ms, S.le, V', M', K', S.hn, S.hk, S.ne, S.may.kp kp1, S.cov, S.len⟩
  · exact .inr ⟨rfl, lp, x, t, q, P, N, a, rs, rk, ms, S.le, V', M', K', S.hn, S.hk, S.ne, S.may.kp kp1, S.cov, S.len⟩
theorem StP.upd {id : Nat} {B : List Nat} (S : StP w0 d k n vp np kp mv id B w) (o : Old w w') (h40 : id ≤ 40) (hm : B.length ≤ 500) : ∃ w2, (Instr.mapUpdate 29 (.map (some np)) (.int .i64 (id : Int)) (.string (strOf B))).run Tryz.prog w' = .ok () w2 ∧ Sta w0 d k n vp np kp mv w2 ∧ Bx w w2 := by
  obtain ⟨lp, x, t, q, P, N, a, rs, rk, ms, h1, h2, h3, h4, h5, h6, h7, h8, h9, h10⟩ := S
  obtain ⟨w2, hput, M2, T2⟩ := (h3.old o).put (k := id) (by omega) (b := B) (by omega)
  have tr := (h3.old o).turn T2
  have kp1 : Kp np w' w2 := .of_map tr
  have kp0 : Kp np w w' := .of_old o
  exact ⟨w2, hput, ⟨lp, x, t, q, P, N, a, _, rk, ms, h1, (h2.old o).map tr h5, M2, (h4.old o).aside tr h7.symm, h5, h6, h7, h8.kp (kp0.trans kp1), h9, h10⟩, (kp0.trans kp1).bx⟩
theorem Sta.undo (S : Sta w0 d k n vp np kp mv w) : Calls Tryz.prog 15 #[.pointer (some ⟨vp, 0, none⟩)] w fun y w' => y = .returned (.tuple #[]) ∧ Bx w w' ∧ Calls Tryz.prog 14 #[.map (some kp)] w' fun y w2 => ∃ mo, y = .returned (.map (some mo)) ∧ Sta w0 d k n vp mo kp mv w2 ∧ Bx w' w2 := by
  obtain ⟨lp, x, t, q, P, N, a, rs, rk, ms, S⟩ := S
  refine S.v.undo.mono ?_
  rintro y w' ⟨rfl, x', V', T⟩
  have T' : Touch (fun i => i = vp ∨ i = x) w w' := T.mono fun _ _ q => .inl q
  have K' := S.mq.put_ S.v T'
  have kp1 : Kp np w w' := .of_put S.v T'
  have h0 : w0.heap.size ≤ w'.heap.size := V'.sail.old0.size
  refine ⟨rfl, kp1.bx, (copied_any w' K' V'.mem.rok).mono ?_⟩
  rintro y w2 ⟨mo, rfl, hmo, M2, o⟩
  have hl := K'.lt
  exact ⟨mo, rfl, ⟨lp, x', t, q, P, N, a, rk, rk, ms, S.le, V'.old o, M2, K'.old o, by omega, S.hk, by omega, (S.may.kp kp1).new (.of_old o) hmo, S.cov, S.len⟩, .of_old o⟩
end
end Go.Proofs.YtjajenkagcdhlaaGreat
/- For lariatlaw6.VaultStays: Keep, Settle, breaks, falls, openings. -/
namespace Go.Proofs.YtjajenkagcdhlaaGreat
open Go.RowKit
set_option maxRecDepth 100000

/-- Covered by the list, or by these records. -/
def Cov2 (h : Nat) (P : Hom → Prop) (ms : May) (r : Recs) : Prop := ∀ X, P X → (∃ e ∈ ms, Good h e.2 X) ∨ Good h r X
theorem Cov2.add {h : Nat} {P : Hom → Prop} {ms : May} {r : Recs} (c : Cov2 h P ms r) (mo : Nat) : Cov h P (ms ++ [(mo, r)]) := fun X hX => by
  rcases c X hX with ⟨e, he, hg⟩ | hg
  · exact ⟨e, List.mem_append_left _ he, hg⟩
  · exact ⟨(mo, r), List.mem_append_right _ (List.mem_singleton.2 rfl), hg⟩
/-- Append's row is a row of maps. -/
theorem MayAt.rowTurn {w0 w w' : World} {mv : Value} {ms : May} {np : Nat} (h : MayAt w0 mv ms np w) (T : Touch (blk mv) w w') : Old w w' ∨ ∃ g, w0.heap.size ≤ g ∧ RowTurn g w w' := by
  obtain ⟨hl, ⟨rfl, _⟩ | ⟨g, cap, cur, rfl, hb, hg, _⟩⟩ := h.row
  · exact .inl (T.mono fun k _ q => by cases q)
  · exact .inr ⟨g, hb, ⟨cur.toList, hg⟩, T.mono fun k _ q => by
      have e : g = k := by simpa [blk, Value.ownBlock] using q
      exact e.symm⟩
section
variable {w0 w w' : World} {d k n vp np kp lp x t : Nat} {mv : Value} {q : Bool} {P : Hom → Prop} {N : Hom} {a : Places} {rs rk : Recs} {ms : May}
/-- Kept; the list is still to be appended to. -/
def StK (w0 : World) (d k n vp np : Nat) (mv : Value) (w : World) : Prop := ∃ lp x t q P N a rs ms, t ≤ k ∧ Vt w0 vp lp d x 30 58 t q P N rs rs a w ∧ VMap np rs w ∧ w0.heap.size ≤ np ∧ MayAt w0 mv ms np w ∧ Cov2 58 P ms rs ∧ ms.length ≤ n
/-- And appended to. -/
def StG (w0 : World) (d k n vp np : Nat) (mv : Value) (w : World) : Prop := ∃ lp x t q P N a rs ms, t ≤ k ∧ Vt w0 vp lp d x 30 58 t q P N rs rs a w ∧ VMap np rs w ∧ w0.heap.size ≤ np ∧ MayAt w0 mv ms np w ∧ Cov 58 P ms ∧ ms.length ≤ n
/-- Too big: as it was kept. -/
def StB (w0 : World) (d k n vp kp : Nat) (mv : Value) (w : World) : Prop := ∃ lp x t q P N a rk ms np, t ≤ k ∧ Vt w0 vp lp d x 30 58 t q P N rk rk a w ∧ VMap kp rk w ∧ w0.heap.size ≤ kp ∧ MayAt w0 mv ms np w ∧ Cov 58 P ms ∧ ms.length ≤ n
/-- It broke while it was kept. -/
def StC (w0 : World) (d k n np kp : Nat) (mv : Value) (w : World) : Prop := ∃ t P rs rk ms, t ≤ k ∧ Sunk ⟨w0, []⟩ d 30 58 t P w ∧ VMap np rs w ∧ VMap kp rk w ∧ w0.heap.size ≤ np ∧ w0.heap.size ≤ kp ∧ np ≠ kp ∧ RsOk rs ∧ RsOk rk ∧ MayAt w0 mv ms np w ∧ Cov2 58 P ms rs ∧ ms.length ≤ n
def StD (w0 : World) (d k n kp : Nat) (mv : Value) (w : World) : Prop := ∃ t P rk ms np, t ≤ k ∧ Sunk ⟨w0, []⟩ d 30 58 t P w ∧ VMap kp rk w ∧ RsOk rk ∧ MayAt w0 mv ms np w ∧ Cov 58 P ms ∧ ms.length ≤ n
theorem Sta.keep (S : Sta w0 d k n vp np kp mv w) (hk : k ≤ 200) : Calls Tryz.prog 13 #[.pointer (some ⟨vp, 0, none⟩)] w fun y w' => Bx w w' ∧
    ((y = .returned (.int .i64 0) ∧ StK w0 d (k + 1) n vp np mv w') ∨ (y = .returned (.int .i64 5) ∧ StB w0 d (k + 1) n vp kp mv w') ∨ (y = .returned (.int .i64 4) ∧ StC w0 d (k + 1) n np kp mv w')) := by
  obtain ⟨lp, x, t, q, P, N, a, rs, rk, ms, S⟩ := S
  have hN := S.v.sail.len
  have ht := S.le
  have vld' : Vld rs (placeM rs a 58) 58 := place_vld S.v.mem.rok S.v.mem.vld.plOk S.v.mem.fit
  have hG : Good 58 rs (tookH N (turnedM rs rk a 58)) := by
    refine ⟨placeM rs a 58, vld', ?_⟩
    have := keep_holds (N := N) (rs := rk) (a := a) (rs' := rs) (a' := placeM rs a 58) (by rw [hN]; exact S.v.mem.vld) (by rw [hN]; exact vld') S.v.holds
    rw [hN] at this
    exact this
  have hC : Cov2 58 (fun X => P X ∨ X = tookH N (turnedM rs rk a 58)) ms rs := fun X hX => by
    rcases hX with hX | rfl
    · exact .inl (S.cov X hX)
    · exact .inr hG
  refine (S.v.keep (by omega)).mono ?_
  rintro y w' (⟨rfl, e, o, V'⟩ | ⟨_, K, ⟨rfl, V'⟩ | ⟨rfl, _, x', V'⟩ | ⟨rfl, hq, A, _⟩⟩)
  · subst e
    exact ⟨.of_old o, .inl ⟨rfl, lp, x, t, q, P, N, a, rs, ms, by omega, V', S.mn.old o, S.hn, S.may.kp (.of_old o), fun X hX => .inl (S.cov X hX), S.len⟩⟩
  · have kp1 : Kp np w w' := .of_keptV K
    exact ⟨kp1.bx, .inl ⟨rfl, lp, x, t + 1, q, _, _, _, rs, ms, by omega, V', S.mn.keptV K, S.hn, S.may.kp kp1, hC, S.len⟩⟩
  · have kp1 : Kp np w w' := .of_keptV K
    exact ⟨kp1.bx, .inr (.inl ⟨rfl, lp, x', t + 1, q, _, _, _, rk, ms, np, by omega, V', S.mq.keptV K, S.hk, S.may.kp kp1, S.cov, S.len⟩)⟩
  · have kp1 : Kp np w w' := .of_keptV K
    exact ⟨kp1.bx, .inr (.inr ⟨rfl, t + 1, _, rs, rk, ms, by omega, A, S.mn.keptV K, S.mq.keptV K, S.hn, S.hk, S.ne, S.v.mem.rok, S.v.mem.vld.rsOk, S.may.kp kp1, hC, S.len⟩)⟩
theorem StK.copy (S : StK w0 d k n vp np mv w) (hn : n ≤ 90) : Calls Tryz.prog 14 #[.map (some np)] w fun y w' => ∃ mo, y = .returned (.map (some mo)) ∧ ∃ v' w2,
    (∀ ty, (Builtin.append_ #[47, 47] ty #[mv, .slice (some ⟨w'.heap.size, 0, none⟩) 1 1]).run Tryz.prog (w'.alloc (.cells #[.map (some mo)] 29)) = .ok v' w2) ∧ StG w0 d k (n + 1) vp np v' w2 ∧ Bx w w2 := by
  obtain ⟨lp, x, t, q, P, N, a, rs, ms, ht, V, M, h0, A, C, hl⟩ := S
  have hs : w0.heap.size ≤ w.heap.size := V.sail.old0.size
  refine (copied_any w M V.mem.rok).mono ?_
  rintro y w' ⟨mo, rfl, hmo, M', o⟩
  have hlt := M.lt
  have A' := A.kp (.of_old o)
  obtain ⟨v', w2, hap, A2, T⟩ := A'.more (e := (mo, rs)) (by omega) (Nat.le_trans hs o.size) M' (by show _ ≤ mo; omega) (by show mo ≠ np; omega) V.mem.rok
  refine ⟨mo, rfl, v', w2, hap, ?_⟩
  rcases A'.rowTurn T with o2 | ⟨g, hg, R⟩
  · exact ⟨⟨lp, x, t, q, P, N, a, rs, _, ht, (V.old o).old o2, (M.old o).old o2, h0, A2, C.add mo, by rw [List.length_append]; show _ + 1 ≤ _; omega⟩, (Bx.of_old o).trans (.of_old o2)⟩
  · exact ⟨⟨lp, x, t, q, P, N, a, rs, _, ht, (V.old o).row R hg, R.map (M.old o), h0, A2, C.add mo, by rw [List.length_append]; show _ + 1 ≤ _; omega⟩, (Bx.of_old o).trans R.bx⟩
theorem StG.copy (S : StG w0 d k n vp np mv w) : Calls Tryz.prog 14 #[.map (some np)] w fun y w' => ∃ mo, y = .returned (.map (some mo)) ∧ Sta w0 d k n vp np mo mv w' ∧ Bx w w' := by
  obtain ⟨lp, x, t, q, P, N, a, rs, ms, ht, V, M, h0, A, C, hl⟩ := S
  have hs : w0.heap.size ≤ w.heap.size := V.sail.old0.size
  refine (copied_any w M V.mem.rok).mono ?_
  rintro y w' ⟨mo, rfl, hmo, M', o⟩
  have hlt := M.lt
  exact ⟨mo, rfl, ⟨lp, x, t, q, P, N, a, rs, rs, ms, ht, V.old o, M.old o, M', h0, by omega, by omega, A.kp (.of_old o), C, hl⟩, .of_old o⟩
theorem StB.copy (S : StB w0 d k n vp kp mv w) : Calls Tryz.prog 14 #[.map (some kp)] w fun y w' => ∃ mo, y = .returned (.map (some mo)) ∧ Sta w0 d k n vp mo kp mv w' ∧ Bx w w' := by
  obtain ⟨lp, x, t, q, P, N, a, rk, ms, np, ht, V, M, h0, A, C, hl⟩ := S
  have hs : w0.heap.size ≤ w.heap.size := V.sail.old0.size
  refine (copied_any w M V.mem.rok).mono ?_
  rintro y w' ⟨mo, rfl, hmo, M', o⟩
  have hlt := M.lt
  exact ⟨mo, rfl, ⟨lp, x, t, q, P, N, a, rk, rk, ms, ht, V.old o, M', M.old o, by omega, h0, by omega, A.new (.of_old o) hmo, C, hl⟩, .of_old o⟩
theorem StC.copy (S : StC w0 d k n np kp mv w) (hn : n ≤ 90) : Calls Tryz.prog 14 #[.map (some np)] w fun y w' => ∃ mo, y = .returned (.map (some mo)) ∧ ∃ v' w2,
    (∀ ty, (Builtin.append_ #[47, 47] ty #[mv, .slice (some ⟨w'.heap.size, 0, none⟩) 1 1]).run Tryz.prog (w'.alloc (.cells #[.map (some mo)] 29)) = .ok v' w2) ∧ StD w0 d k (n + 1) kp v' w2 ∧ Bx w w2 := by
  obtain ⟨t, P, rs, rk, ms, ht, V, M, K, h0, h1, hne, r1, r2, A, C, hl⟩ := S
  have hs : w0.heap.size ≤ w.heap.size := V.wreck.old0.size
  refine (copied_any w M r1).mono ?_
  rintro y w' ⟨mo, rfl, hmo, M', o⟩
  have hlt := M.lt
  have A' := A.kp (.of_old o)
  obtain ⟨v', w2, hap, A2, T⟩ := A'.more (e := (mo, rs)) (by omega) (Nat.le_trans hs o.size) M' (by show _ ≤ mo; omega) (by show mo ≠ np; omega) r1
  refine ⟨mo, rfl, v', w2, hap, ?_⟩
  rcases A'.rowTurn T with o2 | ⟨g, hg, R⟩
  · exact ⟨⟨t, P, rk, _, np, ht, (V.old o).old o2, (K.old o).old o2, r2, A2, C.add mo, by rw [List.length_append]; show _ + 1 ≤ _; omega⟩, (Bx.of_old o).trans (.of_old o2)⟩
  · exact ⟨⟨t, P, rk, _, np, ht, (V.old o).row R hg, R.map (K.old o), r2, A2, C.add mo, by rw [List.length_append]; show _ + 1 ≤ _; omega⟩, (Bx.of_old o).trans R.bx⟩
theorem StD.copy (S : StD w0 d k n kp mv w) : Calls Tryz.prog 14 #[.map (some kp)] w fun y w' => ∃ mo, y = .returned (.map (some mo)) ∧ Skt w0 d k n mv w' ∧ Bx w w' := by
  obtain ⟨t, P, rk, ms, np, ht, V, K, r2, A, C, hl⟩ := S
  refine (copied_any w K r2).mono ?_
  rintro y w' ⟨mo, rfl, hmo, M', o⟩
  exact ⟨mo, rfl, ⟨t, P, ms, mo, ht, V.old o, A.new (.of_old o) hmo, C, hl⟩, .of_old o⟩
theorem Sta.settle (S : Sta w0 d k n vp np kp mv w) (hk : k ≤ 200) (hn : 1 ≤ n) : Calls Tryz.prog 16 #[.pointer (some ⟨vp, 0, none⟩)] w fun y w' => Bx w w' ∧
    ((y = .returned (.int .i64 0) ∧ Sta w0 d (k + 1) n vp np kp (.slice (some ⟨w'.heap.size, 0, none⟩) 1 1) (w'.alloc (.cells #[.map (some kp)] 29))) ∨ (y = .returned (.int .i64 4) ∧ Skt w0 d (k + 1) n mv w')) := by
  obtain ⟨lp, x, t, q, P, N, a, rs, rk, ms, S⟩ := S
  have ht := S.le
  refine (S.v.settle (by omega)).mono ?_
  rintro y w' ⟨K, ⟨rfl, V'⟩ | ⟨rfl, hq, A⟩⟩
  · have kp1 : Kp np w w' := .of_keptV K
    have o : Old w' (w'.alloc (.cells #[.map (some kp)] 29)) := (Touch.refl _ _).alloc _
    have hs : w0.heap.size ≤ w'.heap.size := V'.sail.old0.size
    refine ⟨kp1.bx, .inl ⟨rfl, lp, x, t + 1, q, _, N, a, rs, rk, [(kp, rk)], by omega, V'.old o, (S.mn.keptV K).old o, (S.mq.keptV K).old o, S.hn, S.hk, S.ne, MayAt.one (e := (kp, rk)) hs (S.mq.keptV K) S.hk S.ne.symm S.v.mem.vld.rsOk, fun X hX => ⟨(kp, rk), List.mem_singleton.2 rfl, a, V'.mem.vld, by rw [hX]; exact V'.holds⟩, hn⟩⟩
  · have kp1 : Kp np w w' := .of_keptV K
    exact ⟨kp1.bx, .inr ⟨rfl, t + 1, P, ms, np, by omega, A, S.may.kp kp1, S.cov, S.len⟩⟩
theorem Sta.break_ (S : Sta w0 d k n vp np kp mv w) (c : Int) (hc : c ≤ 1000) : Calls Tryz.prog 24 #[.pointer (some ⟨d, 0, none⟩), .int .i64 c] w fun y w' => y = .returned (.tuple #[]) ∧ Bx w w' ∧ Sta w0 d k n vp np kp mv w' := by
  obtain ⟨lp, x, t, q, P, N, a, rs, rk, ms, S⟩ := S
  refine (sail_break S.v.sail c hc).mono ?_
  rintro y w' ⟨rfl, K, A⟩
  have kp1 : Kp np w w' := .of_keptV (KeptV.of_kept K)
  exact ⟨rfl, kp1.bx, lp, x, t, false, P, N, a, rs, rk, ms, S.le, ⟨A, S.v.mem.keptL K A.bq, S.v.holds, S.v.nv, S.v.nx, S.v.hh, S.v.hl⟩, S.mn.keptV (KeptV.of_kept K), S.mq.keptV (KeptV.of_kept K), S.hn, S.hk, S.ne, S.may.kp kp1, S.cov, S.len⟩
/-- Behind a fall. -/
def Fel (w0 : World) (d k n : Nat) (q : Bool) (mv : Value) (w : World) : Prop := ∃ t P ms np, t ≤ k ∧ Fell ⟨w0, []⟩ d 30 58 t q P w ∧ MayAt w0 mv ms np w ∧ Cov 58 P ms ∧ ms.length ≤ n
theorem Fel.mono {k' : Nat} (S : Fel w0 d k n q mv w) (hk : k ≤ k') : Fel w0 d k' n q mv w := by
  obtain ⟨t, P, ms, np, h1, h2, h3⟩ := S
  exact ⟨t, P, ms, np, Nat.le_trans h1 hk, h2, h3⟩
theorem Fel.old0 (S : Fel w0 d k n q mv w) : Old w0 w := by
  obtain ⟨t, P, ms, np, h1, h2, h3⟩ := S
  exact h2.old0
theorem wreck_fall2 {l h : Nat} (x : Wreck ⟨w0, []⟩ d l h t P w) (ht : t ≤ 300) (a : Option Addr) (ys : List Int) (len cap : Nat) (torn cut : Int) (hI : HasI w a ys) (hlen : ys.length = len) (hlm : len ≤ 9223372036854775806) :
    Calls Tryz.prog 26 #[.pointer (some ⟨d, 0, none⟩), .slice a len cap, .int .i64 torn, .int .i64 cut] w fun y w' => y = .returned (.tuple #[]) ∧ KeptL w w' ∧ Fell ⟨w0, []⟩ d l h t true P w' := by
  obtain ⟨b, D, S, C, hl, hx⟩ := x
  refine (fall_st S (by omega) a ys len cap torn cut hI hlen hlm).mono ?_
  rintro y w' ⟨rfl, M⟩
  obtain ⟨b', S'⟩ := M.1
  obtain ⟨r, H, es, R, hP, hr⟩ := C (partOf ys torn cut) (partOf_le ys torn cut)
  have hR : RecE (D.fall (partOf ys torn cut)).seen l r H es := R
  refine ⟨rfl, .of_kept M.2.1, b', _, r, H, es, S', rfl, rfl, fun _ => rfl, hR, hP, ?_, hr, hx⟩
  have h1 := R.len
  rw [falls_length] at h1
  have h2 : D.T.length = 2 + l + h := hl
  have h3 : D.ta.1.length = 2 + l + h := hl
  omega
theorem Wrk.fall (S : Wrk w0 d k n mv w) (hk : k ≤ 300) (a : Option Addr) (ys : List Int) (len cap : Nat) (torn cut : Int) (hI : HasI w a ys) (hlen : ys.length = len) (hlm : len ≤ 9223372036854775806) :
    Calls Tryz.prog 26 #[.pointer (some ⟨d, 0, none⟩), .slice a len cap, .int .i64 torn, .int .i64 cut] w fun y w' => y = .returned (.tuple #[]) ∧ Bx w w' ∧ Fel w0 d k n true mv w' := by
  obtain ⟨t, P, ms, np, h1, h2, h3, h4, h5⟩ := S
  refine (wreck_fall2 h2 (by omega) a ys len cap torn cut hI hlen hlm).mono ?_
  rintro y w' ⟨rfl, K, F⟩
  have kp1 : Kp np w w' := .of_keptV (KeptV.of_kept K)
  exact ⟨rfl, kp1.bx, t, P, ms, np, h1, F, h3.kp kp1, h4, h5⟩
theorem Fel.break_ (S : Fel w0 d k n true mv w) (c : Int) (hc : c ≤ 1000) : Calls Tryz.prog 24 #[.pointer (some ⟨d, 0, none⟩), .int .i64 c] w fun y w' => y = .returned (.tuple #[]) ∧ Bx w w' ∧ Fel w0 d k n false mv w' := by
  obtain ⟨t, P, ms, np, h1, h2, h3, h4, h5⟩ := S
  refine (fell_break h2 c hc).mono ?_
  rintro y w' ⟨rfl, K, F⟩
  have kp1 : Kp np w w' := .of_keptV (KeptV.of_kept K)
  exact ⟨rfl, kp1.bx, t, P, ms, np, h1, F, h3.kp kp1, h4, h5⟩
/-- Open, while it may break: whatever it answers. -/
theorem fell_vopen (F : Fell ⟨w0, []⟩ d 30 58 t false P w) (ht : t ≤ 200) : Calls Tryz.prog 17 #[.pointer (some ⟨d, 0, none⟩)] w fun y w' => ∃ a b, y = .returned (.tuple #[a, b]) ∧ Wreck ⟨w0, []⟩ d 30 58 (t + 1) P w' ∧ KeptV w w' := by
  obtain ⟨b, D, r, H, es, S, hd, hA, hq, R, hP, hh, hr, hx⟩ := F
  have htn := openL_turns (D := D) (k := r % 2)
  have hTl : D.T.length = 2 + 30 + H.length := by rw [← DS.seen_length]; exact R.len
  have hlen : (openL D (r % 2)).D.T.length = D.T.length := by
    show (LS.counted D (r % 2)).reads.next.D.T.length = _
    rw [next_len]
    rfl
  refine (vopen_any _ w (fun _ w1 => Wreck ⟨w0, []⟩ d 30 58 (t + 1) P w1 ∧ KeptL w w1) (fun _ _ w1 => Wreck ⟨w0, []⟩ d 30 58 (t + 1) P w1 ∧ KeptL w w1) ?_).mono ?_
  · refine (open_any S (by omega)).mono ?_
    obtain ⟨hk, ⟨e1, e2, e3, e4⟩ | ⟨e1, e2, e3, e4⟩⟩ := open_break hd hA R (by omega)
    · rintro y w' ⟨K, _, ⟨b', _, hne, _⟩ | ⟨k, mp, g', b', hk', _, _, rfl, A'⟩⟩
      · exact absurd e1 hne
      · obtain rfl : r % 2 = k := by rw [hk] at hk'; injection hk'
        have hS : Sail ⟨w0, []⟩ mp d 30 58 (t + 1) false (fun X => X = H) H w' := ⟨g', b', _, r + 1, H, [], [], A', e3, e4, (fun q => by cases q), (fun X ⟨j, hj, hX⟩ => by
          have : j = 0 := Nat.le_zero.1 hj
          subst this
          exact hX), rfl, hh, by omega, by simp, by omega⟩
        exact .inr ⟨mp, H, rfl, hS.okL (by omega) (by omega) (by omega), (hS.mono (P' := P) (fun X hX => by rw [hX]; exact hP) (Nat.le_refl _)).wreck, K⟩
    · rintro y w' ⟨K, _, ⟨b', rfl, hne, S'⟩ | ⟨k, mp, g', b', hk', h0, _, rfl, A'⟩⟩
      · have eD : openD D = (openL D (r % 2)).D := by unfold openD; rw [hd, hk]; rfl
        exact .inl ⟨openE D, hne, rfl, ⟨b', _, S', e4.mono (fun X hX => by rw [hX]; exact hP) (by omega), by rw [eD, hlen, hTl, hh], by rw [eD]; omega⟩, K⟩
      · rw [e1] at h0; cases h0
  · rintro y w' (⟨e, _, rfl, hW, K⟩ | ⟨lp, H', w1, ⟨hW, K⟩, ok, o, ⟨rfl, _⟩ | ⟨vp, x, rs, a, hR, rfl, m, n1, n2⟩⟩)
    · exact ⟨_, _, rfl, hW, KeptV.of_kept K⟩
    · exact ⟨_, _, rfl, hW.old o, (KeptV.of_kept K).trans (KeptV.of_old o)⟩
    · exact ⟨_, _, rfl, hW.old o, (KeptV.of_kept K).trans (KeptV.of_old o)⟩
theorem Fel.vopen (S : Fel w0 d k n false mv w) (hk : k ≤ 200) : Calls Tryz.prog 17 #[.pointer (some ⟨d, 0, none⟩)] w fun y w' => ∃ a b, y = .returned (.tuple #[a, b]) ∧ Bx w w' ∧ Wrk w0 d (k + 1) n mv w' := by
  obtain ⟨t, P, ms, np, h1, h2, h3, h4, h5⟩ := S
  refine (fell_vopen h2 (by omega)).mono ?_
  rintro y w' ⟨a, b, rfl, W, K⟩
  have kp1 : Kp np w w' := .of_keptV K
  exact ⟨a, b, rfl, kp1.bx, t + 1, P, ms, np, by omega, W, h3.kp kp1, h4, h5⟩
/-- Opened: what is there is one of the list. -/
def StO (w0 : World) (d k vp : Nat) (mv : Value) (ms : May) (rs : Recs) (w : World) : Prop := ∃ lp x t H a np, t ≤ k ∧ Vt w0 vp lp d x 30 58 t true (fun X => X = H) H rs rs a w ∧ MayAt w0 mv ms np w
theorem StO.old {vp : Nat} {ms : May} {rs : Recs} (S : StO w0 d k vp mv ms rs w) (o : Old w w') : StO w0 d k vp mv ms rs w' := by
  obtain ⟨lp, x, t, H, a, np, h1, h2, h3⟩ := S
  exact ⟨lp, x, t, H, a, np, h1, h2.old o, h3.kp (.of_old o)⟩
theorem Fel.open_ (S : Fel w0 d k n true mv w) (hk : k ≤ 200) : Calls Tryz.prog 17 #[.pointer (some ⟨d, 0, none⟩)] w fun y w' => ∃ vp ms rs, y = .returned (.tuple #[.pointer (some ⟨vp, 0, none⟩), .int .i64 0]) ∧ StO w0 d (k + 1) vp mv ms rs w' ∧ (∃ e ∈ ms, e.2 = rs) ∧ ms.length ≤ n := by
  obtain ⟨t, P, ms, np, h1, h2, h3, h4, h5⟩ := S
  refine (vt_fell h2 (by omega) (fun X hX hp => ?_) (by omega) (by omega) (by omega)).mono ?_
  · obtain ⟨e, _, a, v, hh⟩ := h4 X hp
    exact ⟨e.2, a, v, hh⟩
  · rintro y w' ⟨vp, lp, x, H, rs, a, rfl, hp, hR, V, K⟩
    obtain ⟨e, he, a', v, hh⟩ := h4 H hp
    have hlH := V.sail.len
    have hR2 : Reading H e.2 a' := reading_all (by rw [hlH]; omega) (by rw [hlH]; exact v) hh
    obtain ⟨e1, _⟩ := reading_one hR2 hR
    exact ⟨vp, ms, rs, rfl, ⟨lp, x, t + 1, H, a, np, by omega, V, h3.kp (.of_keptV K)⟩, ⟨e, he, e1⟩, h5⟩
theorem StO.is_ {vp : Nat} {ms : May} {rs : Recs} (S : StO w0 d k vp mv ms rs w) (e : Nat × Recs) (he : e ∈ ms) : Calls Tryz.prog 22 #[.pointer (some ⟨vp, 0, none⟩), .map (some e.1)] w fun y w' => ∃ c, y = .returned (.bool c) ∧ (c = true ↔ rs = e.2) ∧ Old w w' := by
  obtain ⟨lp, x, t, H, a, np, h1, h2, h3⟩ := S
  exact is_any h2 (h3.all e he).1 (h3.all e he).2.2.2
theorem StO.row {vp : Nat} {ms : May} {rs : Recs} (S : StO w0 d k vp mv ms rs w) : ∃ a c, mv = .slice a ms.length c ∧ ∀ (i : Nat) e, ms[i]? = some e → ∃ b off, a = some ⟨b, off, none⟩ ∧ w.cell? ⟨b, off + i, none⟩ = some (.map (some e.1)) := by
  obtain ⟨lp, x, t, H, a, np, h1, h2, h3⟩ := S
  exact h3.row.cell
/-- And the law goes on with it. -/
theorem StO.fin {vp : Nat} {ms : May} {rs : Recs} (S : StO w0 d k vp mv ms rs w) (hn : 1 ≤ n) (e : Nat × Recs) (he : e ∈ ms) (hr : rs = e.2) : Calls Tryz.prog 14 #[.map (some e.1)] w fun y w1 => ∃ mo, y = .returned (.map (some mo)) ∧
    Calls Tryz.prog 14 #[.map (some mo)] w1 fun y w2 => ∃ no, y = .returned (.map (some no)) ∧ Sta w0 d k n vp no mo (.slice (some ⟨w2.heap.size, 0, none⟩) 1 1) (w2.alloc (.cells #[.map (some mo)] 29)) := by
  obtain ⟨lp, x, t, H, a, np, h1, h2, h3⟩ := S
  have hs : w0.heap.size ≤ w.heap.size := h2.sail.old0.size
  have ok := h2.mem.rok
  rw [hr] at ok
  refine (copied_any w (h3.all e he).1 ok).mono ?_
  rintro y w1 ⟨mo, rfl, hmo, M1, o1⟩
  refine ⟨mo, rfl, (copied_any w1 M1 ok).mono ?_⟩
  rintro y w2 ⟨no, rfl, hno, M2, o2⟩
  have o3 : Old w2 (w2.alloc (.cells #[.map (some mo)] 29)) := (Touch.refl _ _).alloc _
  have hlt := M1.lt
  have V2 := (h2.old o1).old o2
  subst hr
  have hs2 : w0.heap.size ≤ w2.heap.size := V2.sail.old0.size
  have hs1 : w.heap.size ≤ w1.heap.size := o1.size
  exact ⟨no, rfl, lp, x, t, true, _, H, a, e.2, e.2, [(mo, e.2)], h1, V2.old o3, M2.old o3, (M1.old o2).old o3, by omega, by omega, by omega, MayAt.one (e := (mo, e.2)) hs2 (M1.old o2) (by show _ ≤ mo; omega) (by show mo ≠ no; omega) ok, fun X hX => ⟨(mo, e.2), List.mem_singleton.2 rfl, a, V2.mem.vld, by rw [hX]; exact V2.holds⟩, hn⟩
end
end Go.Proofs.YtjajenkagcdhlaaGreat
