/- Rows that a call itself appends to: of tokens, of texts. -/
import Derived.Test.YtdfodmnjgpgojaaDoorTkn
import Derived.Maps.AppendAt
import Derived.Deep.AppendLies
import Derived.BigQuiet
import Derived.Laws.OwnMore
namespace Go.Proofs.YtdfodmnjgpgojaaDoor
open Go.RowKit Go.PlainAid
set_option maxRecDepth 100000

theorem lt_of_get {α : Type} {l : List α} {n : Nat} {x : α} (h : l[n]? = some x) : n < l.length := (List.getElem?_eq_some_iff.1 h).1
theorem Touch.drewN {S : Nat → Prop} {a w : World} (h : Touch S a w) (n : Nat) : Touch S a (w.drewN n) := ⟨h.os, h.tape, h.output, h.size, h.block⟩
theorem Touch.grown {S : Nat → Prop} {w w' : World} {r : Option Nat} (h : w.grownBy w' r) (hs : ∀ k, r = some k → S k) : Touch S w w' :=
  ⟨h.os, h.tape, h.output, h.size, fun k hk hn => h.block k hk (fun e => hn (hs k e.symm))⟩
theorem owns_touch {S : Nat → Prop} {w w' : World} {base size n : Nat} {e : TypeId} {v : Value} {xs : List Value} (h : w.ownsRow base e size v n xs) (m : Touch S w w') (hn : ∀ k, v.ownBlock = some k → ¬ S k) : w'.ownsRow base e size v n xs := by
  refine ⟨h.1, ?_⟩
  rcases h.2 with h0 | ⟨g, cap, cur, rfl, hb, hg, h1, h2, h3, h4⟩
  · exact .inl h0
  · refine .inr ⟨g, cap, cur, rfl, hb, ?_, h1, h2, h3, h4⟩
    rw [m.block g (Array.getElem?_eq_some_iff.1 hg).1 (hn g rfl)]
    exact hg
set_option maxRecDepth 100000 in
theorem wpList_append_run {ops : Array Oper} {rest : List Oper} {o : Oper} {a : Act} {w : World} {Q : Exit → Act → World → Prop} (hgd : o.guard = none) (s x : Operand) (t tx : TypeId)
    (ho : o.op = .call { callee := .builtin .append, args := #[s, x], argTypes := #[t, tx] }) (v u : Value) (hs : a.eval s = v) (hx : a.eval x = u) (v' : Value) (w' : World)
    (hr : (Builtin.append_ #[t, tx] o.type #[v, u]).run Tryd.prog w = .ok v' w') (h : wpList Tryd.prog ops Q rest (a.put o.dst v') w') : wpList Tryd.prog ops Q (o :: rest) a w := by
  refine wpList_plain hgd fun K hK => ?_
  unfold Oper.wp execOp
  simp only [ho, resolve, invoke, builtin, Sem.run_bind, Sem.run_pure, Result.andThen_ok, List.map_toArray, List.map_cons, List.map_nil, hs, hx, hr]
  exact hK _ _ h

/-- The block of a slice. -/
def blk (v : Value) (k : Nat) : Prop := v.ownBlock = some k
theorem Touch.above {w0 w w' : World} {v : Value} {B : Nat} (h : Old w0 w) (hB : w0.heap.size ≤ B) (M : ∀ k, blk v k → B ≤ k) (t : Touch (blk v) w w') : Old w0 w' :=
  ⟨t.os.trans h.os, t.tape.trans h.tape, t.output.trans h.output, Nat.le_trans h.size t.size, fun k hk hn => (t.block k (Nat.lt_of_lt_of_le hk h.size) (fun q => by have := M k q; omega)).trans (h.block k hk hn)⟩
/-- One more element. -/
theorem own_more {w : World} {B : Nat} {t e : TypeId} {z : Value} {sz bytes n : Nat} {v : Value} {xs : List Value} (hu : Tryd.prog.underlying t = some (.slice e)) (hi : (Tryd.prog.info? e).map (fun i => (i.zero, i.size, i.bytes)) = some (some z, sz, bytes)) (hz : z.cells.size = sz) (hs : 0 < sz)
    (h : w.ownsRow B e sz v n xs) (hB : B ≤ w.heap.size) (cs : List Value) (hc : cs.length = sz) (h1 : ∀ u ∈ cs, u.oneCell' = true) (hl : (n + 1) * bytes ≤ 140737488355328) (hm : n + 1 ≤ maxLen) :
    ∃ v' w', (∀ ty, (Builtin.append_ #[t, t] ty #[v, .slice (some ⟨w.heap.size, 0, none⟩) 1 1]).run Tryd.prog (w.alloc (.cells cs.toArray e)) = .ok v' w') ∧ w'.ownsRow B e sz v' (n + 1) (xs ++ cs) ∧ Touch (blk v) w w' := by
  have T1 : Old w (w.alloc (.cells cs.toArray e)) := (Touch.refl _ w).alloc _
  have K1 : Blk (w.alloc (.cells cs.toArray e)) w.heap.size e cs := Blk.new w e cs
  have h1' := owns_touch h T1 (fun _ _ q => q)
  have hB1 : B ≤ (w.alloc (.cells cs.toArray e)).heap.size := Nat.le_trans hB T1.size
  generalize w.alloc (.cells cs.toArray e) = w1 at *
  obtain ⟨i0, hi0, hz0, hz1, hz2⟩ := info_parts hi
  have key : ∀ ty, ∃ v' w', (Builtin.append_ #[t, t] ty #[v, .slice (some ⟨w.heap.size, 0, none⟩) 1 1]).run Tryd.prog w1 = .ok v' w' ∧ w'.ownsRow B e sz v' (n + 1) (xs ++ cs) ∧ w1.grownBy w' v.ownBlock := fun ty => by
    obtain ⟨v', w', hap, own, gr, _, _⟩ := run_append_own_at (P := Tryd.prog) w1 B t ty e i0 z sz bytes hu hi0 hz0 hz1 hz2 hz hs v n xs h1' ⟨w.heap.size, 0, none⟩ 1 1 cs (by rw [hc, Nat.one_mul]) (World.news_of_block K1) h1 hm hl hB1
    exact ⟨v', w', hap, own, gr⟩
  obtain ⟨v', w', hap, own, gr⟩ := key t
  exact ⟨v', w', fun ty => hap, own, (Touch.of_old T1).trans (Touch.grown gr (fun k hk => hk))⟩

def tokCells (l : List Tok) : List Value := l.flatMap Tok.cells
theorem tokCells_append (l m : List Tok) : tokCells (l ++ m) = tokCells l ++ tokCells m := by simp [tokCells]
theorem tokCells_length (l : List Tok) : (tokCells l).length = l.length * 4 := by
  induction l with
  | nil => rfl
  | cons t r ih =>
    show (t.cells ++ tokCells r).length = _
    rw [List.length_append, ih, List.length_cons, show t.cells.length = 4 from rfl]
    omega
theorem tokCells_get (l : List Tok) (i : Nat) (t : Tok) (h : l[i]? = some t) (j : Nat) (hj : j < 4) : (tokCells l)[i * 4 + j]? = t.cells[j]? := by
  induction l generalizing i with
  | nil => simp at h
  | cons x r ih =>
    show (x.cells ++ tokCells r)[i * 4 + j]? = _
    cases i with
    | zero =>
      simp at h
      subst h
      rw [Nat.zero_mul, Nat.zero_add, List.getElem?_append_left (by show j < 4; exact hj)]
    | succ i =>
      rw [List.getElem?_append_right (by show 4 ≤ _; omega), show (i + 1) * 4 + j - x.cells.length = i * 4 + j by rw [show x.cells.length = 4 from rfl]; omega]
      exact ih i (by simpa using h)
/-- A row of tokens of the call's own, not older than B, or nil. -/
def Toks (w : World) (B : Nat) (v : Value) (l : List Tok) : Prop := w.ownsRow B 29 4 v l.length (tokCells l)
theorem Toks.nil (w : World) (B : Nat) : Toks w B (.slice none 0 0) [] := World.ownsRow_nil _ _ _ _
theorem Toks.touch {S : Nat → Prop} {w w' : World} {B : Nat} {v : Value} {l : List Tok} (h : Toks w B v l) (m : Touch S w w') (hn : ∀ k, blk v k → ¬ S k) : Toks w' B v l := owns_touch h m hn
theorem Toks.old {w w' : World} {B : Nat} {v : Value} {l : List Tok} (h : Toks w B v l) (m : Old w w') : Toks w' B v l := owns_touch h m (fun _ _ q => q)
theorem Toks.lt {w : World} {B : Nat} {v : Value} {l : List Tok} (h : Toks w B v l) : ∀ k, blk v k → B ≤ k ∧ k < w.heap.size := fun k hk => World.ownsRow.lt h k hk
theorem Toks.more {w : World} {B : Nat} {v : Value} {l : List Tok} (h : Toks w B v l) (hB : B ≤ w.heap.size) (t : Tok) (hl : l.length ≤ 1000000) :
    ∃ v' w', (∀ ty, (Builtin.append_ #[23, 23] ty #[v, .slice (some ⟨w.heap.size, 0, none⟩) 1 1]).run Tryd.prog (w.alloc (.cells t.cells.toArray 29)) = .ok v' w') ∧ Toks w' B v' (l ++ [t]) ∧ Touch (blk v) w w' := by
  have hi : (Tryd.prog.info? 29).map (fun i => (i.zero, i.size, i.bytes)) = some (some (.agg #[.int .i64 0, .string ⟨#[]⟩, .int .i64 0, .int .i64 0]), 4, 40) := by kernel_rfl
  obtain ⟨v', w', h1, h2, h3⟩ := own_more Tryd.underlying23 hi rfl (by decide) h hB t.cells rfl (fun u hu => by
    simp only [Tok.cells, List.mem_cons, List.not_mem_nil, or_false] at hu
    rcases hu with rfl | rfl | rfl | rfl <;> rfl) (by omega) (by simp only [maxLen]; omega)
  refine ⟨v', w', h1, ?_, h3⟩
  unfold Toks
  rw [List.length_append, tokCells_append, show tokCells [t] = t.cells by simp [tokCells]]
  exact h2
/-- A row of tokens that is only read. -/
structure HasT (w : World) (a : Option Addr) (l : List Tok) : Prop where
  cell : ∀ (i : Nat) (t : Tok), l[i]? = some t → ∃ g, a = some ⟨g, 0, none⟩ ∧ w.cell? ⟨g, i * 4, none⟩ = some (.int .i64 (t.kind : Int)) ∧ w.cell? ⟨g, i * 4 + 1, none⟩ = some (.string t.text) ∧
    w.cell? ⟨g, i * 4 + 2, none⟩ = some (.int .i64 t.n) ∧ w.cell? ⟨g, i * 4 + 3, none⟩ = some (.int .i64 (t.at_ : Int))
theorem Toks.form {w : World} {B : Nat} {v : Value} {l : List Tok} (h : Toks w B v l) : ∃ a c, v = .slice a l.length c ∧ l.length ≤ c ∧ HasT w a l := by
  obtain ⟨hl, ⟨rfl, h0⟩ | ⟨g, cap, cur, rfl, hb, hg, h1, h2, h3, h4⟩⟩ := h
  · obtain rfl : l = [] := List.eq_nil_of_length_eq_zero h0
    exact ⟨none, 0, rfl, Nat.le_refl _, ⟨fun i t q => by simp at q⟩⟩
  · have hB : Blk w g 29 cur.toList := by unfold Blk; rw [hg]
    refine ⟨some ⟨g, 0, none⟩, cap, rfl, h1, ⟨fun i t q => ⟨g, rfl, ?_⟩⟩⟩
    have hi := lt_of_get q
    have key : ∀ j, j < 4 → w.cell? ⟨g, i * 4 + j, none⟩ = t.cells[j]? := fun j hj => by
      rw [hB.cell, ← tokCells_get l i t q j hj, ← h4, List.getElem?_take_of_lt (by omega)]
    exact ⟨key 0 (by decide), key 1 (by decide), key 2 (by decide), key 3 (by decide)⟩
theorem HasT.old {w w' : World} {a : Option Addr} {l : List Tok} (h : HasT w a l) (m : Old w w') : HasT w' a l := ⟨fun i t q => by
  obtain ⟨g, e, c0, c1, c2, c3⟩ := h.cell i t q
  have k : ∀ (p : Addr) (u : Value), w.cell? p = some u → w'.cell? p = some u := fun p u hu => (m.cell (lt_of_cell? hu) (fun q => q)).trans hu
  exact ⟨g, e, k _ _ c0, k _ _ c1, k _ _ c2, k _ _ c3⟩⟩
end Go.Proofs.YtdfodmnjgpgojaaDoor
