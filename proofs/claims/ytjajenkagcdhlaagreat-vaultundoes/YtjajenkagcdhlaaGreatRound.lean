/- A ledger over its drum; the contracts of nextRound and balance. -/
import Derived.Test.YtjajenkagcdhlaaGreatJT
namespace Go.Proofs.YtjajenkagcdhlaaGreat
open Go.RowKit
set_option maxRecDepth 100000

/-- A type that no block of a ledger or its drum has. -/
def otherL (t : TypeId) : Prop := other t ∧ t ≠ 129 ∧ t ≠ 30
structure KeptL (w w' : World) : Prop where
  blk : ∀ t g cs, otherL t → Blk w g t cs → Blk w' g t cs
  map : ∀ (g : Nat) es clock, w.heap[g]? = some (Obj.map es clock) → w'.heap[g]? = some (Obj.map es clock)
theorem KeptL.refl (w : World) : KeptL w w := ⟨fun _ _ _ _ h => h, fun _ _ _ h => h⟩
theorem KeptL.trans {a b c : World} (h : KeptL a b) (k : KeptL b c) : KeptL a c := ⟨fun t g cs ht hb => k.blk t g cs ht (h.blk t g cs ht hb), fun g es cl hg => k.map g es cl (h.map g es cl hg)⟩
theorem KeptL.of_kept {w w' : World} (h : Kept w w') : KeptL w w' := ⟨fun t g cs ht hb => h.blk t g cs ht.1 hb, h.map⟩
theorem KeptL.of_old {w w' : World} (h : Old w w') : KeptL w w' := .of_kept (.of_old h)
theorem KeptL.bytes {w w' : World} (h : KeptL w w') {g : Nat} {cs : List Value} (hb : Blk w g 5 cs) : Blk w' g 5 cs := h.blk 5 g cs (by unfold otherL other; decide) hb
theorem KeptL.of_touch {w w' : World} {k : Nat} {t : TypeId} {cs : List Value} (hk : Blk w k t cs) (ht : t = 129 ∨ t = 30) (h : Touch (fun i => i = k) w w') : KeptL w w' := ⟨fun t' g ds ht' hb => hb.touch h (hb.ne hk (by rcases ht with rfl | rfl; exact ht'.2.1; exact ht'.2.2)), fun g es cl hg => (h.block g (Array.getElem?_eq_some_iff.1 hg).1 (fun q => by have q' : g = k := q; subst q'; unfold Blk at hk; rw [hg] at hk; cases hk)).trans hg⟩
theorem Byt.keptL {w w' : World} {p : Option Addr} {xs : List Nat} (h : Byt w p xs) (m : KeptL w w') : Byt w' p xs := h.keep fun _ _ hb => m.bytes hb
theorem Ents.keptL {w w' : World} {a : Option Addr} {e : List Ent} (h : Ents w a e) (m : KeptL w w') : Ents w' a e := h.keep (fun _ _ hb => m.bytes hb) (fun g cs hb => m.blk 115 g cs (by unfold otherL other; decide) hb)

/-- Such a ledger as may be. -/
structure LS.Ok (L : LS) : Prop where
  leaves : 5 ≤ L.leaves
  home : 2 ≤ L.ws.length
  len : L.D.T.length = 2 + L.leaves + L.ws.length
  laid : L.laid ≤ L.leaves
  round : L.round ≤ 1000000000000
  posts : L.posts ≤ 1000000

/-- A ledger of a law that began in w0. -/
structure LAt (w0 : Fr) (l d : Nat) (b : Bl) (g : Nat) (L : LS) (w : World) : Prop where
  st : St w0 d b L.D w
  head : Blk w l 129 (lhead d g L)
  wri : WriAt w g L.ws
  nl : w0.w.heap.size ≤ l
  ng : w0.w.heap.size ≤ g
theorem LAt.step {w0 : Fr} {w w' : World} {l d g : Nat} {b : Bl} {L : LS} (h : LAt w0 l d b g L w) (m : Old w w') : LAt w0 l d b g L w' := ⟨h.st.step m, h.head.touch m (fun q => q), h.wri.old m, h.nl, h.ng⟩
theorem LAt.next {w0 : Fr} {w w' : World} {l d g : Nat} {b : Bl} {L : LS} {D' : DS} (h : LAt w0 l d b g L w) (m : Next w0 d D' w w') : ∃ b', LAt w0 l d b' g { L with D := D' } w' := by
  obtain ⟨b', S⟩ := m.1
  exact ⟨b', S, m.2.1.blk 129 l _ (by unfold other; decide) h.head, h.wri.kept m.2.1, h.nl, h.ng⟩
theorem St.touch {w0 : Fr} {w w' : World} {d k : Nat} {b : Bl} {D : DS} {t : TypeId} {cs : List Value} (h : St w0 d b D w) (hk : Blk w k t cs) (ht : other t) (hn : w0.w.heap.size ≤ k) (m : Touch (fun i => i = k) w w') : St w0 d b D w' :=
  ⟨h.dr.touch m (fun i hi e => h.dr.not_foot hk ht (by rw [← show i = k from e]; exact hi)), h.old.own m hn, h.new, fun p hp => ⟨(h.aside p hp).1.touch m (fun q => (h.aside p hp).1.ne hk (fun e => ht.2.2.2.2 e.symm) q), (h.aside p hp).2⟩⟩
/-- A change of the ledger itself. -/
theorem LAt.head_set {w0 : Fr} {w w' : World} {l d g : Nat} {b : Bl} {L L' : LS} (h : LAt w0 l d b g L w) (hD : L'.D = L.D) (hws : L'.ws = L.ws) (hb : Blk w' l 129 (lhead d g L')) (m : Touch (fun i => i = l) w w') : LAt w0 l d b g L' w' := by
  obtain ⟨cs, hc⟩ := h.wri.blk
  refine ⟨by rw [hD]; exact h.st.touch h.head (by unfold other; decide) h.nl m, hb, ?_, h.nl, h.ng⟩
  rw [hws]
  exact h.wri.keep (fun k ds hd => hd.touch m (hd.ne h.head (by decide))) (fun ds hd => hd.touch m (hd.ne h.head (by decide)))
/-- A change of what is written. -/
theorem LAt.wri_set {w0 : Fr} {w w' : World} {l d g : Nat} {b : Bl} {L L' : LS} (h : LAt w0 l d b g L w) (hD : L'.D = L.D) (hh : lhead d g L' = lhead d g L) (hw : WriAt w' g L'.ws) (m : Touch (fun i => i = g) w w') : LAt w0 l d b g L' w' := by
  obtain ⟨cs, hc⟩ := h.wri.blk
  exact ⟨by rw [hD]; exact h.st.touch hc (by unfold other; decide) h.ng m, by rw [hh]; exact h.head.touch m (h.head.ne hc (by decide)), hw, h.nl, h.ng⟩

/-- What a call leaves of a ledger. -/
def NextL (w0 : Fr) (l d g : Nat) (L' : LS) (w w' : World) : Prop := (∃ b', LAt w0 l d b' g L' w') ∧ KeptL w w' ∧ w.heap.size ≤ w'.heap.size
theorem NextL.trans {w0 : Fr} {w w1 w2 : World} {l d g : Nat} {L1 L2 : LS} (h : NextL w0 l d g L1 w w1) (k : NextL w0 l d g L2 w1 w2) : NextL w0 l d g L2 w w2 := ⟨k.1, h.2.1.trans k.2.1, Nat.le_trans h.2.2 k.2.2⟩
theorem LAt.same {w0 : Fr} {w : World} {l d g : Nat} {b : Bl} {L : LS} (h : LAt w0 l d b g L w) : NextL w0 l d g L w w := ⟨⟨b, h⟩, KeptL.refl w, Nat.le_refl _⟩
theorem LAt.nextL {w0 : Fr} {w w' : World} {l d g : Nat} {b : Bl} {L : LS} {D' : DS} (h : LAt w0 l d b g L w) (m : Next w0 d D' w w') : NextL w0 l d g { L with D := D' } w w' := ⟨h.next m, .of_kept m.2.1, m.2.2⟩
theorem LAt.old {w0 : Fr} {w w' : World} {l d g : Nat} {b : Bl} {L : LS} (h : LAt w0 l d b g L w) (m : Old w w') : NextL w0 l d g L w w' := ⟨⟨b, h.step m⟩, .of_old m, m.size⟩

theorem homeT_append (l : Nat) : ∀ (k : Nat) (xs ys : Wri), homeT l k (xs ++ ys) = homeT l k xs ++ homeT l (k + xs.length) ys
  | k, [], ys => rfl
  | k, none :: xs, ys => by
    show homeT l (k + 1) (xs ++ ys) = _
    rw [homeT_append l (k + 1) xs ys, List.length_cons, show k + 1 + xs.length = k + (xs.length + 1) by omega]
    rfl
  | k, some b :: xs, ys => by
    show Trn.lay (2 + l + k) b :: homeT l (k + 1) (xs ++ ys) = _
    rw [homeT_append l (k + 1) xs ys, List.length_cons, show k + 1 + xs.length = k + (xs.length + 1) by omega]
    rfl
theorem homeT_length (l : Nat) : ∀ (k : Nat) (xs : Wri), (homeT l k xs).length ≤ xs.length
  | k, [] => Nat.le_refl _
  | k, none :: xs => by have := homeT_length l (k + 1) xs; show (homeT l (k + 1) xs).length ≤ _; rw [List.length_cons]; omega
  | k, some b :: xs => by have := homeT_length l (k + 1) xs; show (_ :: homeT l (k + 1) xs).length ≤ _; rw [List.length_cons, List.length_cons]; omega
/-- What is laid home of the first k. -/
def homeTo (L : LS) (k : Nat) : List Trn := homeT L.leaves 0 (L.ws.take k)
theorem homeTo_none {L : LS} {k : Nat} (h : L.ws[k]? = some none) : homeTo L (k + 1) = homeTo L k := by
  have hl := lt_of_get h
  unfold homeTo
  rw [take_get h, homeT_append]
  exact List.append_nil _
theorem homeTo_some {L : LS} {k : Nat} {b : List Nat} (h : L.ws[k]? = some (some b)) : homeTo L (k + 1) = homeTo L k ++ [.lay (2 + L.leaves + k) b] := by
  have hl := lt_of_get h
  unfold homeTo
  rw [take_get h, homeT_append, List.length_take, Nat.min_eq_left (by omega), Nat.zero_add]
  rfl
theorem homeTo_part (L : LS) (k : Nat) : ∃ r, L.nextT = homeTo L k ++ r := by
  unfold LS.nextT homeTo
  refine ⟨homeT L.leaves (0 + (L.ws.take k).length) (L.ws.drop k) ++ beginT (L.round + 1) L.leaves, ?_⟩
  rw [← List.append_assoc, ← homeT_append, List.take_append_drop]
theorem homeTo_length (L : LS) (k : Nat) (hk : k ≤ L.ws.length) : (homeTo L k).length ≤ L.ws.length := by
  have := homeT_length L.leaves 0 (L.ws.take k)
  rw [List.length_take] at this
  unfold homeTo
  omega
theorem nextT_all (L : LS) : L.nextT = homeTo L L.ws.length ++ beginT (L.round + 1) L.leaves := by unfold LS.nextT homeTo; rw [List.take_length]

set_option maxRecDepth 100000 in
theorem wpList_clear_run {ops : Array Oper} {rest : List Oper} {o : Oper} {a : Act} {w : World} {Q : Exit → Act → World → Prop} (hgd : o.guard = none) (s : Operand) (t : TypeId)
    (ho : o.op = .call { callee := .builtin .clear, args := #[s], argTypes := #[t] }) (v : Value) (hs : a.eval s = v) (v' : Value) (w' : World)
    (hr : (Builtin.clear_ #[t] o.type #[v]).run Tryz.prog w = .ok v' w') (h : wpList Tryz.prog ops Q rest (a.put o.dst v') w') : wpList Tryz.prog ops Q (o :: rest) a w := by
  refine wpList_plain hgd fun K hK => ?_
  unfold Oper.wp execOp
  simp only [ho, resolve, invoke, builtin, Sem.run_bind, Sem.run_pure, Result.andThen_ok, List.map_toArray, List.map_cons, List.map_nil, hs, hr]
  exact hK _ _ h
theorem clear_run (w : World) (g n : Nat) (cs : List Value) (hb : Blk w g 30 cs) (hl : cs.length = n) (hn : 0 < n) (ty : TypeId) :
    (Builtin.clear_ #[54] ty #[.slice (some ⟨g, 0, none⟩) n n]).run Tryz.prog w = .ok (.tuple #[]) (w.setCells g 0 (nils n)) := by
  obtain ⟨i, hi, hz, hs, _⟩ := info_parts info30
  exact Lib.run_clear_slice w 54 30 ty (.slice none 0 0) Tryz.underlying54 (fun w => by simp [zeroValue, typeInfo, hi, hz]) rfl rfl g 0 n n hn (fun j hj => by rw [hb.cell, List.getElem?_eq_getElem (by omega)]; rfl) (fun j _ => hb.frozen _)
theorem WriAt.clear {w : World} {g n : Nat} {ws : Wri} (h : WriAt w g ws) (hn : ws.length = n) : WriAt (w.setCells g 0 (nils n)) g (List.replicate n none) := by
  obtain ⟨cs, hb, hl, _⟩ := h
  have hb' := Blk.setCells (nils n) 0 cs w hb (by simp [nils]; omega)
  have e : splice cs 0 (nils n) = nils n := by
    unfold splice
    rw [List.drop_eq_nil_of_le (by simp [nils]; omega)]
    simp
  rw [e] at hb'
  refine ⟨nils n, hb', by simp [nils], fun i x hx => ?_⟩
  have hi : i < n := by have := lt_of_get hx; simpa using this
  rw [List.getElem?_replicate, if_pos hi] at hx
  injection hx with hx
  subst hx
  exact ⟨.slice none 0 0, by simp [nils, hi], rfl⟩
end Go.Proofs.YtjajenkagcdhlaaGreat
