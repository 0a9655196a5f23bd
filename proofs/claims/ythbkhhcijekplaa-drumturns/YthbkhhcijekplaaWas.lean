/- What DrumKeeps keeps of each track: twelve rows of bytes. -/
import Derived.Test.YthbkhhcijekplaaTorn
namespace Go.Proofs.Ythbkhhcijekplaa
open Go.RowKit

theorem St.touch {S : Nat → Prop} {w0 w w' : World} {d : Nat} {b : Bl} {D : DS} (h : St w0 d b D w) (m : Touch S w w') (hn : ∀ k, S k → ¬ foot d b k ∧ w0.heap.size ≤ k) : St w0 d b D w' :=
  ⟨h.dr.touch m (fun k hk q => (hn k q).1 hk), ⟨m.os.trans h.old.os, m.tape.trans h.old.tape, m.output.trans h.old.output, Nat.le_trans h.old.size m.size, fun k hk hf => by
    rw [m.block k (Nat.lt_of_lt_of_le hk h.old.size) (fun q => by have := (hn k q).2; omega)]
    exact h.old.block k hk hf⟩, h.new⟩

theorem owns_kept {w w' : World} {base size n : Nat} {e : TypeId} {v : Value} {xs : List Value} (h : w.ownsRow base e size v n xs) (m : Kept w w') (he : other e) : w'.ownsRow base e size v n xs := by
  refine ⟨h.1, ?_⟩
  rcases h.2 with h0 | ⟨g, cap, cur, rfl, hb, hg, h1, h2, h3, h4⟩
  · exact .inl h0
  · exact .inr ⟨g, cap, cur, rfl, hb, m e g cur.toList he hg, h1, h2, h3, h4⟩

/-- Twelve rows of bytes, each in a block of its own. -/
structure Was (w0 : World) (wa : Nat) (L : List (List Nat)) (w : World) : Prop where
  lo : w0.heap.size ≤ wa
  len : L.length = 12
  ex : ∃ vs : List Value, vs.length = 12 ∧ Blk w wa 52 vs ∧ (∀ (k : Nat) (l : List Nat), L[k]? = some l → ∃ v : Value, vs[k]? = some v ∧ w.ownsRow w0.heap.size 5 1 v l.length (cells l)) ∧
    ∀ (i j : Nat) (vi vj : Value) (g : Nat), vs[i]? = some vi → vs[j]? = some vj → vi.ownBlock = some g → vj.ownBlock = some g → i = j

theorem Was.kept {w0 w w' : World} {wa : Nat} {L : List (List Nat)} (h : Was w0 wa L w) (m : Kept w w') : Was w0 wa L w' := by
  obtain ⟨vs, h1, h2, h3, h4⟩ := h.ex
  exact ⟨h.lo, h.len, vs, h1, m 52 wa vs (by unfold other; decide) h2, fun k l hl => by
    obtain ⟨v, hv, ho⟩ := h3 k l hl
    exact ⟨v, hv, owns_kept ho m (by unfold other; decide)⟩, h4⟩

/-- A row is put in another's place. -/
theorem Was.put {w0 w w' w2 : World} {wa k : Nat} {L : List (List Nat)} {vs : List Value} {v' : Value} {l' : List Nat} (lo : w0.heap.size ≤ wa) (len : L.length = 12) (h1 : vs.length = 12) (h2 : Blk w wa 52 vs)
    (h3 : ∀ (k : Nat) (l : List Nat), L[k]? = some l → ∃ v : Value, vs[k]? = some v ∧ w.ownsRow w0.heap.size 5 1 v l.length (cells l))
    (h4 : ∀ (i j : Nat) (vi vj : Value) (g : Nat), vs[i]? = some vi → vs[j]? = some vj → vi.ownBlock = some g → vj.ownBlock = some g → i = j)
    (hk : k < 12) {v : Value} (hv : vs[k]? = some v) (T : Touch (fun g => v.ownBlock = some g) w w') (own' : w'.ownsRow w0.heap.size 5 1 v' l'.length (cells l')) (hb : v'.ownBlock = v.ownBlock ∨ (∀ g, v'.ownBlock = some g → w.heap.size ≤ g))
    (hw2 : w2 = w'.setCell ⟨wa, k, none⟩ v') : Was w0 wa (L.set k l') w2 := by
  subst hw2
  have hvb : ∀ g, v.ownBlock = some g → g ≠ wa := fun g hg e => by
    subst e
    obtain ⟨l, hl⟩ := get_of_lt (l := L) (n := k) (by omega)
    obtain ⟨v1, hv1, ho⟩ := h3 k l hl
    rw [hv] at hv1
    cases hv1
    exact own_blk ho h2 (by decide) hg
  have B' : Blk w' wa 52 vs := h2.touch T (fun q => hvb wa q rfl)
  have T2 : Touch (fun g => g = wa) w' (w'.setCell ⟨wa, k, none⟩ v') := Touch.one ⟨wa, k, none⟩ v'
  refine ⟨lo, by rw [List.length_set]; exact len, vs.set k v', by rw [List.length_set]; exact h1, B'.set k v', fun j l hl => ?_, fun i j vi vj g hi hj hgi hgj => ?_⟩
  · by_cases e : k = j
    · subst e
      rw [List.getElem?_set_self (by omega)] at hl
      cases hl
      exact ⟨v', by rw [List.getElem?_set_self (by omega)], owns_touch own' T2 (fun g hg e => own_blk own' B' (by decide) (by rw [hg, e]))⟩
    · rw [List.getElem?_set_ne e] at hl
      obtain ⟨v1, hv1, ho⟩ := h3 j l hl
      refine ⟨v1, by rw [List.getElem?_set_ne e]; exact hv1, ?_⟩
      have o1 := owns_touch ho T (fun g hg q => e (h4 k j v v1 g hv hv1 q hg))
      exact owns_touch o1 T2 (fun g hg q => own_blk o1 B' (by decide) (by rw [hg, q]))
  · have old : ∀ j vj g, j ≠ k → (vs.set k v')[j]? = some vj → vj.ownBlock = some g → v'.ownBlock = some g → False := fun j vj g hjk hj' hgj' hg' => by
      rw [List.getElem?_set_ne (fun e => hjk e.symm)] at hj'
      rcases hb with hb | hb
      · rw [hb] at hg'
        exact hjk (h4 j k vj v g hj' hv hgj' hg')
      · have hlt := hb g hg'
        obtain ⟨l, hl⟩ := get_of_lt (l := L) (n := j) (by have := lt_of_get hj'; omega)
        obtain ⟨v1, hv1, ho⟩ := h3 j l hl
        rw [hj'] at hv1
        cases hv1
        have := (ho.lt g hgj').2
        omega
    by_cases ei : i = k
    · by_cases ej : j = k
      · rw [ei, ej]
      · subst ei
        rw [List.getElem?_set_self (by omega)] at hi
        cases hi
        exact (old j vj g ej hj hgj hgi).elim
    · by_cases ej : j = k
      · subst ej
        rw [List.getElem?_set_self (by omega)] at hj
        cases hj
        exact (old i vi g ei hi hgi hgj).elim
      · rw [List.getElem?_set_ne (fun e => ei e.symm)] at hi
        rw [List.getElem?_set_ne (fun e => ej e.symm)] at hj
        exact h4 i j vi vj g hi hj hgi hgj

/-- A row's cells. -/
theorem bytes_form {w : World} {base n : Nat} {v : Value} {xs : List Value} (h : w.ownsRow base 5 1 v n xs) : ∃ a c, v = .slice a n c := by
  rcases h.2 with ⟨rfl, rfl⟩ | ⟨g, cap, cur, rfl, _⟩
  · exact ⟨none, 0, rfl⟩
  · exact ⟨_, _, rfl⟩
theorem bytes_has {w : World} {base c : Nat} {a : Option Addr} {l : List Nat} (hb : ∀ x ∈ l, x < 256) (h : w.ownsRow base 5 1 (.slice a l.length c) l.length (cells l)) : Has w a l :=
  ⟨hb, fun i hi => by
    rcases h.2 with ⟨_, h0⟩ | ⟨g, cap, cur, e, _⟩
    · omega
    · injection e with e1 e2 e3
      subst e1
      refine ⟨g, 0, rfl, ?_⟩
      rw [Nat.zero_add, h.cellAt i (by omega)]
      exact cells_get l i hi⟩
end Go.Proofs.Ythbkhhcijekplaa
