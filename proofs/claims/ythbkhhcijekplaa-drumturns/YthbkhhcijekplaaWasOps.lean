/- A byte is appended to one of twelve rows; a row is made none. -/
import Derived.Test.YthbkhhcijekplaaKeeps
namespace Go.Proofs.Ythbkhhcijekplaa
open Go.RowKit

/-- Blocks of a law's own that are no drum's. -/
def mine (w0 w : World) (g : Nat) : Prop := w0.heap.size ≤ g ∧ ∃ t cs, other t ∧ Blk w g t cs
theorem St.mine {w0 w w' : World} {d : Nat} {b : Bl} {D : DS} (h : St w0 d b D w) (m : Touch (mine w0 w) w w') : St w0 d b D w' :=
  h.touch m (fun _ ⟨h1, _, _, h2, h3⟩ => ⟨h.dr.not_foot h3 h2, h1⟩)

theorem Was.cell {w0 w : World} {wa k : Nat} {L : List (List Nat)} {l : List Nat} (h : Was w0 wa L w) (hk : L[k]? = some l) : ∃ a c, w.cell? ⟨wa, k, none⟩ = some (.slice a l.length c) ∧ w.frozen? ⟨wa, k, none⟩ = false ∧ w.ownsRow w0.heap.size 5 1 (.slice a l.length c) l.length (cells l) := by
  obtain ⟨vs, h1, h2, h3, h4⟩ := h.ex
  obtain ⟨v, hv, ho⟩ := h3 k l hk
  obtain ⟨a, c, rfl⟩ := bytes_form ho
  exact ⟨a, c, (h2.cell k).trans hv, h2.frozen k, ho⟩

theorem Was.mine {w0 w : World} {wa : Nat} {L : List (List Nat)} (h : Was w0 wa L w) : mine w0 w wa := by
  obtain ⟨vs, h1, h2, h3, h4⟩ := h.ex
  exact ⟨h.lo, 52, vs, by unfold other; decide, h2⟩

/-- 'was[k] = nil'. -/
theorem Was.none_ {w0 w : World} {wa k : Nat} {L : List (List Nat)} (h : Was w0 wa L w) (hk : k < 12) : Was w0 wa (L.set k []) (w.setCell ⟨wa, k, none⟩ (.slice none 0 0)) := by
  obtain ⟨vs, h1, h2, h3, h4⟩ := h.ex
  obtain ⟨v, hv⟩ := get_of_lt (l := vs) (n := k) (by omega)
  exact Was.put h.lo h.len h1 h2 h3 h4 hk hv (Touch.refl _ _) (World.ownsRow_nil _ _ _ _) (.inr (fun g hg => by cases hg)) rfl

/-- 'was[k] = []byte{c}'. -/
theorem Was.one {w0 w : World} {wa k c : Nat} {L : List (List Nat)} (h : Was w0 wa L w) (hk : k < 12) (h0 : w0.heap.size ≤ w.heap.size) :
    Was w0 wa (L.set k [c]) ((w.alloc (.cells #[.int .u8 (c : Int)] 5)).setCell ⟨wa, k, none⟩ (.slice (some ⟨w.heap.size, 0, none⟩) 1 1)) := by
  obtain ⟨vs, h1, h2, h3, h4⟩ := h.ex
  obtain ⟨v, hv⟩ := get_of_lt (l := vs) (n := k) (by omega)
  refine Was.put h.lo h.len h1 h2 h3 h4 hk hv ((Touch.refl _ _).alloc _) (w' := w.alloc (.cells #[.int .u8 (c : Int)] 5)) (l' := [c]) ?_ (.inr (fun g hg => ?_)) rfl
  · exact ⟨rfl, .inr ⟨w.heap.size, 1, #[.int .u8 (c : Int)], rfl, h0, heap_alloc_new w _, by simp, by simp [maxLen], by simp, by simp [cells]⟩⟩
  · simp [Value.ownBlock] at hg; omega

/-- 'was[k] = append(was[k], c)'. -/
theorem Was.append {w0 w : World} {wa k c : Nat} {L : List (List Nat)} {l : List Nat} (h : Was w0 wa L w) (h0 : w0.heap.size ≤ w.heap.size) (hk : L[k]? = some l) (hl : l.length ≤ 1000) :
    ∃ a cp a' c' w', w.cell? ⟨wa, k, none⟩ = some (.slice a l.length cp) ∧
      (Builtin.append_ #[28, 28] 28 #[.slice a l.length cp, .slice (some ⟨w.heap.size, 0, none⟩) 1 1]).run Try.prog (w.alloc (.cells #[.int .u8 (c : Int)] 5)) = .ok (.slice a' (l.length + 1) c') w' ∧
      (∃ u, w'.cell? ⟨wa, k, none⟩ = some u) ∧ w'.frozen? ⟨wa, k, none⟩ = false ∧ Was w0 wa (L.set k (l ++ [c])) (w'.setCell ⟨wa, k, none⟩ (.slice a' (l.length + 1) c')) ∧
      Touch (Go.Proofs.Ythbkhhcijekplaa.mine w0 w) w (w'.setCell ⟨wa, k, none⟩ (.slice a' (l.length + 1) c')) := by
  have hm := h.mine
  obtain ⟨vs, h1, h2, h3, h4⟩ := h.ex
  obtain ⟨v, hv, ho⟩ := h3 k l hk
  obtain ⟨a, cp, rfl⟩ := bytes_form ho
  obtain ⟨i0, hi, hz0, hz1, hz2⟩ := info_parts info5
  have T1 : Old w (w.alloc (.cells #[.int .u8 (c : Int)] 5)) := (Touch.refl _ _).alloc _
  have K1 : Blk (w.alloc (.cells #[.int .u8 (c : Int)] 5)) w.heap.size 5 [.int .u8 (c : Int)] := Blk.new w 5 [.int .u8 (c : Int)]
  have ho1 := owns_touch ho T1 (fun _ _ q => q)
  obtain ⟨v', w', hr, own', gr, _, hb⟩ := run_append_own_at (P := Try.prog) _ w0.heap.size 28 28 5 i0 _ 1 1 Try.underlying28 hi hz0 hz1 hz2 rfl (by omega) _ _ _ ho1 ⟨w.heap.size, 0, none⟩ 1 1 [.int .u8 (c : Int)] rfl (World.news_of_block K1) (fun u hu => by rw [List.mem_singleton.1 hu]; rfl) (by simp only [maxLen]; omega) (by omega) (Nat.le_trans h0 T1.size)
  obtain ⟨a', c', rfl⟩ := bytes_form own'
  have Tg : Touch (fun g => (Value.slice a l.length cp).ownBlock = some g) (w.alloc (.cells #[.int .u8 (c : Int)] 5)) w' := Touch.grown gr (fun k hk => hk)
  have T : Touch (fun g => (Value.slice a l.length cp).ownBlock = some g) w w' := (Touch.of_old T1).trans Tg
  have hvb : ¬ (Value.slice a l.length cp).ownBlock = some wa := own_blk ho h2 (by decide)
  have B' := h2.touch T hvb
  refine ⟨a, cp, a', c', w', (h2.cell k).trans hv, hr, ⟨_, (B'.cell k).trans hv⟩, B'.frozen k, ?_, ?_⟩
  · refine Was.put h.lo h.len h1 h2 h3 h4 (by have := lt_of_get hk; have := h.len; omega) hv T (l' := l ++ [c]) ?_ ?_ rfl
    · rw [List.length_append, cells_append]; exact own'
    · rcases hb with hb | hb
      · exact .inl hb
      · exact .inr (fun g hg => by rw [hg] at hb; have := T1.size; injection hb with hb; omega)
  · refine (T.mono (fun g _ hg => ?_)).trans ((Touch.one ⟨wa, k, none⟩ _).mono (fun g _ hg => by rw [hg]; exact hm))
    rcases ho.2 with ⟨e, _⟩ | ⟨g', cap, cur, e, hb', hg', _⟩
    · rw [e] at hg; cases hg
    · rw [e] at hg
      have : g' = g := by simpa [Value.ownBlock] using hg
      subst this
      exact ⟨hb', 5, cur.toList, by unfold other; decide, hg'⟩
theorem mine_one {w0 w : World} {wa : Nat} {L : List (List Nat)} (h : Was w0 wa L w) (k : Nat) (v : Value) : Touch (mine w0 w) w (w.setCell ⟨wa, k, none⟩ v) :=
  (Touch.one ⟨wa, k, none⟩ v).mono (fun g _ hg => by rw [hg]; exact h.mine)
end Go.Proofs.Ythbkhhcijekplaa
