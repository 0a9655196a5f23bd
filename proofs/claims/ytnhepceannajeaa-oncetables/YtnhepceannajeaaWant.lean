/- lariatlaw1.OnceTables: the map of what is wanted, over the same slots as the table's. -/
import Derived.Test.YtnhepceannajeaaDrops
namespace Go.Proofs.Ytnhepceannajeaa
open Go.RowKit Go.MuLone Go.Conc.Locks Go.Maps

def WantOk (D : DataW Unit) (k : Lit) : Option (Nat ⊕ Int) → Prop
  | none => Maps.has D k = false
  | some (.inl _) => False
  | some (.inr v) => Maps.has D k = true ∧ D.atKey k (.lit (.int .i64 0)) = .lit (.int .i64 v)

def Want (bw c : Nat) (G : Slots) (w : World) : Prop :=
  ∃ D, w.ownsMap Try.prog 9 (plainElem (H := Unit) Try.prog 3) bw c D ∧ Maps.size D = c ∧ ∀ k, WantOk D k (G k)

theorem want_zero (w : World) : (zeroValue 3).run Try.prog w = .ok (.int .i64 0) w := Try.zeroValue3 w

theorem want_look {bw c : Nat} {G : Slots} {w : World} (h : Want bw c G w) {s : ByteArray} (hs : s.size ≤ 1000) {v : Int} (hg : G (kl s) = some (.inr v)) :
    (Instr.lookup 32 (.map (some bw)) (.string s) true).run Try.prog w = .ok (.tuple #[.int .i64 v, .bool true]) w ∧ (Instr.lookup 32 (.map (some bw)) (.string s) false).run Try.prog w = .ok (.int .i64 v) w := by
  obtain ⟨D, hown, hsz, hk⟩ := h
  have hk := hk (kl s)
  rw [hg] at hk
  have hz : (plainElem (H := Unit) Try.prog 3) (.int .i64 0) = some (.lit (.int .i64 0), []) := plainElem_int Try.underlying3 (by decide)
  constructor
  · obtain ⟨x, ps, hrun, hx⟩ := hown.look_ok (t := 32) (e := 3) skey Try.underlying32 (want_zero w) hz (key_kl s hs)
    rw [hk.2] at hx
    obtain ⟨y, rfl, hy, _⟩ := plainElem_int_inv Try.underlying3 hx
    simp only [Prod.mk.injEq, DataW.lit.injEq, Lit.int.injEq, true_and] at hy
    rw [hrun, hk.1, hy.1]
  · obtain ⟨x, ps, hrun, hx⟩ := hown.lookup (t := 32) (e := 3) skey Try.underlying32 (want_zero w) hz (key_kl s hs)
    rw [hk.2] at hx
    obtain ⟨y, rfl, hy, _⟩ := plainElem_int_inv Try.underlying3 hx
    simp only [Prod.mk.injEq, DataW.lit.injEq, Lit.int.injEq, true_and] at hy
    rw [hrun, hy.1]

theorem want_miss {bw c : Nat} {G : Slots} {w : World} (h : Want bw c G w) {s : ByteArray} (hs : s.size ≤ 1000) (hg : G (kl s) = none) :
    (Instr.lookup 32 (.map (some bw)) (.string s) true).run Try.prog w = .ok (.tuple #[.int .i64 0, .bool false]) w := by
  obtain ⟨D, hown, hsz, hk⟩ := h
  have hk := hk (kl s)
  rw [hg] at hk
  have hz : (plainElem (H := Unit) Try.prog 3) (.int .i64 0) = some (.lit (.int .i64 0), []) := plainElem_int Try.underlying3 (by decide)
  obtain ⟨x, ps, hrun, hx⟩ := hown.look_ok (t := 32) (e := 3) skey Try.underlying32 (want_zero w) hz (key_kl s hs)
  rw [atKey_of_not_has hk] at hx
  obtain ⟨y, rfl, hy, _⟩ := plainElem_int_inv Try.underlying3 hx
  simp only [Prod.mk.injEq, DataW.lit.injEq, Lit.int.injEq, true_and] at hy
  rw [hrun, hk, hy.1]

theorem want_len {bw c : Nat} {G : Slots} {w : World} (h : Want bw c G w) : (Builtin.len_ #[32] 3 #[.map (some bw)]).run Try.prog w = .ok (.int .i64 c) w := by
  obtain ⟨D, hown, hsz, _⟩ := h
  rw [hown.len Try.underlying32 3, hsz]

theorem ownsMap_tight3 {w : World} {m n : Nat} {D : DataW Unit} (h : w.ownsMap Try.prog 9 (plainElem (H := Unit) Try.prog 3) m n D) : w.ownsMap Try.prog 9 (plainElem (H := Unit) Try.prog 3) m (Maps.size D) D := by
  obtain ⟨es, clock, hb, F, hs, hD⟩ := h
  exact ⟨es, clock, hb, F, by rw [hD]; simp [Maps.size, length_sorted], hD⟩

theorem want_has {D : DataW Unit} {k : Lit} {x : Option (Nat ⊕ Int)} (h : WantOk D k x) : Maps.has D k = x.isSome := by
  match x, h with
  | none, h => exact h
  | some (.inr v), ⟨h, _⟩ => exact h

/-- A key that is new. -/
theorem want_put {bw c : Nat} {G : Slots} {w : World} (h : Want bw c G w) (hc : c < 1000) {s : ByteArray} (hs : s.size ≤ 1000) (hg : G (kl s) = none) (v : Int) (hv : (Lit.int .i64 v).wf = true) :
    ∃ w', (Instr.mapUpdate 32 (.map (some bw)) (.string s) (.int .i64 v)).run Try.prog w = .ok () w' ∧ Want bw (c + 1) (upd G (kl s) (some (.inr v))) w' ∧ w.mapTurned w' bw := by
  obtain ⟨D, hown, hsz, hk⟩ := h
  obtain ⟨w', hrun, hown', ht⟩ := hown.store (t := 32) (e := 3) skey Try.underlying32 (by unfold maxLen; omega) (key_kl s hs) (plainElem_int Try.underlying3 hv)
  have hkn := want_has (hk (kl s))
  rw [hg] at hkn
  have e1 : Maps.size (D.put (kl s) (.lit (.int .i64 v))) = c + 1 := by rw [size_put (hown.tidy skey), hkn, hsz]; rfl
  refine ⟨w', hrun, ⟨_, hown', e1, fun k => ?_⟩, ht⟩
  by_cases e : k = kl s
  · subst e
    rw [upd_same]
    exact ⟨has_put_same hown.isMap (iskey s) _, atKey_put_same hown.isMap (iskey s) _ _⟩
  · rw [upd_other _ _ e]
    have h' := hk k
    generalize G k = x at h'
    match x, h' with
    | none, h' => exact (has_put_other e _).trans h'
    | some (.inr u), ⟨h1, h2⟩ => exact ⟨(has_put_other e _).trans h1, (atKey_put_other e _ _).trans h2⟩

theorem want_del {bw c : Nat} {G : Slots} {w : World} (h : Want bw c G w) {s : ByteArray} (hs : s.size ≤ 1000) :
    ∃ w', (Builtin.delete_ #[32, 9] 0 #[.map (some bw), .string s]).run Try.prog w = .ok (.tuple #[]) w' ∧ Want bw (less c (G (kl s))) (upd G (kl s) none) w' ∧ w.mapTurned w' bw := by
  obtain ⟨D, hown, hsz, hk⟩ := h
  obtain ⟨w', hrun, hown', ht⟩ := hown.drop skey (t := 32) (e := 3) Try.underlying32 (key_kl s hs) 0
  have e1 : Maps.size (D.del (kl s)) = less c (G (kl s)) := by
    have e1 := size_del (k := kl s) (hown.tidy skey)
    rw [want_has (hk (kl s)), hsz] at e1
    cases hg : G (kl s) with
    | none => rw [hg] at e1; simpa [less] using e1
    | some y => rw [hg] at e1; simp at e1; simp only [less]; omega
  refine ⟨w', hrun, ⟨_, by rw [← e1]; exact ownsMap_tight3 hown', e1, fun k => ?_⟩, ht⟩
  by_cases e : k = kl s
  · subst e
    rw [upd_same]
    exact has_del_same
  · rw [upd_other _ _ e]
    have h' := hk k
    generalize G k = x at h'
    match x, h' with
    | none, h' => exact (has_del_other e).trans h'
    | some (.inr u), ⟨h1, h2⟩ => exact ⟨(has_del_other e).trans h1, (atKey_del_other e _).trans h2⟩

theorem Want.lt {bw c : Nat} {G : Slots} {w : World} (h : Want bw c G w) : bw < w.heap.size := by
  obtain ⟨D, hown, _⟩ := h
  exact hown.lt

theorem Want.touch {S : Nat → Prop} {bw c : Nat} {G : Slots} {w w' : World} (h : Want bw c G w) (hT : Touch S w w') (hn : ¬ S bw) : Want bw c G w' := by
  have hl := h.lt
  obtain ⟨D, ⟨es, clock, hb, r⟩, h2⟩ := h
  exact ⟨D, ⟨es, clock, (hT.block bw hl hn).trans hb, r⟩, h2⟩

theorem Want.noCell {bw c : Nat} {G : Slots} {w : World} (h : Want bw c G w) (o : Nat) : w.cell? ⟨bw, o, none⟩ = none := by
  obtain ⟨D, ⟨es, clock, hb, _⟩, _⟩ := h
  simp [World.cell?, hb]

theorem Want.not {bw c : Nat} {G : Slots} {w : World} (h : Want bw c G w) {B t : Nat} {mo : Option Nat} {c' : Nat} {G' : Slots} (S : St B t mo c' G' w) (hm : ¬ mo = some bw) : ¬ MS B t mo w bw := by
  obtain ⟨D, R⟩ := S
  rintro ⟨_, e | e | e⟩
  · subst e
    have := R.tab.lk
    rw [h.noCell 0] at this
    cases this
  · exact hm e
  · obtain ⟨d, e⟩ := e.u32
    rw [h.noCell 0] at e
    cases e

theorem Want.moves {X : Nat → Prop} {bw c : Nat} {G : Slots} {w w' : World} (h : Want bw c G w) {B t : Nat} {mo mo' : Option Nat} {c' : Nat} {G' : Slots} (S : St B t mo c' G' w) (m : Moves X B t mo w mo' w') (hm : ¬ mo = some bw) (hX : ¬ X bw) : Want bw c G w' ∧ ¬ mo' = some bw := by
  refine ⟨h.touch m.touch (fun hs => hs.elim (h.not S hm) hX), ?_⟩
  rcases m.map with e | ⟨k, e, hk⟩
  · rw [e]; exact hm
  · rw [e]
    intro e'
    have := h.lt
    have := Option.some.inj e'
    omega

theorem want_made (w : World) : Want w.heap.size 0 (fun _ => none) (w.alloc (.map #[] 0)) :=
  ⟨.map [], World.ownsMap_made w _ _ _, rfl, fun _ => rfl⟩
end Go.Proofs.Ytnhepceannajeaa
