/- A map of texts by numbers, as what is written of each home track: made, looked into, stored into. -/
import Derived.Test.YtmingbgohdhajaaGreatRefD
import Derived.Maps.OwnSet
import Derived.WalkSpells
namespace Go.Proofs.YtmingbgohdhajaaGreat
open Go.RowKit Go.Maps
set_option maxRecDepth 100000

theorem ikey : Keyed Tryz.prog 3 := int_keyed Tryz.underlying3
/-- What a number reads as, as a key. -/
abbrev kn (k : Nat) : Lit := .int .i64 (k : Int)
theorem kn_wf {k : Nat} (h : k ≤ 1000000000) : (kn k).wf = true := by
  have h1 : (k : Int) ≤ 1000000000 := by omega
  have e1 : IntKind.i64.min = -9223372036854775808 := by decide
  have e2 : IntKind.i64.max = 9223372036854775807 := by decide
  simp only [Lit.wf, e1, e2, Bool.and_eq_true, decide_eq_true_eq]
  omega
theorem kn_key {k : Nat} (h : k ≤ 1000000000) : keyOf Tryz.prog 3 (.int .i64 (k : Int)) = some (kn k) := keyOf_int_mk Tryz.underlying3 (kn_wf h)
theorem kn_ne {k j : Nat} (h : k ≠ j) : kn k ≠ kn j := fun e => h (by injection e with _ e; omega)

def TextAt (D : DataW Unit) (k : Nat) : Option (List Nat) → Prop
  | none => Maps.has D (kn k) = false
  | some b => Maps.has D (kn k) = true ∧ D.atKey (kn k) (.lit (.string [])) = .lit (.string (strOf b).data.toList)

/-- Block m is a map that holds just what is written. -/
def RMap (m n : Nat) (ws : Wri) (w : World) : Prop :=
  ∃ D, w.ownsMap Tryz.prog 3 (plainElem (H := Unit) Tryz.prog 9) m n D ∧ ∀ k, TextAt D k (ws.getD k none)

theorem RMap.lt {m n : Nat} {ws : Wri} {w : World} (h : RMap m n ws w) : m < w.heap.size := by
  obtain ⟨D, ho, _⟩ := h
  exact ho.lt
theorem RMap.isMap {m n : Nat} {ws : Wri} {w : World} (h : RMap m n ws w) : ∃ es clock, w.heap[m]? = some (.map es clock) := by
  obtain ⟨D, ⟨es, clock, hb, _⟩, _⟩ := h
  exact ⟨es, clock, hb⟩
theorem RMap.touch {S : Nat → Prop} {m n : Nat} {ws : Wri} {w w' : World} (h : RMap m n ws w) (T : Touch S w w') (hn : ¬ S m) : RMap m n ws w' := by
  have hl := h.lt
  obtain ⟨D, ⟨es, clock, hb, r⟩, h2⟩ := h
  exact ⟨D, ⟨es, clock, (T.block m hl hn).trans hb, r⟩, h2⟩
theorem RMap.old {m n : Nat} {ws : Wri} {w w' : World} (h : RMap m n ws w) (T : Old w w') : RMap m n ws w' := h.touch T (fun q => q)
theorem RMap.more {m n n' : Nat} {ws : Wri} {w : World} (h : RMap m n ws w) (hn : n ≤ n') : RMap m n' ws w := by
  obtain ⟨D, ho, h2⟩ := h
  exact ⟨D, ho.mono hn, h2⟩
theorem RMap.ne {m n : Nat} {ws : Wri} {w : World} (h : RMap m n ws w) {g : Nat} {t : TypeId} {cs : List Value} (hb : Blk w g t cs) : g ≠ m := by
  rintro rfl
  obtain ⟨es, clock, h1⟩ := h.isMap
  unfold Blk at hb
  rw [hb] at h1
  cases h1
theorem RMap.made (w : World) (n : Nat) : RMap w.heap.size 0 (List.replicate n none) (w.alloc (.map #[] 0)) :=
  ⟨.map [], World.ownsMap_made w _ _ _, fun k => by
    have : (List.replicate n (none : Option (List Nat))).getD k none = none := by
      rw [List.getD_eq_getElem?_getD, List.getElem?_replicate]
      split <;> rfl
    rw [this]
    rfl⟩
theorem strOf_of_data {s : ByteArray} {b : List Nat} (h : s.data.toList = (strOf b).data.toList) : s = strOf b := ByteArray.ext (Array.toList_inj.1 h)
theorem zero9 (w : World) : (zeroValue 9).run Tryz.prog w = .ok (.string ⟨#[]⟩) w := Tryz.zeroValue9 w
theorem RMap.hit {m n : Nat} {ws : Wri} {w : World} (h : RMap m n ws w) {k : Nat} (hk : k ≤ 1000000000) {b : List Nat} (hb : ws.getD k none = some b) :
    (Instr.lookup 53 (.map (some m)) (.int .i64 (k : Int)) true).run Tryz.prog w = .ok (.tuple #[.string (strOf b), .bool true]) w := by
  obtain ⟨D, ho, hD⟩ := h
  have hk2 := hD k
  rw [hb] at hk2
  obtain ⟨v, ps, hrun, hv⟩ := ho.look_ok (t := 53) (e := 9) ikey Tryz.underlying53 (zero9 w) (plainElem_string Tryz.underlying9 (by decide)) (kn_key hk)
  have h2 := hk2.2
  rw [h2] at hv
  obtain ⟨s, rfl, hs, _⟩ := plainElem_string_inv Tryz.underlying9 hv
  simp only [Prod.mk.injEq, DataW.lit.injEq, Lit.string.injEq] at hs
  rw [hrun, hk2.1, strOf_of_data hs.1.symm]
theorem RMap.miss {m n : Nat} {ws : Wri} {w : World} (h : RMap m n ws w) {k : Nat} (hk : k ≤ 1000000000) (hb : ws.getD k none = none) :
    (Instr.lookup 53 (.map (some m)) (.int .i64 (k : Int)) true).run Tryz.prog w = .ok (.tuple #[.string ⟨#[]⟩, .bool false]) w := by
  obtain ⟨D, ho, hD⟩ := h
  have hk2 := hD k
  rw [hb] at hk2
  obtain ⟨v, ps, hrun, hv⟩ := ho.look_ok (t := 53) (e := 9) ikey Tryz.underlying53 (zero9 w) (plainElem_string Tryz.underlying9 (by decide)) (kn_key hk)
  rw [atKey_of_not_has hk2] at hv
  obtain ⟨s, rfl, hs, _⟩ := plainElem_string_inv Tryz.underlying9 hv
  simp only [Prod.mk.injEq, DataW.lit.injEq, Lit.string.injEq] at hs
  have hs1 : s = ⟨#[]⟩ := by
    apply ByteArray.ext
    apply Array.toList_inj.1
    exact hs.1.symm
  rw [hrun, hk2, hs1]
theorem RMap.put {m n : Nat} {ws : Wri} {w : World} (h : RMap m n ws w) (hn : n ≤ 1000000) {k : Nat} (hk : k < ws.length) (hk' : k ≤ 1000000000) {b : List Nat} (hb : b.length = 96) :
    ∃ w', (Instr.mapUpdate 53 (.map (some m)) (.int .i64 (k : Int)) (.string (strOf b))).run Tryz.prog w = .ok () w' ∧ RMap m (n + 1) (ws.set k (some b)) w' ∧ Touch (fun g => g = m) w w' := by
  obtain ⟨D, ho, hD⟩ := h
  obtain ⟨w', hrun, ho', ht⟩ := ho.store (t := 53) (e := 9) ikey Tryz.underlying53 (by unfold maxLen; omega) (kn_key hk') (plainElem_string Tryz.underlying9 (by rw [rstr_size, hb]; decide))
  refine ⟨w', hrun, ⟨_, ho', fun j => ?_⟩, Touch.grown ht.grown (fun g hg => by injection hg with hg; exact hg.symm)⟩
  by_cases e : j = k
  · subst e
    have : (ws.set j (some b)).getD j none = some b := getD_of (List.getElem?_set_self hk)
    rw [this]
    exact ⟨has_put_same ho.isMap (ikey.key (kn_key hk')) _, atKey_put_same ho.isMap (ikey.key (kn_key hk')) _ _⟩
  · have : (ws.set k (some b)).getD j none = ws.getD j none := by rw [List.getD_eq_getElem?_getD, List.getD_eq_getElem?_getD, List.getElem?_set_ne (fun q => e q.symm)]
    rw [this]
    have h' := hD j
    generalize ws.getD j none = x at h'
    match x, h' with
    | none, h' => exact (has_put_other (kn_ne e) _).trans h'
    | some u, ⟨h1, h2⟩ => exact ⟨(has_put_other (kn_ne e) _).trans h1, (atKey_put_other (kn_ne e) _ _).trans h2⟩
end Go.Proofs.YtmingbgohdhajaaGreat
