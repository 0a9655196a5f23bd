/- A map of texts by numbers, as records: made, looked into, stored into, dropped from, counted. -/
import Derived.Test.YtjajenkagcdhlaaGreatFiP
import Derived.Maps.OwnSet
import Derived.WalkSpells
import Derived.Lib.ConvBytes
namespace Go.Proofs.YtjajenkagcdhlaaGreat
open Go.RowKit Go.Maps
set_option maxRecDepth 100000

theorem ikey : Keyed Tryz.prog 3 := int_keyed Tryz.underlying3
/-- What a number reads as, as a key. -/
abbrev kn (k : Nat) : Lit := .int .i64 (k : Int)
theorem kn_wf {k : Nat} (h : k ≤ 1000000000) : (kn k).wf = true := by
  have h1 : (k : Int) ≤ 1000000000 := by omega
  have e1 : IntKind.i64.min = -9223372036854775808 := by decide
  have e2 : IntKind.i64.max = 9223372036854775807 := by decide
  simp only [Lit.wf, e1, e2, Bool.and_eq_true, decide_eq_true_eq]
  omega
theorem kn_key {k : Nat} (h : k ≤ 1000000000) : keyOf Tryz.prog 3 (.int .i64 (k : Int)) = some (kn k) := keyOf_int_mk Tryz.underlying3 (kn_wf h)
theorem kn_ne {k j : Nat} (h : k ≠ j) : kn k ≠ kn j := fun e => h (by injection e with _ e; omega)

def TextAt (D : DataW Unit) (k : Nat) : Rec → Prop
  | none => Maps.has D (kn k) = false
  | some b => Maps.has D (kn k) = true ∧ D.atKey (kn k) (.lit (.string [])) = .lit (.string (strOf b).data.toList)

/-- Block m is a map that holds just these records. -/
def VMap (m : Nat) (rs : Recs) (w : World) : Prop :=
  ∃ D, w.ownsMap Tryz.prog 3 (plainElem (H := Unit) Tryz.prog 9) m (Maps.size D) D ∧ Maps.size D = cntR rs ∧ (∀ k, TextAt D k (rs.getD k none)) ∧ rs.length = 41

section
variable {m : Nat} {rs : Recs} {w w' : World}
theorem VMap.lt (h : VMap m rs w) : m < w.heap.size := by
  obtain ⟨D, ho, _⟩ := h
  exact ho.lt
theorem VMap.l41 (h : VMap m rs w) : rs.length = 41 := by
  obtain ⟨D, _, _, _, h⟩ := h
  exact h
theorem VMap.isMap (h : VMap m rs w) : ∃ es clock, w.heap[m]? = some (Obj.map es clock) := by
  obtain ⟨D, ⟨es, clock, hb, _⟩, _⟩ := h
  exact ⟨es, clock, hb⟩
theorem VMap.keep (h : VMap m rs w) (k : ∀ es clock, w.heap[m]? = some (Obj.map es clock) → w'.heap[m]? = some (Obj.map es clock)) : VMap m rs w' := by
  obtain ⟨D, ⟨es, clock, hb, r⟩, h2⟩ := h
  exact ⟨D, ⟨es, clock, k es clock hb, r⟩, h2⟩
theorem VMap.touch {S : Nat → Prop} (h : VMap m rs w) (T : Touch S w w') (hn : ¬ S m) : VMap m rs w' := h.keep fun _ _ hb => (T.block m h.lt hn).trans hb
theorem VMap.old (h : VMap m rs w) (T : Old w w') : VMap m rs w' := h.touch T (fun q => q)
theorem VMap.keptV (h : VMap m rs w) (k : KeptV w w') : VMap m rs w' := h.keep fun es cl hb => k.map m es cl hb
theorem VMap.ne (h : VMap m rs w) {g : Nat} {t : TypeId} {cs : List Value} (hb : Blk w g t cs) : g ≠ m := by
  rintro rfl
  obtain ⟨es, clock, h1⟩ := h.isMap
  unfold Blk at hb
  rw [hb] at h1
  cases h1
theorem cntR_none (n : Nat) : cntR (List.replicate n none) = 0 := by
  induction n with
  | zero => rfl
  | succ n ih => rw [List.replicate_succ]; show 0 + cntR _ = 0; rw [ih]
theorem getD_none41 (k : Nat) : (rs0).getD k none = none := by
  unfold rs0
  rw [List.getD_eq_getElem?_getD, List.getElem?_replicate]
  split <;> rfl
theorem VMap.made (w : World) : VMap w.heap.size rs0 (w.alloc (.map #[] 0)) :=
  ⟨.map [], World.ownsMap_made w _ _ _, cnt0.symm, fun k => by rw [getD_none41]; rfl, rfl⟩
theorem strOf_of_data {s : ByteArray} {b : List Nat} (h : s.data.toList = (strOf b).data.toList) : s = strOf b := ByteArray.ext (Array.toList_inj.1 h)
theorem zero9 (w : World) : (zeroValue 9).run Tryz.prog w = .ok (.string ⟨#[]⟩) w := Tryz.zeroValue9 w
theorem VMap.hit (h : VMap m rs w) {k : Nat} (hk : k ≤ 1000000000) {b : List Nat} (hb : rs.getD k none = some b) :
    (Instr.lookup 29 (.map (some m)) (.int .i64 (k : Int)) true).run Tryz.prog w = .ok (.tuple #[.string (strOf b), .bool true]) w := by
  obtain ⟨D, ho, _, hD, _⟩ := h
  have hk2 := hD k
  rw [hb] at hk2
  obtain ⟨v, ps, hrun, hv⟩ := ho.look_ok (t := 29) (e := 9) ikey Tryz.underlying29 (zero9 w) (plainElem_string Tryz.underlying9 (by decide)) (kn_key hk)
  have h2 := hk2.2
  rw [h2] at hv
  obtain ⟨s, rfl, hs, _⟩ := plainElem_string_inv Tryz.underlying9 hv
  simp only [Prod.mk.injEq, DataW.lit.injEq, Lit.string.injEq] at hs
  rw [hrun, hk2.1, strOf_of_data hs.1.symm]
theorem VMap.miss (h : VMap m rs w) {k : Nat} (hk : k ≤ 1000000000) (hb : rs.getD k none = none) :
    (Instr.lookup 29 (.map (some m)) (.int .i64 (k : Int)) true).run Tryz.prog w = .ok (.tuple #[.string ⟨#[]⟩, .bool false]) w := by
  obtain ⟨D, ho, _, hD, _⟩ := h
  have hk2 := hD k
  rw [hb] at hk2
  obtain ⟨v, ps, hrun, hv⟩ := ho.look_ok (t := 29) (e := 9) ikey Tryz.underlying29 (zero9 w) (plainElem_string Tryz.underlying9 (by decide)) (kn_key hk)
  rw [atKey_of_not_has hk2] at hv
  obtain ⟨s, rfl, hs, _⟩ := plainElem_string_inv Tryz.underlying9 hv
  simp only [Prod.mk.injEq, DataW.lit.injEq, Lit.string.injEq] at hs
  have hs1 : s = ⟨#[]⟩ := by
    apply ByteArray.ext
    apply Array.toList_inj.1
    exact hs.1.symm
  rw [hrun, hk2, hs1]
/-- Either way. -/
theorem VMap.look (h : VMap m rs w) {k : Nat} (hk : k ≤ 1000000000) :
    (Instr.lookup 29 (.map (some m)) (.int .i64 (k : Int)) true).run Tryz.prog w = .ok (.tuple #[.string (strOf (bytesOf (rs.getD k none))), .bool (rs.getD k none).isSome]) w := by
  cases hr : rs.getD k none with
  | none => exact h.miss hk hr
  | some b => exact h.hit hk hr
theorem VMap.len (h : VMap m rs w) (ty : TypeId) : (Builtin.len_ #[29] ty #[.map (some m)]).run Tryz.prog w = .ok (.int .i64 (cntR rs : Int)) w := by
  obtain ⟨D, ho, hs, _⟩ := h
  rw [ho.len Tryz.underlying29 ty, hs]
theorem own_size {D : DataW Unit} {n : Nat} (ho : w.ownsMap Tryz.prog 3 (plainElem (H := Unit) Tryz.prog 9) m n D) : w.ownsMap Tryz.prog 3 (plainElem (H := Unit) Tryz.prog 9) m (Maps.size D) D := by
  obtain ⟨es, clock, hb, F, hs, rfl⟩ := ho
  refine ⟨es, clock, hb, F, ?_, rfl⟩
  have e1 : Maps.size (DataW.map ((es.toList.map (WideElems.rg Tryz.prog 3 (plainElem (H := Unit) Tryz.prog 9))).foldr DataW.insert [])) = es.size := length_read es
  rw [e1]
  exact Nat.le_refl _
theorem cntR_le : ∀ rs : Recs, cntR rs ≤ rs.length
  | [] => Nat.le_refl _
  | r :: rs => by
    have := cntR_le rs
    show (if r.isSome then 1 else 0) + cntR rs ≤ rs.length + 1
    split <;> omega
/-- Stored into, whatever the number. -/
theorem VMap.put0 (h : VMap m rs w) {k : Nat} (hk : k ≤ 1000000000) {b : List Nat} (hb : b.length ≤ 1000000) :
    ∃ w', (Instr.mapUpdate 29 (.map (some m)) (.int .i64 (k : Int)) (.string (strOf b))).run Tryz.prog w = .ok () w' ∧ (k < 41 → VMap m (rs.set k (some b)) w') ∧ Touch (fun g => g = m) w w' := by
  obtain ⟨D, ho, hs, hD, h41⟩ := h
  have hc := cntR_le rs
  have hti := ho.tidy ikey
  obtain ⟨w', hrun, ho', ht⟩ := ho.store (t := 29) (e := 9) ikey Tryz.underlying29 (by unfold maxLen; omega) (kn_key hk) (plainElem_string (s := strOf b) Tryz.underlying9 (by rw [strOf_size]; unfold maxLen; omega))
  refine ⟨w', hrun, fun hlt => ⟨_, own_size ho', ?_, fun j => ?_, by rw [List.length_set]; exact h41⟩, Touch.grown ht.grown (fun g hg => by injection hg with hg; exact hg.symm)⟩
  · obtain ⟨r, hr⟩ := get_of_lt (l := rs) (n := k) (by omega)
    have h1 := cntR_set (some b) hr
    have h2 := hD k
    rw [getD_of hr] at h2
    rw [size_put hti]
    simp only [Option.isSome_some, if_true] at h1
    cases r with
    | none =>
      have h2 : Maps.has D (kn k) = false := h2
      rw [h2]
      simp only [Option.isSome_none, Bool.false_eq_true, if_false] at h1 ⊢
      omega
    | some c =>
      rw [h2.1]
      simp only [Option.isSome_some, if_true] at h1 ⊢
      omega
  · by_cases e : j = k
    · subst e
      have : (rs.set j (some b)).getD j none = some b := getD_of (List.getElem?_set_self (by omega))
      rw [this]
      exact ⟨has_put_same ho.isMap (ikey.key (kn_key hk)) _, atKey_put_same ho.isMap (ikey.key (kn_key hk)) _ _⟩
    · have : (rs.set k (some b)).getD j none = rs.getD j none := by rw [List.getD_eq_getElem?_getD, List.getD_eq_getElem?_getD, List.getElem?_set_ne (fun q => e q.symm)]
      rw [this]
      have h' := hD j
      generalize rs.getD j none = x at h'
      match x, h' with
      | none, h' => exact (has_put_other (kn_ne e) _).trans h'
      | some u, ⟨h1, h2⟩ => exact ⟨(has_put_other (kn_ne e) _).trans h1, (atKey_put_other (kn_ne e) _ _).trans h2⟩
theorem VMap.put (h : VMap m rs w) {k : Nat} (hk : k < 41) {b : List Nat} (hb : b.length ≤ 1000000) :
    ∃ w', (Instr.mapUpdate 29 (.map (some m)) (.int .i64 (k : Int)) (.string (strOf b))).run Tryz.prog w = .ok () w' ∧ VMap m (rs.set k (some b)) w' ∧ Touch (fun g => g = m) w w' := by
  obtain ⟨w', h1, h2, h3⟩ := h.put0 (k := k) (by omega) hb
  exact ⟨w', h1, h2 hk, h3⟩
theorem set_past {k : Nat} (hk : rs.length ≤ k) (r : Rec) : rs.set k r = rs := List.set_eq_of_length_le hk
/-- Dropped from. -/
theorem VMap.drop (h : VMap m rs w) {k : Nat} (hk : k ≤ 1000000000) (ty : TypeId) :
    ∃ w', (Builtin.delete_ #[29, 3] ty #[.map (some m), .int .i64 (k : Int)]).run Tryz.prog w = .ok (.tuple #[]) w' ∧ VMap m (rs.set k none) w' ∧ Touch (fun g => g = m) w w' := by
  obtain ⟨D, ho, hs, hD, h41⟩ := h
  have hti := ho.tidy ikey
  obtain ⟨w', hrun, ho', ht⟩ := ho.drop (t := 29) (e := 9) ikey Tryz.underlying29 (kn_key hk) ty
  refine ⟨w', hrun, ⟨_, own_size ho', ?_, fun j => ?_, by rw [List.length_set]; exact h41⟩, Touch.grown ht.grown (fun g hg => by injection hg with hg; exact hg.symm)⟩
  · have h3 := size_del (k := kn k) hti
    have h2 := hD k
    by_cases hlt : k < 41
    · obtain ⟨r, hr⟩ := get_of_lt (l := rs) (n := k) (by omega)
      have h1 := cntR_set none hr
      rw [getD_of hr] at h2
      simp only [Option.isSome_none, Bool.false_eq_true, if_false] at h1
      cases r with
      | none =>
        have h2 : Maps.has D (kn k) = false := h2
        rw [h2] at h3
        simp only [Option.isSome_none, Bool.false_eq_true, if_false] at h1 h3
        omega
      | some c =>
        rw [h2.1] at h3
        simp only [Option.isSome_some, if_true] at h1 h3
        omega
    · rw [set_past (by omega)]
      have : rs.getD k none = none := by rw [List.getD_eq_getElem?_getD, List.getElem?_eq_none (by omega)]; rfl
      rw [this] at h2
      have h2 : Maps.has D (kn k) = false := h2
      rw [h2] at h3
      simp only [Bool.false_eq_true, if_false] at h3
      omega
  · by_cases e : j = k
    · subst e
      have : (rs.set j none).getD j none = none := by
        rw [List.getD_eq_getElem?_getD, List.getElem?_set]
        split
        · split <;> rfl
        · contradiction
      rw [this]
      exact has_del_same
    · have : (rs.set k none).getD j none = rs.getD j none := by rw [List.getD_eq_getElem?_getD, List.getD_eq_getElem?_getD, List.getElem?_set_ne (fun q => e q.symm)]
      rw [this]
      have h' := hD j
      generalize rs.getD j none = x at h'
      match x, h' with
      | none, h' => exact (has_del_other (kn_ne e)).trans h'
      | some u, ⟨h1, h2⟩ => exact ⟨(has_del_other (kn_ne e)).trans h1, (atKey_del_other (kn_ne e) _).trans h2⟩
end
end Go.Proofs.YtjajenkagcdhlaaGreat
/- Acts that came in; lariathand.Pick and Few; the law's bytes of an act. -/
namespace Go.Proofs.YtjajenkagcdhlaaGreat
open Go.RowKit
set_option maxRecDepth 100000

/-- An act as it was handed in. -/
structure ActR where
  what : Int
  id : Int
  n : Int
  torn : Int
  cut : Int
  ba : Option Addr
  bl : Nat
  bc : Nat
  bs : List Nat
  ka : Option Addr
  kl : Nat
  kc : Nat
  ks : List Int
/-- What its slices hold. -/
structure ActIn (w : World) (r : ActR) : Prop where
  fid : Fits r.id
  fn : Fits r.n
  has : Has w r.ba r.bs
  blen : r.bs.length = r.bl
  bcap : r.bl ≤ r.bc
  keep : HasI w r.ka r.ks
  klen : r.ks.length = r.kl
  bsm : r.bl ≤ 140737488351232
  ksm : r.kl ≤ 140737488351232
structure ActC (w : World) (b off : Nat) (r : ActR) : Prop where
  c0 : w.cell? ⟨b, off, none⟩ = some (.int .i64 r.what)
  c1 : w.cell? ⟨b, off + 1, none⟩ = some (.int .i64 r.id)
  c2 : w.cell? ⟨b, off + 2, none⟩ = some (.int .i64 r.n)
  c3 : w.cell? ⟨b, off + 3, none⟩ = some (.int .i64 r.torn)
  c4 : w.cell? ⟨b, off + 4, none⟩ = some (.int .i64 r.cut)
  c5 : w.cell? ⟨b, off + 5, none⟩ = some (.slice r.ba r.bl r.bc)
  c6 : w.cell? ⟨b, off + 6, none⟩ = some (.slice r.ka r.kl r.kc)
theorem ActC.old {w w' : World} {b off : Nat} {r : ActR} (h : ActC w b off r) (m : Old w w') : ActC w' b off r := by
  have hb := lt_of_cell? h.c0
  have c : ∀ o, w'.cell? ⟨b, o, none⟩ = w.cell? ⟨b, o, none⟩ := fun o => m.cell (p := ⟨b, o, none⟩) hb (fun q => q)
  exact ⟨(c _).trans h.c0, (c _).trans h.c1, (c _).trans h.c2, (c _).trans h.c3, (c _).trans h.c4, (c _).trans h.c5, (c _).trans h.c6⟩
theorem ActIn.old {w w' : World} {r : ActR} (h : ActIn w r) (m : Old w w') : ActIn w' r := ⟨h.fid, h.fn, h.has.old m, h.blen, h.bcap, h.keep.old m, h.klen, h.bsm, h.ksm⟩
/-- The slice whose cells begin at a has n acts. -/
def HasA (w : World) (a : Option Addr) (n : Nat) : Prop := ∀ i, i < n → ∃ b off r, a = some ⟨b, off, none⟩ ∧ ActC w b (off + i * 7) r ∧ ActIn w r
theorem HasA.old {w w' : World} {a : Option Addr} {n : Nat} (h : HasA w a n) (m : Old w w') : HasA w' a n := fun i hi => by
  obtain ⟨b, off, r, e, ht, hk⟩ := h i hi
  exact ⟨b, off, r, e, ht.old m, hk.old m⟩

/-- Any number as one of 0 to m - 1. -/
def pickN (n m : Int) : Nat := (n % m).toNat
theorem pickN_lt {n m : Int} (h : 0 < m) : (pickN n m : Int) < m := by
  have h1 := Int.emod_lt_of_pos n h
  have h2 := Int.emod_nonneg n (show m ≠ 0 by omega)
  unfold pickN
  omega
theorem emod_tmod {n m : Int} (h : 0 < m) : n % m = if n.tmod m < 0 then n.tmod m + m else n.tmod m := by
  have h1 : n.tmod m < m := Int.tmod_lt_of_pos n h
  have h2 : -m < n.tmod m := by
    have := Int.tmod_lt_of_pos (-n) h
    rw [Int.neg_tmod] at this
    omega
  have h3 : n % m = (n.tmod m) % m := by
    conv => lhs; rw [← Int.mul_tdiv_add_tmod n m]
    rw [Int.mul_add_emod_self_left]
  rw [h3]
  split
  · rw [← Int.add_emod_right]
    exact Int.emod_eq_of_lt (by omega) (by omega)
  · exact Int.emod_eq_of_lt (by omega) (by omega)
theorem pick_at (n m : Int) (hm0 : 0 < m) (hm1 : m ≤ 100000) (w : World) : Calls Tryz.prog 11 #[.int .i64 n, .int .i64 m] w fun e w' => e = .returned (.int .i64 (pickN n m : Int)) ∧ w = w' := by
  have h1 : n.tmod m < m := Int.tmod_lt_of_pos n hm0
  have h2 : -m < n.tmod m := by
    have := Int.tmod_lt_of_pos (-n) hm0
    rw [Int.neg_tmod] at this
    omega
  have hz : ¬ m = 0 := by omega
  have he := emod_tmod (n := n) hm0
  have hp : (pickN n m : Int) = n % m := Int.toNat_of_nonneg (Int.emod_nonneg n (by omega))
  have Hp := Lib.hid hp
  have He := Lib.hid he
  clear hp he
  by_cases hneg : n.tmod m < 0
  · go_enter Tryz.func11, Tryz.ntmps11
    go_wp2
    go_ret
    refine ⟨?_, rfl⟩
    rw [Hp.out, He.out, if_pos hneg]
    rfl
  · go_enter Tryz.func11, Tryz.ntmps11
    go_wp2
    go_ret
    refine ⟨?_, rfl⟩
    rw [Hp.out, He.out, if_neg (by omega)]
    rfl
/-- At most so many bytes, in new memory. -/
theorem few_any (a : Option Addr) (xs : List Nat) (len cap n : Nat) (w : World) (h : Has w a xs) (hlen : xs.length = len) (hlc : len ≤ cap) (hm : len ≤ 140737488355328) (_hn : n ≤ 1000) :
    Calls Tryz.prog 51 #[.slice a len cap, .int .i64 (n : Int)] w fun y w' => ∃ g c, y = .returned (.slice (some ⟨g, 0, none⟩) (xs.take n).length c) ∧ w.heap.size ≤ g ∧ Grows w' g c (xs.take n) ∧ Old w w' := by
  obtain ⟨m, hmin⟩ : ∃ m, min len n = m := ⟨_, rfl⟩
  have hml : m ≤ len := by omega
  have hmi : min (len : Int) (n : Int) = (m : Int) := by omega
  have j0 : (0 : Int) ≤ (m : Int) := by omega
  have j1 : (m : Int) ≤ (cap : Int) := by omega
  have hT : (xs.take n).length = m := by rw [List.length_take, hlen]; omega
  obtain ⟨g, c, w1, hr, hg, G, T⟩ := append_new w a (xs.take n) m cap (h.take n) hT (by omega)
  have HG := Lib.hid G
  have HT := Lib.hid T
  have HTl := Lib.hid hT
  clear h G T hT
  go_enter Tryz.func51, Tryz.ntmps51
  go_wp2_with (first | (at_builtin; refine wpList_append_run rfl _ _ 30 30 rfl _ _ rfl rfl _ _ (hr _) ?_))
  go_ret
  exact ⟨g, c, by rw [HTl.out]; rfl, hg, HG.out, HT.out⟩

/-- A byte of the law's own. -/
def lawByte (n : Nat) (id : Int) : Nat := (wrap64 ((n : Int) * id) % 256).toNat
theorem lawByte_is (n : Nat) (id : Int) : wrap64 ((n : Int) * id) % 256 = (lawByte n id : Int) := by
  unfold lawByte
  omega
theorem lawByte_lt (n : Nat) (id : Int) : lawByte n id < 256 := by
  unfold lawByte
  omega
def growB (id : Int) (xs : List Nat) : Nat → List Nat
  | 0 => xs
  | k + 1 => growB id xs k ++ [lawByte (xs.length + k) id]
theorem growB_length (id : Int) (xs : List Nat) : ∀ k, (growB id xs k).length = xs.length + k
  | 0 => rfl
  | k + 1 => by
    show (growB id xs k ++ [_]).length = _
    rw [List.length_append, growB_length id xs k]
    rfl
theorem growB_byte {id : Int} {xs : List Nat} (h : ∀ x ∈ xs, x < 256) : ∀ k, ∀ x ∈ growB id xs k, x < 256
  | 0, x, hx => h x hx
  | k + 1, x, hx => by
    rcases List.mem_append.1 hx with q | q
    · exact growB_byte h k x q
    · rw [List.mem_singleton.1 q]
      exact lawByte_lt _ _
/-- How many bytes there are at least. -/
def wantN (n : Int) : Nat := pickN n 4 * pickN (n.tdiv 4) 120
theorem wantN_le (n : Int) : wantN n ≤ 357 := by
  have h1 := pickN_lt (n := n) (m := 4) (by decide)
  have h2 := pickN_lt (n := n.tdiv 4) (m := 120) (by decide)
  have : pickN n 4 * pickN (n.tdiv 4) 120 ≤ 3 * 119 := Nat.mul_le_mul (by omega) (by omega)
  unfold wantN
  omega
def bytesM (id n : Int) (b : List Nat) : List Nat := growB id (b.take 60) (wantN n - (b.take 60).length)
theorem bytesM_length (id n : Int) (b : List Nat) : (bytesM id n b).length ≤ 500 := by
  have h1 := wantN_le n
  have h2 : (b.take 60).length ≤ 60 := by rw [List.length_take]; omega
  unfold bytesM
  rw [growB_length]
  omega
theorem bytesM_byte {id n : Int} {b : List Nat} (h : ∀ x ∈ b, x < 256) : ∀ x ∈ bytesM id n b, x < 256 := growB_byte (fun x hx => h x (List.mem_of_mem_take hx)) _
set_option maxHeartbeats 3200000 in
theorem bytes_any (what id n torn cut : Int) (pB : Option Addr) (B : List Nat) (lB cB : Nat) (pK : Option Addr) (lK cK : Nat) (w : World) (hf : Fits n) (hB : Has w pB B) (hl : B.length = lB) (hc : lB ≤ cB) (hm : lB ≤ 140737488351232) :
    Calls Tryz.prog 18 #[.agg #[.int .i64 what, .int .i64 id, .int .i64 n, .int .i64 torn, .int .i64 cut, .slice pB lB cB, .slice pK lK cK]] w fun y w' =>
      ∃ a c, y = .returned (.slice a (bytesM id n B).length c) ∧ (bytesM id n B).length ≤ c ∧ Has w' a (bytesM id n B) ∧ Old w w' := by
  have HP1 := Lib.hid (pick_at n 4 (by decide) (by decide))
  have HP2 := Lib.hid (pick_at (n.tdiv 4) 120 (by decide) (by decide))
  have ha : -4 * n.natAbs ≤ 4 * n.tdiv 4 ∧ 4 * n.tdiv 4 ≤ 4 * n.natAbs := by
    have h1 : (n.tdiv 4).natAbs = n.natAbs / 4 := Int.natAbs_tdiv n 4
    have h2 : n.natAbs / 4 ≤ n.natAbs := Nat.div_le_self _ _
    omega
  have hd : IntKind.i64.wrap (n.tdiv 4) = n.tdiv 4 := wrap_fits (by
    obtain ⟨q1, q2⟩ := hf
    have h1 : (n.tdiv 4).natAbs = n.natAbs / 4 := Int.natAbs_tdiv n 4
    exact ⟨by omega, by omega⟩)
  have hwn := wantN_le n
  have hmul : IntKind.i64.wrap ((pickN n 4 : Int) * (pickN (n.tdiv 4) 120 : Int)) = (wantN n : Int) := by
    have e : (pickN n 4 : Int) * (pickN (n.tdiv 4) 120 : Int) = (wantN n : Int) := by unfold wantN; rw [Int.natCast_mul]
    rw [e]
    exact wrap_fits ⟨by omega, by omega⟩
  clear ha hf
  obtain ⟨X, hX⟩ : ∃ X, B.take 60 = X := ⟨_, rfl⟩
  obtain ⟨l0, hl0⟩ : ∃ l0, X.length = l0 := ⟨_, rfl⟩
  have hl60 : l0 ≤ 60 := by rw [← hl0, ← hX, List.length_take]; omega
  obtain ⟨T, hT⟩ : ∃ T, wantN n = T := ⟨_, rfl⟩
  have hM : bytesM id n B = growB id X (T - l0) := by unfold bytesM; rw [hX, hl0, hT]
  rw [hM]
  rw [hT] at hwn hmul
  clear hT
  obtain ⟨bx, hbx⟩ : ∃ bx : World, w.alloc (.cells #[.int .i64 what, .int .i64 id, .int .i64 n, .int .i64 torn, .int .i64 cut, .slice pB lB cB, .slice pK lK cK] 33) = bx := ⟨_, rfl⟩
  have O1 : Old w bx := by rw [← hbx]; exact (Touch.refl _ w).alloc _
  have HF : Hid (Calls Tryz.prog 51 #[.slice pB lB cB, .int .i64 60] bx fun y w' => ∃ g c, y = .returned (.slice (some ⟨g, 0, none⟩) l0 c) ∧ bx.heap.size ≤ g ∧ Grows w' g c X ∧ Old bx w') := by
    have := few_any pB B lB cB 60 bx (hB.old O1) hl hc (by omega) (by decide)
    rw [hX, hl0] at this
    exact this
  have K1 : Blk bx w.heap.size 33 [.int .i64 what, .int .i64 id, .int .i64 n, .int .i64 torn, .int .i64 cut, .slice pB lB cB, .slice pK lK cK] := by rw [← hbx]; exact Blk.new w _ _
  have HK1 := Lib.hid K1
  have HO1 := Lib.hid O1
  have HL0 := Lib.hid hl0
  clear O1 hB hl hc hm K1 hX hM hl0
  go_enter Tryz.func18, Tryz.ntmps18
  go_upto_region 1 with fail
  generalize w.heap.size = g0 at *
  clear hbx
  have c1 := HK1.out.cell 1
  have c2 := HK1.out.cell 2
  have c5 := HK1.out.cell 5
  go_upto_region 2 with (first
    | ((with_reducible refine HF.out.mono ?_); rintro y w1 ⟨g, c, rfl, hg, G1, O1⟩
       have HG1 := Lib.hid G1
       have HO1' := Lib.hid O1
       clear G1 O1))
  have K1 := HK1.out.touch HO1'.out (fun q => q)
  have d1 := K1.cell 1
  have d2 := K1.cell 2
  clear K1 c1 c2 c5 HF
  have HQ1 : Hid (∀ w, Calls Tryz.prog 11 #[.int .i64 n, .int .i64 4] w fun e w' => e = .returned (.int .i64 (pickN n 4 : Int)) ∧ w' = w) := fun w => (HP1.out w).mono fun _ _ ⟨x, y⟩ => ⟨x, y.symm⟩
  have HQ2 : Hid (∀ w, Calls Tryz.prog 11 #[.int .i64 (n.tdiv 4), .int .i64 120] w fun e w' => e = .returned (.int .i64 (pickN (n.tdiv 4) 120 : Int)) ∧ w' = w) := fun w => (HP2.out w).mono fun _ _ ⟨x, y⟩ => ⟨x, y.symm⟩
  clear HP1 HP2
  go_quiet (first
    | (go_at_call_of 11 (Value.int .i64 4); with_reducible refine Calls.quiet_of_same (HQ1.out _))
    | (go_at_call_of 11 (Value.int .i64 120); refine Calls.quiet_of_same (HQ2.out _)))
  go_wp2_with fail
  have OD : Old bx (w1.drewN nq) := HO1'.out.drewN nq
  have H0 : Hid (Mine (w1.drewN nq) bx.heap.size (.slice (some ⟨g, 0, none⟩) l0 c) (growB id X 0) ∧ Old bx (w1.drewN nq)) := ⟨.inr ⟨g, c, by rw [show (growB id X 0).length = l0 from HL0.out], hg, HG1.out.old (Touch.drewN (Touch.refl _ w1) nq)⟩, OD⟩
  clear HQ1 HQ2 hd hmul d1 d2 OD HG1
  generalize w1.drewN nq = w2 at *
  go_loopw [3] (fun v wx => ∃ k : Nat, (k = 0 ∨ l0 + k ≤ T) ∧ Hid (Mine wx bx.heap.size v (growB id X k) ∧ Old bx wx)) (fun v _ => T - sliceLen v)
  case atStart => exact ⟨0, .inl rfl, H0⟩
  case round =>
    obtain ⟨k, hk, HM⟩ := hrel
    clear H0
    have hlen : (growB id X k).length = l0 + k := by rw [growB_length, HL0.out]
    obtain ⟨l, hl⟩ : ∃ l, l0 + k = l := ⟨_, rfl⟩
    rw [hl] at hk
    have HLn : Hid ((growB id X k).length = l) := hlen.trans hl
    by_cases hlt : l < T
    · have HB' : Hid (bx.heap.size ≤ wr.heap.size) := HM.out.2.size
      obtain ⟨v', w', hap, P⟩ := mine_more wr bx.heap.size u3 _ (lawByte l id) HM.out.1 HB'.out (lawByte_lt _ _) (by rw [HLn.out]; omega)
      have O' : Old bx w' := mineI_old HM.out.2 (fun k hk => (HM.out.1.lt k hk).1) P.touch
      have HN : Hid (Mine w' bx.heap.size v' (growB id X (k + 1)) ∧ Old bx w') := ⟨by
        have e : growB id X (k + 1) = growB id X k ++ [lawByte l id] := by show growB id X k ++ [lawByte (X.length + k) id] = _; rw [HL0.out, hl]
        rw [e]
        exact P.mine, O'⟩
      obtain ⟨av, cv, hv, hcv, Hh⟩ := HM.out.1.form
      rw [HLn.out] at hv
      subst hv
      have Kx := HK1.out.touch HM.out.2 (fun q => q)
      have d1 := Kx.cell 1
      have hby := lawByte_is l id
      have i1 : (l : Int) < (T : Int) := by omega
      have HLl := Lib.hid hl
      clear Hh P O' Kx HM hlen hl
      go_wp2_with (first | (at_builtin; refine wpList_append_run rfl _ _ 30 30 rfl _ _ rfl rfl _ _ (hap _) ?_))
      have hs : sliceLen v' = l + 1 := by
        obtain ⟨a, c, e, _⟩ := HN.out.1.form
        rw [e]
        show (growB id X (k + 1)).length = _
        rw [growB_length, HL0.out]
        have := HLl.out
        omega
      exact ⟨⟨k + 1, .inr (by have := HLl.out; omega), HN⟩, by rw [hs]; show _ < T - l; omega⟩
    · obtain ⟨av, cv, hv, hcv, Hh⟩ := HM.out.1.form
      rw [HLn.out] at hv
      subst hv
      have i1 : ¬ (l : Int) < (T : Int) := by omega
      have hkT : k = T - l0 := by omega
      have HN : Hid (∃ a c, (Ending.returned (.slice av l cv)) = .returned (.slice a (growB id X (T - l0)).length c) ∧ (growB id X (T - l0)).length ≤ c ∧ Has wr a (growB id X (T - l0)) ∧ Old w wr) := by
        rw [← hkT]
        exact ⟨av, cv, by rw [HLn.out], hcv, Hh, HO1.out.trans HM.out.2⟩
      clear Hh HM hlen hl hkT hcv
      go_wp2_with fail
      go_ret
      exact HN.out
end Go.Proofs.YtjajenkagcdhlaaGreat
/- The law's copied and sum. -/
namespace Go.Proofs.YtjajenkagcdhlaaGreat
open Go.RowKit
set_option maxRecDepth 100000

theorem sumT_append : ∀ a b : Recs, sumT (a ++ b) = sumT a + sumT b
  | [], b => by simp [sumT]
  | x :: a, b => by
    show takesR x + sumT (a ++ b) = takesR x + sumT a + sumT b
    rw [sumT_append a b]
    omega
theorem getD_some {rs : Recs} {k : Nat} {b : List Nat} (h : rs.getD k none = some b) : rs[k]? = some (some b) := by
  rw [List.getD_eq_getElem?_getD] at h
  cases hq : rs[k]? with
  | none => rw [hq] at h; cases h
  | some x => rw [hq] at h; exact congrArg some h
theorem recs_ext {a b : Recs} (ha : a.length = b.length) (h : ∀ k, k < a.length → a.getD k none = b.getD k none) : a = b := by
  apply List.ext_getElem ha
  intro i h1 h2
  have := h i h1
  rw [List.getD_eq_getElem?_getD, List.getD_eq_getElem?_getD, List.getElem?_eq_getElem h1, List.getElem?_eq_getElem h2] at this
  exact this
theorem RsOk.get0 {rs : Recs} (r : RsOk rs) : rs.getD 0 none = none := getD_of r.zero
theorem getD_set {rs : Recs} {k j : Nat} {r : Rec} (hk : k < rs.length) : (rs.set k r).getD j none = if j = k then r else rs.getD j none := by
  split
  · rename_i e
    subst e
    exact getD_of (List.getElem?_set_self hk)
  · rename_i e
    rw [List.getD_eq_getElem?_getD, List.getD_eq_getElem?_getD, List.getElem?_set_ne (fun q => e q.symm)]
/-- Copied below k. -/
structure CopyTo (mo k : Nat) (rs : Recs) (w wx : World) : Prop where
  ex : ∃ rs', VMap mo rs' wx ∧ (∀ j, j < k → rs'.getD j none = rs.getD j none) ∧ (∀ j, k ≤ j → rs'.getD j none = none)
  old : Old w wx
set_option maxHeartbeats 3200000 in
theorem copied_any {m : Nat} {rs : Recs} (w : World) (hM : VMap m rs w) (ok : RsOk rs) : Calls Tryz.prog 14 #[.map (some m)] w fun y w' => ∃ mo, y = .returned (.map (some mo)) ∧ w.heap.size ≤ mo ∧ VMap mo rs w' ∧ Old w w' := by
  have HM := Lib.hid hM
  have HK := Lib.hid ok
  have O1 : Old w (w.alloc (.map #[] 0)) := (Touch.refl _ _).alloc _
  have H0 : Hid (CopyTo w.heap.size 1 rs w (w.alloc (.map #[] 0))) := ⟨⟨rs0, VMap.made w, fun j hj => by
    obtain rfl : j = 0 := by omega
    rw [ok.get0, getD_none41], fun j _ => getD_none41 j⟩, O1⟩
  clear hM ok O1
  have hmm := @run_makeMap Tryz.prog
  go_enter Tryz.func14, Tryz.ntmps14
  go_wp2_with fail
  clear hmm
  obtain ⟨mo, hmo⟩ : ∃ mo, w.heap.size = mo := ⟨_, rfl⟩
  have HMo := Lib.hid hmo
  rw [hmo] at H0 ⊢
  clear hmo
  go_loopw [4, 5, 6] (fun kv _ _ wx => ∃ k : Nat, 1 ≤ k ∧ k ≤ 41 ∧ kv = .int .i64 (k : Int) ∧ Hid (CopyTo mo k rs w wx)) (fun kv _ _ _ => 41 - (intOf kv).toNat)
  case atStart => exact ⟨1, by omega, by omega, rfl, H0⟩
  case round =>
    obtain ⟨k, hk1, hk41, rfl, HC⟩ := hrel
    clear H0
    by_cases hlt : k < 41
    · have i1 : (k : Int) ≤ 40 := by omega
      have hlo := (HM.out.old HC.out.old).look (k := k) (by omega)
      have hwk : IntKind.i64.wrap ((k : Int) + 1) = (k : Int) + 1 := wrap_fits ⟨by omega, by omega⟩
      cases hr : rs.getD k none with
      | none =>
        rw [hr] at hlo
        simp only [Option.isSome_none] at hlo
        have HN : Hid (CopyTo mo (k + 1) rs w wr) := by
          obtain ⟨⟨rs', h1, h2, h3⟩, h4⟩ := HC.out
          refine ⟨⟨rs', h1, fun j hj => ?_, fun j hj => h3 j (by omega)⟩, h4⟩
          by_cases e : j = k
          · subst e
            rw [h3 j (Nat.le_refl _), hr]
          · exact h2 j (by omega)
        clear hr HC
        go_wp2_with fail
        exact ⟨⟨k + 1, by omega, by omega, by go_num, HN⟩, by simp [intOf]; omega⟩
      | some b =>
        rw [hr] at hlo
        simp only [Option.isSome_some] at hlo
        have hb := (HK.out.ok k b (getD_some hr)).2
        obtain ⟨rs', h1, h2, h3⟩ := HC.out.ex
        obtain ⟨w2, hput, M2, T2⟩ := h1.put (k := k) hlt (b := b) (by omega)
        have HN : Hid (CopyTo mo (k + 1) rs w w2) := by
          have h41 := h1.l41
          refine ⟨⟨_, M2, fun j hj => ?_, fun j hj => ?_⟩, HC.out.old.own T2 (by rw [HMo.out]; exact Nat.le_refl _)⟩
          · rw [getD_set (by omega)]
            split
            · rename_i e
              subst e
              exact hr.symm
            · exact h2 j (by omega)
          · rw [getD_set (by omega), if_neg (by omega)]
            exact h3 j (by omega)
        have e : bytesOf (some b) = b := rfl
        rw [e] at hlo
        clear hr HC h1 h2 h3 M2 T2 hb e
        go_wp2_with fail
        exact ⟨⟨k + 1, by omega, by omega, by go_num, HN⟩, by simp [intOf]; omega⟩
    · obtain rfl : k = 41 := by omega
      rw [show ((41 : Nat) : Int) = 41 from rfl]
      have HN : Hid (VMap mo rs wr ∧ Old w wr) := by
        obtain ⟨⟨rs', h1, h2, h3⟩, h4⟩ := HC.out
        have e : rs' = rs := recs_ext (by rw [h1.l41, HK.out.r41]) fun j hj => h2 j (by rw [h1.l41] at hj; exact hj)
        rw [e] at h1
        exact ⟨h1, h4⟩
      clear HC
      go_wp2_with fail
      go_ret
      exact ⟨mo, rfl, by rw [HMo.out]; exact Nat.le_refl _, HN.out.1, HN.out.2⟩
theorem sumT_le : ∀ {rs : Recs}, (∀ r ∈ rs, takesR r ≤ 751) → sumT rs ≤ 751 * rs.length
  | [], _ => Nat.le_refl _
  | r :: rs, h => by
    have h1 := sumT_le (rs := rs) fun x hx => h x (List.mem_cons_of_mem _ hx)
    have h2 := h r List.mem_cons_self
    show takesR r + sumT rs ≤ 751 * (rs.length + 1)
    omega
theorem RsOk.takes {rs : Recs} (ok : RsOk rs) : ∀ r ∈ rs, takesR r ≤ 751 := fun r hr => by
  obtain ⟨i, hi⟩ := List.getElem?_of_mem hr
  cases r with
  | none => exact Nat.zero_le _
  | some b =>
    have := (ok.ok i b hi).2
    show takesN b.length ≤ 751
    unfold takesN
    omega
theorem RsOk.sum_le {rs : Recs} (ok : RsOk rs) (k : Nat) (hk : k ≤ 41) : sumT (rs.take k) ≤ 40000 := by
  have h1 := sumT_le (rs := rs.take k) fun r hr => ok.takes r (List.mem_of_mem_take hr)
  have h2 : (rs.take k).length ≤ 41 := by rw [List.length_take]; omega
  omega
set_option maxHeartbeats 3200000 in
theorem sum_any {m : Nat} {rs : Recs} (w : World) (hM : VMap m rs w) (ok : RsOk rs) : Calls Tryz.prog 19 #[.map (some m)] w fun y w' => y = .returned (.int .i64 ((1 + sumT rs : Nat) : Int)) ∧ w = w' := by
  have HM := Lib.hid hM
  have HK := Lib.hid ok
  have H0 : Hid (sumT (rs.take 1) = 0) := by
    have := ok.zero
    rw [take_get this, List.take_zero]
    rfl
  clear hM ok
  go_enter Tryz.func19, Tryz.ntmps19
  go_wp2_with fail
  go_loopw [3, 4, 5, 6] (fun nv kv _ _ wx => ∃ k n : Nat, 1 ≤ k ∧ k ≤ 41 ∧ kv = .int .i64 (k : Int) ∧ nv = .int .i64 (n : Int) ∧ Hid (n = 1 + sumT (rs.take k)) ∧ wx = w) (fun _ kv _ _ _ => 41 - (intOf kv).toNat)
  case atStart => exact ⟨1, 1, by omega, by omega, rfl, rfl, (by rw [H0.out]; rfl : Hid (1 = 1 + sumT (rs.take 1))), rfl⟩
  case round =>
    obtain ⟨k, n, hk1, hk41, rfl, rfl, HN, rfl⟩ := hrel
    clear H0
    by_cases hlt : k < 41
    · have i1 : (k : Int) ≤ 40 := by omega
      have hlo := HM.out.look (k := k) (by omega)
      have hwk : IntKind.i64.wrap ((k : Int) + 1) = (k : Int) + 1 := wrap_fits ⟨by omega, by omega⟩
      obtain ⟨r, hr⟩ := get_of_lt (l := rs) (n := k) (by rw [HK.out.r41]; omega)
      have hsum := HK.out.sum_le k (by omega)
      have hsum2 := HK.out.sum_le (k + 1) (by omega)
      rw [take_get hr, sumT_append] at hsum2
      have hone : sumT [r] = takesR r := by show takesR r + 0 = _; rw [Nat.add_zero]
      rw [hone] at hsum2
      have HS : Hid (∀ q, n = 1 + sumT (rs.take k) → q = n + takesR r → q = 1 + sumT (rs.take (k + 1))) := fun q h1 h2 => by
        rw [take_get hr, sumT_append, hone]
        omega
      have hn : n + takesR r ≤ 50000 := by rw [HN.out]; omega
      rw [getD_of hr] at hlo
      have Hr := Lib.hid hr
      clear hsum hsum2 hone hr
      cases r with
      | none =>
        simp only [Option.isSome_none] at hlo
        have HN2 : Hid (n = 1 + sumT (rs.take (k + 1))) := HS.out n HN.out rfl
        clear HN HS hn
        go_wp2_with fail
        exact ⟨⟨k + 1, n, by omega, by omega, by go_num, rfl, HN2, trivial⟩, by simp [intOf]; omega⟩
      | some b =>
        simp only [Option.isSome_some] at hlo
        have e : bytesOf (some b) = b := rfl
        rw [e] at hlo
        have hsz := strOf_size b
        have HN2 : Hid (n + takesN b.length = 1 + sumT (rs.take (k + 1))) := HS.out _ HN.out rfl
        have hn2 : n + takesN b.length ≤ 50000 := hn
        have hbl := (HK.out.ok k b Hr.out).2
        have hmx : max 1 (((b.length : Int) + 79) / 80) = (takesN b.length : Int) := by unfold takesN; omega
        generalize takesN b.length = t at *
        generalize b.length = l at *
        generalize strOf b = s at *
        subst hsz
        have hw1 : IntKind.i64.wrap ((s.size : Int) + 79) = (s.size : Int) + 79 := wrap_fits ⟨by omega, by omega⟩
        have hw2 : IntKind.i64.wrap ((n : Int) + (t : Int)) = (n : Int) + (t : Int) := wrap_fits ⟨by omega, by omega⟩
        clear HN HS hn e hbl
        go_wp2_with fail
        exact ⟨⟨k + 1, n + t, by omega, by omega, by go_num, by go_num, HN2, trivial⟩, by simp [intOf]; omega⟩
    · obtain rfl : k = 41 := by omega
      rw [show ((41 : Nat) : Int) = 41 from rfl]
      have hn : Hid (n = 1 + sumT rs) := by
        have := HN.out
        rw [List.take_of_length_le (by rw [HK.out.r41]; exact Nat.le_refl _)] at this
        exact this
      clear HN
      go_wp2_with fail
      go_ret
      exact ⟨by rw [hn.out]; rfl, rfl⟩
end Go.Proofs.YtjajenkagcdhlaaGreat
/- The law's is: are a vault's records just these. -/
namespace Go.Proofs.YtjajenkagcdhlaaGreat
open Go.RowKit
set_option maxRecDepth 100000

theorem ids_rising {rs : Recs} {t i j k l : Nat} (h : i < j) (hi : (idsTo rs t)[i]? = some k) (hj : (idsTo rs t)[j]? = some l) : k < l := by
  have hp : (idsTo rs t).Pairwise (· < ·) := List.Pairwise.filter _ List.pairwise_lt_range
  obtain ⟨h1, rfl⟩ := List.getElem?_eq_some_iff.1 hi
  obtain ⟨h2, rfl⟩ := List.getElem?_eq_some_iff.1 hj
  exact List.pairwise_iff_getElem.1 hp i j h1 h2 h
def takeIds (rs : Recs) (ids : List Nat) : Nat := (ids.map fun k => takesR (rs.getD k none)).sum
theorem takeIds_append (rs : Recs) (a b : List Nat) : takeIds rs (a ++ b) = takeIds rs a + takeIds rs b := by simp [takeIds]
theorem takeIds_one (rs : Recs) (k : Nat) : takeIds rs [k] = takesR (rs.getD k none) := by simp [takeIds]
theorem takeIds_to (rs : Recs) : ∀ t, t ≤ rs.length → takeIds rs (idsTo rs t) = sumT (rs.take t)
  | 0, _ => rfl
  | t + 1, h => by
    obtain ⟨r, hr⟩ := get_of_lt (l := rs) (n := t) (by omega)
    rw [idsTo_next, takeIds_append, takeIds_to rs t (by omega), take_get hr, sumT_append, getD_of hr]
    congr 1
    cases r with
    | none => rfl
    | some b =>
      show takeIds rs [t] = takesR (some b) + 0
      rw [takeIds_one, getD_of hr, Nat.add_zero]
theorem takeIds_all {rs : Recs} (h : rs.length = 41) : takeIds rs (idsTo rs 41) = sumT rs := by
  rw [takeIds_to rs 41 (by omega), List.take_of_length_le (by omega)]
theorem sum_take_le (rs : Recs) (ids : List Nat) (i : Nat) : takeIds rs (ids.take i) ≤ takeIds rs ids := by
  have := takeIds_append rs (ids.take i) (ids.drop i)
  rw [List.take_append_drop] at this
  omega
theorem dom_eq : ∀ {rs m : Recs}, rs.length = m.length → (∀ (k : Nat) b, rs[k]? = some (some b) → m[k]? = some (some b)) → cntR rs ≤ cntR m ∧ (cntR rs = cntR m → rs = m)
  | [], [], _, _ => ⟨Nat.le_refl _, fun _ => rfl⟩
  | [], _ :: _, h, _ => by simp at h
  | _ :: _, [], h, _ => by simp at h
  | r :: rs, x :: m, h, hd => by
    obtain ⟨h1, h2⟩ := dom_eq (rs := rs) (m := m) (by simpa using h) fun k b hk => by simpa using hd (k + 1) b (by simpa using hk)
    have h0 : ∀ b, r = some b → x = some b := fun b e => by
      have := hd 0 b (by rw [e]; rfl)
      simpa using this
    cases r with
    | none =>
      cases x with
      | none =>
        have e1 : cntR ((none : Rec) :: rs) = cntR rs := by show 0 + cntR rs = _; omega
        have e2 : cntR ((none : Rec) :: m) = cntR m := by show 0 + cntR m = _; omega
        rw [e1, e2]
        exact ⟨h1, fun q => by rw [h2 q]⟩
      | some c =>
        have e1 : cntR ((none : Rec) :: rs) = cntR rs := by show 0 + cntR rs = _; omega
        have e2 : cntR ((some c : Rec) :: m) = 1 + cntR m := rfl
        rw [e1, e2]
        exact ⟨by omega, fun q => by omega⟩
    | some b =>
      rw [h0 b rfl]
      have e1 : cntR ((some b : Rec) :: rs) = 1 + cntR rs := rfl
      have e2 : cntR ((some b : Rec) :: m) = 1 + cntR m := rfl
      rw [e1, e2]
      exact ⟨by omega, fun q => by rw [h2 (by omega)]⟩
/-- What is found of a record that there is. -/
theorem ids_rec {rs : Recs} (ok : RsOk rs) {k : Nat} (h : k ∈ idsTo rs 41) : ∃ b, rs[k]? = some (some b) ∧ 1 ≤ k ∧ k ≤ 40 := by
  obtain ⟨h41, hs⟩ := idsTo_mem h
  obtain ⟨r, hr⟩ := get_of_lt (l := rs) (n := k) (by rw [ok.r41]; exact h41)
  rw [getD_of hr] at hs
  cases r with
  | none => cases hs
  | some b =>
    refine ⟨b, hr, ?_, by omega⟩
    rcases Nat.eq_zero_or_pos k with e | e
    · subst e
      rw [ok.zero] at hr
      injection hr with hr
      cases hr
    · exact e
theorem mem_ids {rs : Recs} {k : Nat} (hk : k < 41) {b : List Nat} (h : rs[k]? = some (some b)) : k ∈ idsTo rs 41 := by
  unfold idsTo
  rw [List.mem_filter]
  exact ⟨List.mem_range.2 hk, by rw [getD_of h]; rfl⟩

section
variable {w0 w w' : World} {vp lp d x l h t : Nat} {q : Bool} {P : Hom → Prop} {N : Hom} {rs rk m : Recs} {a : Places}
theorem Vt.ids (f : Vt w0 vp lp d x l h t q P N rs rk a w) : Calls Tryz.prog 31 #[.pointer (some ⟨vp, 0, none⟩)] w fun y w' => ∃ p c, y = .returned (.slice p (cntR rs) c) ∧ cntR rs ≤ c ∧ Its w' p (idsTo rs 41) ∧ Old w w' := by
  refine (vids_any f.mem).mono ?_
  rintro y w' ⟨v, rfl, M, O⟩
  obtain ⟨p, c, rfl, hc, I, _⟩ := mineI_its M
  have hl := idsTo_all f.mem.rok.r41
  rw [hl] at hc ⊢
  exact ⟨p, c, rfl, hc, I, O⟩
theorem wrap_fits' {x y : Int} (e : x = y) (h : Fits y) : IntKind.i64.wrap x = y := by rw [e]; exact wrap_fits h
/-- The first i numbers' records are the same. -/
def SameTo (rs m : Recs) (i : Nat) : Prop := ∀ j k, j < i → (idsTo rs 41)[j]? = some k → m.getD k none = rs.getD k none
set_option maxHeartbeats 6400000 in
theorem is_any {mp : Nat} (V : Vt w0 vp lp d x l h t q P N rs rk a w) (M : VMap mp m w) (ok : RsOk m) :
    Calls Tryz.prog 22 #[.pointer (some ⟨vp, 0, none⟩), .map (some mp)] w fun y w' => ∃ c, y = .returned (.bool c) ∧ (c = true ↔ rs = m) ∧ Old w w' := by
  have HV := Lib.hid V
  have HM := Lib.hid M
  have HK := Lib.hid ok
  have HRk := Lib.hid V.mem.rok
  have HId := Lib.hid V.ids
  have hfit := V.mem.fit
  have hh60 := V.hh
  clear V M ok
  go_enter Tryz.func22, Tryz.ntmps22
  go_wp2_with (first | ((with_reducible refine HId.out.mono ?_); rintro y w1 ⟨p, c, rfl, hc, Ii, O1⟩
                        have HIi := Lib.hid Ii
                        have HO1 := Lib.hid O1
                        clear Ii O1))
  obtain ⟨n, hn⟩ : ∃ n, cntR rs = n := ⟨_, rfl⟩
  have HN := Lib.hid hn
  rw [hn] at hc ⊢
  clear hn HId
  have hn41 : n ≤ 41 := by
    have h1 := cntR_le rs
    rw [HN.out, HRk.out.r41] at h1
    exact h1
  have HT0 : Hid (1 = 1 + takeIds rs ((idsTo rs 41).take 0)) := rfl
  have HS0 : Hid (SameTo rs m 0) := fun j k hj => absurd hj (Nat.not_lt_zero _)
  go_loopw [18, 6, 7, 8, 9, 10, 11] (fun iv tv _ _ _ _ _ wx => ∃ i t : Nat, iv = .int .i64 (i : Int) ∧ i ≤ n ∧ tv = .int .i64 (t : Int) ∧ Hid (t = 1 + takeIds rs ((idsTo rs 41).take i)) ∧ Hid (SameTo rs m i) ∧ Hid (Old w wx) ∧ Hid (Its wx p (idsTo rs 41))) (fun iv _ _ _ _ _ _ _ => 41 - (intOf iv).toNat)
  case atStart => exact ⟨0, 1, rfl, Nat.zero_le _, rfl, HT0, HS0, HO1, HIi⟩
  case round =>
    obtain ⟨i, t, rfl, hin, rfl, HT, HS, HO, HI⟩ := hrel
    clear HT0 HS0 HO1 HIi
    have hlen : Hid ((idsTo rs 41).length = n) := by show _ = _; rw [idsTo_all HRk.out.r41]; exact HN.out
    have htl : t ≤ 61 := by
      have h1 := sum_take_le rs (idsTo rs 41) i
      rw [takeIds_all HRk.out.r41] at h1
      have h2 := HT.out
      omega
    by_cases hlt : i < n
    · have i1 : (i : Int) < (n : Int) := by omega
      have i0 : (0 : Int) ≤ (i : Int) := by omega
      obtain ⟨k, hidk⟩ := get_of_lt (l := idsTo rs 41) (n := i) (by rw [hlen.out]; exact hlt)
      obtain ⟨b, hrk, k1, k40⟩ := ids_rec HRk.out (mem_of_get hidk)
      have hbl := (HRk.out.ok k b hrk)
      have HG : Hid (Calls Tryz.prog 32 #[.pointer (some ⟨vp, 0, none⟩), .int .i64 (k : Int)] wr fun y w' => ∃ p c, y = .returned (.tuple #[.slice p b.length c, .bool true]) ∧ b.length ≤ c ∧ Byt w' p b ∧ (∀ g o, p = some ⟨g, o, none⟩ → wr.heap.size ≤ g) ∧ Old wr w') := vget_any (HV.out.old HO.out).mem k k1 k40 (some b) hrk
      obtain ⟨bi, oi, rfl, hci⟩ := HI.out.cell hidk
      go_upto_region 7 with (first
        | ((with_reducible refine HG.out.mono ?_); rintro y w2 ⟨pb, cb, rfl, hcb, B2, _, O2⟩
           have HB2 := Lib.hid B2
           have HO2 := Lib.hid O2
           clear B2 O2 HG))
      have hci2 := (HO2.out.cell (p := ⟨bi, oi + i, none⟩) (lt_of_cell? hci) (fun q => q)).trans hci
      have hlo := (HM.out.old (HO.out.trans HO2.out)).look (k := k) (by omega)
      have hst := str_any w2 pb b b.length cb HB2.out.has rfl
      have Hrk := Lib.hid hrk
      have Hidk := Lib.hid hidk
      clear hci hrk hidk
      cases hmk : m.getD k none with
      | none =>
        rw [hmk] at hlo
        simp only [Option.isSome_none] at hlo
        have HF : Hid (Old w w2 ∧ ¬ rs = m) := ⟨HO.out.trans HO2.out, fun e => by
          rw [← e, getD_of Hrk.out] at hmk
          cases hmk⟩
        clear hmk hst
        go_upto_region 8 with fail
        go_quiet (fail)
        go_wp2_with fail
        go_ret
        exact ⟨false, rfl, ⟨fun e => (by cases e), fun e => absurd e HF.out.2⟩, HF.out.1.drewN nq⟩
      | some u =>
        rw [hmk] at hlo
        simp only [Option.isSome_some] at hlo
        have eu : bytesOf (some u) = u := rfl
        rw [eu] at hlo
        clear eu
        have hst : ∀ nd, (convert 30 9 (.slice pb b.length cb)).run Tryz.prog (w2.drewN nd) = .ok (.string (strOf b)) (w2.drewN nd) := fun nd => str_any (w2.drewN nd) pb b b.length cb (HB2.out.has.old ((Touch.refl _ w2).drewN nd)) rfl
        have hub := (HK.out.ok k u (getD_some hmk)).1
        have hcmp := str_beq hbl.1 hub
        have HS2 : Hid (b = u → SameTo rs m (i + 1)) := fun e j l hj hl => by
          by_cases e2 : j = i
          · subst e2
            rw [Hidk.out] at hl
            injection hl with hl
            subst hl
            rw [hmk, getD_of Hrk.out, e]
          · exact HS.out j l (by omega) hl
        have Htk : Hid (takeIds rs ((idsTo rs 41).take (i + 1)) = takeIds rs ((idsTo rs 41).take i) + takesN b.length) := by
          show _ = _
          rw [take_get Hidk.out, takeIds_append, takeIds_one, getD_of Hrk.out]
          rfl
        have hsum := sum_take_le rs (idsTo rs 41) (i + 1)
        rw [takeIds_all HRk.out.r41, Htk.out] at hsum
        have htk : t + takesN b.length ≤ 61 := by have := HT.out; omega
        have HTk := Lib.hid (takes_any b.length (by omega))
        have HT2 : Hid (t + takesN b.length = 1 + takeIds rs ((idsTo rs 41).take (i + 1))) := by
          show _ = _
          rw [Htk.out, HT.out]
          omega
        have hwt : IntKind.i64.wrap ((t : Int) + (takesN b.length : Int)) = (t : Int) + (takesN b.length : Int) := wrap_fits ⟨by omega, by omega⟩
        have hwi : IntKind.i64.wrap ((i : Int) + 1) = (i : Int) + 1 := wrap_fits ⟨by omega, by omega⟩
        clear hsum Htk HT HS
        go_upto_region 8 with fail
        by_cases hbu : b = u
        · subst hbu
          have hcmp2 : ((strOf b).toList == (strOf b).toList) = true := by rw [hcmp]; exact decide_eq_true rfl
          have HSn := Lib.hid (HS2.out rfl)
          have HO3 : Hid (∀ nd, Old w (w2.drewN nd)) := fun nd => (HO.out.trans HO2.out).drewN nd
          have HI3 : Hid (∀ nd, Its (w2.drewN nd) (some ⟨bi, oi, none⟩) (idsTo rs 41)) := fun nd => HI.out.old (HO2.out.drewN nd)
          clear hcmp HS2 hmk
          by_cases hi0 : i = 0
          · subst hi0
            go_quiet (fail)
            go_wp2_with (first | ((with_reducible refine (HTk.out _).mono ?_); rintro y w' ⟨rfl, rfl⟩))
            exact ⟨⟨1, t + takesN b.length, rfl, hlt, by go_num, HT2, HSn, HO3.out nq, HI3.out nq⟩, by simp [intOf]⟩
          · obtain ⟨j, hij⟩ : ∃ j, i = j + 1 := ⟨i - 1, by omega⟩
            obtain ⟨l, hidl⟩ := get_of_lt (l := idsTo rs 41) (n := j) (by rw [hlen.out]; omega)
            have hlk : l < k := ids_rising (by omega) hidl Hidk.out
            have hcj : w2.cell? ⟨bi, oi + j, none⟩ = some (.int .i64 (l : Int)) := by
              obtain ⟨b', o', e, hc'⟩ := (HI.out.old HO2.out).cell hidl
              cases e
              exact hc'
            have hwj : IntKind.i64.wrap ((i : Int) - 1) = (j : Int) := by rw [hij]; exact wrap_fits' (by omega) ⟨by omega, by omega⟩
            have g1 : (0 : Int) < (i : Int) := by omega
            have g0 : 0 < i := by omega
            have g01 : decide ((0 : Int) < (i : Int)) = true := decide_eq_true g1
            have g02 : decide (0 < i) = true := decide_eq_true g0
            have g2 : (0 : Int) ≤ (j : Int) := by omega
            have g3 : (j : Int) < (n : Int) := by omega
            have g4 : ¬ (k : Int) ≤ (l : Int) := by omega
            have g5 : decide ((k : Int) ≤ (l : Int)) = false := decide_eq_false g4
            have hciN : ∀ nd, (w2.drewN nd).cell? ⟨bi, oi + i, none⟩ = some (.int .i64 (k : Int)) := fun nd => hci2
            have hcjN : ∀ nd, (w2.drewN nd).cell? ⟨bi, oi + j, none⟩ = some (.int .i64 (l : Int)) := fun nd => hcj
            clear hidl hlk hij
            go_quiet (fail)
            go_wp2_with (first | ((with_reducible refine (HTk.out _).mono ?_); rintro y w' ⟨rfl, rfl⟩))
            exact ⟨⟨i + 1, t + takesN b.length, by go_num, hlt, by go_num, HT2, HSn, HO3.out nq, HI3.out nq⟩, by simp [intOf]; omega⟩
        · have HF : Hid (Old w w2 ∧ ¬ rs = m) := ⟨HO.out.trans HO2.out, fun e => by
            rw [← e, getD_of Hrk.out] at hmk
            injection hmk with hmk
            exact hbu hmk⟩
          rw [decide_eq_false hbu] at hcmp
          go_quiet (fail)
          go_wp2_with fail
          go_ret
          exact ⟨false, rfl, ⟨fun e => (by cases e), fun e => absurd e HF.out.2⟩, HF.out.1.drewN nq⟩
    · obtain rfl : i = n := by omega
      have i1 : ¬ (i : Int) < (i : Int) := by omega
      have HT1 : Hid (t = 1 + sumT rs) := by
        have h1 := HT.out
        rw [List.take_of_length_le (by rw [hlen.out]; exact Nat.le_refl _), takeIds_all HRk.out.r41] at h1
        exact h1
      have HA : Hid (∀ (k : Nat) b, rs[k]? = some (some b) → m[k]? = some (some b)) := fun k b hk => by
        have hk41 : k < 41 := by have := lt_of_get hk; rw [HRk.out.r41] at this; exact this
        obtain ⟨j, hj⟩ := List.getElem?_of_mem (mem_ids hk41 hk)
        have := HS.out j k (by have := lt_of_get hj; rw [hlen.out] at this; exact this) hj
        rw [getD_of hk] at this
        exact getD_some this
      have hdom := dom_eq (by rw [HRk.out.r41, HK.out.r41]) HA.out
      rw [HN.out] at hdom
      have hlenm := fun ty => (HM.out.old HO.out).len ty
      have HGe : Hid (Calls Tryz.prog 32 #[.pointer (some ⟨vp, 0, none⟩), .int .i64 41] wr fun y w' => y = .returned (.tuple #[.slice none 0 0, .bool false]) ∧ wr = w') := vget_no (some ⟨vp, 0, none⟩) wr 41 rfl (by intro e; cases e)
      have HFr := Lib.hid (vfree_any (HV.out.old HO.out).mem)
      have HTr := Lib.hid ((HV.out.old HO.out).tracks)
      have HRes : Hid (∀ c : Bool, (c = true ↔ i = cntR m) → (c = true ↔ rs = m)) := fun c hc => by
        rw [hc]
        constructor
        · exact fun e => hdom.2 e
        · intro e
          rw [← e]
          exact HN.out.symm
      have HOw := Lib.hid HO.out
      clear HT HS HI hdom HA
      have hfr2 : ((h - 1 - sumT rs : Nat) : Int) = (h : Int) - (t : Int) := by have := HT1.out; omega
      have hwh : IntKind.i64.wrap ((h : Int) - (t : Int)) = (h : Int) - (t : Int) := wrap_fits ⟨by omega, by omega⟩
      rw [hfr2] at HFr
      generalize cntR m = n2 at *
      by_cases hcm : i = n2
      · subst hcm
        clear hfr2 HT1
        go_wp2_with (first
          | ((with_reducible refine HGe.out.mono ?_); rintro y w' ⟨rfl, rfl⟩)
          | ((with_reducible refine HFr.out.mono ?_); rintro y w' ⟨rfl, rfl⟩)
          | ((with_reducible refine HTr.out.mono ?_); rintro y w' ⟨rfl, rfl⟩))
        go_ret
        exact ⟨true, rfl, HRes.out true (by simp), HOw.out⟩
      · have hcm2 : ((i : Int) == (n2 : Int)) = false := by simp only [beq_eq_false_iff_ne]; omega
        have hcm3 : ¬ (i : Int) = (n2 : Int) := by omega
        have HRf : Hid (false = true ↔ rs = m) := HRes.out false ⟨fun e => (by cases e), fun e => absurd e hcm⟩
        clear hfr2 HT1 HRes
        go_wp2_with (first
          | ((with_reducible refine HGe.out.mono ?_); rintro y w' ⟨rfl, rfl⟩)
          | ((with_reducible refine HFr.out.mono ?_); rintro y w' ⟨rfl, rfl⟩)
          | ((with_reducible refine HTr.out.mono ?_); rintro y w' ⟨rfl, rfl⟩))
        go_ret
        exact ⟨false, rfl, HRf.out, HOw.out⟩
end
end Go.Proofs.YtjajenkagcdhlaaGreat
/- A map beside a law's vault; how many turns a drum took; the bytes of a text; an act's cells. -/
namespace Go.Proofs.YtjajenkagcdhlaaGreat
open Go.RowKit
set_option maxRecDepth 100000

section
variable {w w' : World} {m : Nat}
/-- Only the map m is turned. -/
structure MapTurn (m : Nat) (w w' : World) : Prop where
  is : ∃ es clock, w.heap[m]? = some (Obj.map es clock)
  t : Touch (fun g => g = m) w w'
theorem MapTurn.blk (T : MapTurn m w w') {g : Nat} {t : TypeId} {cs : List Value} (h : Blk w g t cs) : Blk w' g t cs := h.touch T.t fun e => by
  obtain ⟨es, cl, h1⟩ := T.is
  have e : g = m := e
  subst e
  unfold Blk at h
  rw [h] at h1
  cases h1
theorem St.map {w0 : Fr} {d : Nat} {b : Bl} {D : DS} (h : St w0 d b D w) (T : MapTurn m w w') (hn : w0.w.heap.size ≤ m) : St w0 d b D w' :=
  ⟨h.dr.touch T.t (fun k hk e => h.dr.foot_cells hk (by rw [show k = m from e]; exact T.is)), h.old.own T.t hn, h.new, fun p hp => ⟨T.blk (h.aside p hp).1, (h.aside p hp).2⟩⟩
theorem LAt.map {w0 : Fr} {lp d g : Nat} {b : Bl} {L : LS} (h : LAt w0 lp d b g L w) (T : MapTurn m w w') (hn : w0.w.heap.size ≤ m) : LAt w0 lp d b g L w' :=
  ⟨h.st.map T hn, T.blk h.head, h.wri.keep (fun _ _ hb => T.blk hb) (fun _ hb => T.blk hb), h.nl, h.ng⟩
theorem Sail.map {w0 : Fr} {lp d l h t : Nat} {q : Bool} {P : Hom → Prop} {N : Hom} (A : Sail w0 lp d l h t q P N w) (T : MapTurn m w w') (hn : w0.w.heap.size ≤ m) : Sail w0 lp d l h t q P N w' := by
  obtain ⟨g, b, L, r, H, fs, gs, h1, h2⟩ := A
  exact ⟨g, b, L, r, H, fs, gs, h1.map T hn, h2⟩
theorem Sunk.map {w0 : Fr} {d l h t : Nat} {P : Hom → Prop} (A : Sunk w0 d l h t P w) (T : MapTurn m w w') (hn : w0.w.heap.size ≤ m) : Sunk w0 d l h t P w' := by
  obtain ⟨b, D, h1, h2⟩ := A
  exact ⟨b, D, h1.map T hn, h2⟩
theorem VM.map {vp lp x h : Nat} {rs rk : Recs} {a : Places} (A : VM w vp lp x h rs rk a) (T : MapTurn m w w') : VM w' vp lp x h rs rk a := A.kept (fun _ _ _ _ _ hb => T.blk hb) (fun hb => T.blk hb)
theorem Vt.map {w0 : World} {vp lp d x l h t : Nat} {q : Bool} {P : Hom → Prop} {N : Hom} {rs rk : Recs} {a : Places} (v : Vt w0 vp lp d x l h t q P N rs rk a w) (T : MapTurn m w w') (hn : w0.heap.size ≤ m) : Vt w0 vp lp d x l h t q P N rs rk a w' :=
  ⟨v.sail.map T hn, v.mem.map T, v.holds, v.nv, v.nx, v.hh, v.hl⟩
theorem VMap.turn {rs : Recs} (h : VMap m rs w) (T : Touch (fun g => g = m) w w') : MapTurn m w w' := ⟨h.isMap, T⟩
theorem VMap.aside {m2 : Nat} {rs : Recs} (h : VMap m2 rs w) (T : MapTurn m w w') (hn : m2 ≠ m) : VMap m2 rs w' := h.touch T.t hn
/-- The vault's own memory turns, a map doesn't. -/
theorem VMap.put_ {w0 : World} {vp lp d x l h t : Nat} {q : Bool} {P : Hom → Prop} {N : Hom} {rs rk ms : Recs} {a : Places} (M : VMap m ms w) (v : Vt w0 vp lp d x l h t q P N rs rk a w) (T : Touch (fun i => i = vp ∨ i = x) w w') : VMap m ms w' := by
  obtain ⟨vs, hb⟩ := v.mem.blk
  refine M.touch T fun e => ?_
  rcases e with e | e
  · exact M.ne hb e.symm
  · exact M.ne v.sail.bq e.symm
theorem old_put {w0 : World} {vp lp d x l h t : Nat} {q : Bool} {P : Hom → Prop} {N : Hom} {rs rk : Recs} {a : Places} (v : Vt w0 vp lp d x l h t q P N rs rk a w) (o : Old w0 w) (T : Touch (fun i => i = vp ∨ i = x) w w') : Old w0 w' :=
  Touch.onto o T fun k hk => by
    rcases hk with rfl | rfl
    · exact v.nv
    · exact v.nx
end
/-- How many turns the drum at d took. -/
def TurnsAt (d T : Nat) (w : World) : Prop := ∃ b n, Blk w d 100 (head b n T)
theorem Vt.turnsAt {w0 w : World} {vp lp d x l h t : Nat} {q : Bool} {P : Hom → Prop} {N : Hom} {rs rk : Recs} {a : Places} (v : Vt w0 vp lp d x l h t q P N rs rk a w) : ∃ T, TurnsAt d T w := by
  obtain ⟨g, b, L, r, H, fs, gs, h1, h2⟩ := v.sail
  exact ⟨_, b, _, h1.st.dr.at_.head⟩
theorem TurnsAt.old {d T : Nat} {w w' : World} (h : TurnsAt d T w) (o : Old w w') : TurnsAt d T w' := by
  obtain ⟨b, n, h⟩ := h
  exact ⟨b, n, h.touch o (fun q => q)⟩
theorem TurnsAt.map {d T m : Nat} {w w' : World} (h : TurnsAt d T w) (o : MapTurn m w w') : TurnsAt d T w' := by
  obtain ⟨b, n, h⟩ := h
  exact ⟨b, n, o.blk h⟩
theorem TurnsAt.put_ {T : Nat} {w w' : World} {w0 : World} {vp lp d x l h t d' : Nat} {q : Bool} {P : Hom → Prop} {N : Hom} {rs rk : Recs} {a : Places} (M : TurnsAt d' T w) (v : Vt w0 vp lp d x l h t q P N rs rk a w) (O : Touch (fun i => i = vp ∨ i = x) w w') : TurnsAt d' T w' := by
  obtain ⟨vs, hb⟩ := v.mem.blk
  obtain ⟨b, n, M⟩ := M
  refine ⟨b, n, M.touch O fun e => ?_⟩
  rcases e with e | e
  · exact M.ne hb (by decide) e
  · exact M.ne v.sail.bq (by decide) e
theorem TurnsAt.turns {d T : Nat} {w : World} (h : TurnsAt d T w) : Calls Tryz.prog 35 #[.pointer (some ⟨d, 0, none⟩)] w fun e w' => e = .returned (.int .i64 (T : Int)) ∧ w = w' := by
  obtain ⟨b, n, h⟩ := h
  have Hc : Hid (w.cell? ⟨d, 3, none⟩ = some (.int .i64 (T : Int))) := h.cell 3
  have HL : Hid (Calls Tryz.prog 62 #[.pointer (some ⟨d, 3, none⟩)] w fun e w' => e = .returned (.int .i64 (T : Int)) ∧ w = w') := by
    clear h
    show Calls _ _ _ _ _
    go_enter Tryz.func62, Tryz.ntmps62
    go_wp2_with fail
    refine (int_load d 3 (T : Int) _ Hc.out).mono ?_
    rintro e w' ⟨rfl, rfl⟩
    go_wp2_with fail
    go_ret
    exact ⟨rfl, rfl⟩
  clear h Hc
  go_enter Tryz.func35, Tryz.ntmps35
  go_wp2_with fail
  refine HL.out.mono ?_
  rintro e w' ⟨rfl, rfl⟩
  go_wp2_with fail
  go_ret
  exact ⟨rfl, rfl⟩
/-- '[]byte(s)'. -/
theorem bytesCells_eq (w : World) (xs : List Nat) (hb : ∀ x ∈ xs, x < 256) : ∃ rest : List Value, Lib.bytesCells w 5 (strOf xs) = (cells xs ++ rest).toArray := by
  refine ⟨List.replicate (grownCap w (strOf xs).size 0 5 - (strOf xs).size) (.int .u8 0), ?_⟩
  apply Array.ext'
  unfold Lib.bytesCells
  have e : (strOf xs).data.toList.map (fun b => Value.int .u8 (b.toNat : Int)) = cells xs := by
    rw [strOf_data]
    unfold cells
    rw [List.map_map]
    apply List.map_congr_left
    intro x hx
    have := hb x hx
    simp
    omega
  rw [Array.toList_append, Array.toList_map, Array.toList_replicate, e]
theorem bytes_of (w : World) (xs : List Nat) (hb : ∀ x ∈ xs, x < 256) : ∃ c w', (convert 9 30 (.string (strOf xs))).run Tryz.prog w = .ok (.slice (some ⟨w.heap.size, 0, none⟩) xs.length c) w' ∧ xs.length ≤ c ∧ Has w' (some ⟨w.heap.size, 0, none⟩) xs ∧ Old w w' := by
  have hr := Lib.run_convert_string_bytes (P := Tryz.prog) w 9 30 5 (strOf xs) Tryz.underlying9 Tryz.underlying30 Tryz.underlying5
  rw [strOf_size] at hr
  obtain ⟨rest, he⟩ := bytesCells_eq w xs hb
  have hge := grownCap_ge w xs.length 0 5
  refine ⟨_, _, hr, by omega, ⟨hb, fun i hi => ⟨w.heap.size, 0, rfl, ?_⟩⟩, ?_⟩
  · rw [Nat.zero_add]
    have h1 := Lib.bytesWorld_at_new w 5 (strOf xs)
    rw [he] at h1
    rw [cell_of_row _ _ i _ 5 _ h1]
    simp [List.getElem?_append_left (show i < (cells xs).length by rw [cells_length]; exact hi)]
    exact cells_get xs i hi
  · exact ⟨rfl, rfl, rfl, by rw [Lib.bytesWorld_size]; omega, fun k hk _ => Lib.bytesWorld_at_old w 5 _ k hk⟩
end Go.Proofs.YtjajenkagcdhlaaGreat
