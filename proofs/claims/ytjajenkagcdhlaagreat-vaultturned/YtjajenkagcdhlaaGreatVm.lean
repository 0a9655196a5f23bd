/- A vault in memory: records and places as rows of cells; laws for values of many cells. -/
import Derived.Test.YtjajenkagcdhlaaGreatBud
import Derived.Deep.MidRow
namespace Go.Proofs.YtjajenkagcdhlaaGreat
open Go.RowKit
set_option maxRecDepth 100000

/-- The slice at p has these numbers; its block is one of numbers. -/
structure Its (w : World) (p : Option Addr) (ks : List Nat) : Prop where
  has : HasI w p (ks.map fun (x : Nat) => (x : Int))
  blk : ∀ g o, p = some ⟨g, o, none⟩ → ∃ cs, Blk w g 3 cs
theorem Its.nil (w : World) : Its w none [] := ⟨HasI.nil _ _, fun _ _ e => by cases e⟩
theorem Its.keep {w w' : World} {p : Option Addr} {ks : List Nat} (h : Its w p ks) (m : ∀ g cs, Blk w g 3 cs → Blk w' g 3 cs) : Its w' p ks := by
  refine ⟨⟨fun i hi => ?_⟩, fun g o e => ?_⟩
  · obtain ⟨b, off, e, hc⟩ := h.has.cell i hi
    obtain ⟨cs, hb⟩ := h.blk b off e
    exact ⟨b, off, e, by rw [(m b cs hb).cell, ← hb.cell]; exact hc⟩
  · obtain ⟨cs, hb⟩ := h.blk g o e
    exact ⟨cs, m g cs hb⟩
theorem Its.old {w w' : World} {p : Option Addr} {ks : List Nat} (h : Its w p ks) (m : Old w w') : Its w' p ks := h.keep fun _ _ hb => hb.touch m (fun q => q)
theorem Its.keptL {w w' : World} {p : Option Addr} {ks : List Nat} (h : Its w p ks) (m : KeptL w w') : Its w' p ks := h.keep fun g cs hb => m.blk 3 g cs (by unfold otherL other; decide) hb
theorem Its.take {w : World} {p : Option Addr} {ks : List Nat} (h : Its w p ks) (n : Nat) : Its w p (ks.take n) := by
  refine ⟨⟨fun i hi => ?_⟩, h.blk⟩
  simp only [List.length_map, List.length_take] at hi
  obtain ⟨b, off, e, hc⟩ := h.has.cell i (by simp; omega)
  refine ⟨b, off, e, ?_⟩
  rw [hc]
  have hik : i < ks.length := by omega
  simp [List.getD_eq_getElem?_getD, List.getElem?_take_of_lt (show i < n by omega)]
theorem Its.cell {w : World} {p : Option Addr} {ks : List Nat} (h : Its w p ks) {i k : Nat} (hk : ks[i]? = some k) : ∃ b off, p = some ⟨b, off, none⟩ ∧ w.cell? ⟨b, off + i, none⟩ = some (.int .i64 (k : Int)) := by
  obtain ⟨b, off, e, hc⟩ := h.has.cell i (by have := lt_of_get hk; simpa using this)
  refine ⟨b, off, e, ?_⟩
  rw [hc]
  simp [List.getD_eq_getElem?_getD, hk]
/-- What stands behind the first n. -/
theorem Its.drop {w : World} {b off : Nat} {ks : List Nat} (h : Its w (some ⟨b, off, none⟩) ks) (n : Nat) : Its w (some ⟨b, off + n, none⟩) (ks.drop n) := by
  refine ⟨⟨fun i hi => ?_⟩, fun g o e => by cases e; exact h.blk b off rfl⟩
  simp only [List.length_map, List.length_drop] at hi
  have hik : n + i < ks.length := by omega
  obtain ⟨b', off', e, hc⟩ := h.cell (i := n + i) (List.getElem?_eq_getElem hik)
  cases e
  refine ⟨b, off + n, rfl, ?_⟩
  rw [Nat.add_assoc, hc]
  simp [List.getD_eq_getElem?_getD, List.getElem?_drop, List.getElem?_eq_getElem hik]
theorem Its.lt {w : World} {p : Option Addr} {ks : List Nat} (h : Its w p ks) : ∀ g o, p = some ⟨g, o, none⟩ → g < w.heap.size := fun g o e => by
  obtain ⟨cs, hb⟩ := h.blk g o e
  exact hb.lt
theorem mineI_its {w : World} {B : Nat} {v : Value} {ks : List Nat} (h : MineI w B v (ks.map fun (x : Nat) => (x : Int))) : ∃ a c, v = .slice a ks.length c ∧ ks.length ≤ c ∧ Its w a ks ∧ (∀ g o, a = some ⟨g, o, none⟩ → B ≤ g) := by
  have h' := h
  obtain ⟨hl, ⟨rfl, h0⟩ | ⟨g, cap, cur, rfl, hb, hg, h1, h2, h3, h4⟩⟩ := h'
  · have : ks = [] := List.eq_nil_of_length_eq_zero (by simpa using h0)
    subst this
    exact ⟨none, 0, rfl, Nat.le_refl _, Its.nil w, fun g o e => by cases e⟩
  · obtain ⟨a, c, e, hI⟩ := h.form
    rw [List.length_map] at h1 e ⊢
    injection e with e1 e2 e3
    subst e1 e3
    exact ⟨_, _, rfl, h1, ⟨hI, fun g' o q => by cases q; exact ⟨cur.toList, by unfold Blk; rw [hg]⟩⟩, fun g' o q => by cases q; exact hb⟩

/-- Records in memory. -/
def RV (w : World) (rs : Recs) (vs : List Value) : Prop := vs.length = rs.length * 2 ∧ ∀ (i : Nat) r, rs[i]? = some r → ∃ p c, vs[i * 2]? = some (.bool r.isSome) ∧ vs[i * 2 + 1]? = some (.slice p (bytesOf r).length c) ∧ (bytesOf r).length ≤ c ∧ Byt w p (bytesOf r)
/-- Places in memory. -/
def PV (w : World) (a : Places) (vs : List Value) : Prop := vs.length = a.length ∧ ∀ (i : Nat) ks, a[i]? = some ks → ∃ p c, vs[i]? = some (.slice p ks.length c) ∧ ks.length ≤ c ∧ Its w p ks
theorem RV.keep {w w' : World} {rs : Recs} {vs : List Value} (h : RV w rs vs) (m : ∀ g cs, Blk w g 5 cs → Blk w' g 5 cs) : RV w' rs vs := ⟨h.1, fun i r hr => by
  obtain ⟨p, c, h1, h2, h3, h4⟩ := h.2 i r hr
  exact ⟨p, c, h1, h2, h3, h4.keep m⟩⟩
theorem PV.keep {w w' : World} {a : Places} {vs : List Value} (h : PV w a vs) (m : ∀ g cs, Blk w g 3 cs → Blk w' g 3 cs) : PV w' a vs := ⟨h.1, fun i r hr => by
  obtain ⟨p, c, h1, h2, h3⟩ := h.2 i r hr
  exact ⟨p, c, h1, h2, h3.keep m⟩⟩
theorem RV.old {w w' : World} {rs : Recs} {vs : List Value} (h : RV w rs vs) (m : Old w w') : RV w' rs vs := h.keep fun _ _ hb => hb.touch m (fun q => q)
theorem PV.old {w w' : World} {a : Places} {vs : List Value} (h : PV w a vs) (m : Old w w') : PV w' a vs := h.keep fun _ _ hb => hb.touch m (fun q => q)
theorem RV.keptL {w w' : World} {rs : Recs} {vs : List Value} (h : RV w rs vs) (m : KeptL w w') : RV w' rs vs := h.keep fun _ _ hb => m.bytes hb
theorem PV.keptL {w w' : World} {a : Places} {vs : List Value} (h : PV w a vs) (m : KeptL w w') : PV w' a vs := h.keep fun g cs hb => m.blk 3 g cs (by unfold otherL other; decide) hb
theorem RV.set {w : World} {rs : Recs} {vs : List Value} (h : RV w rs vs) {k : Nat} (r : Rec) {p : Option Addr} {c : Nat} (hc : (bytesOf r).length ≤ c) (hb : Byt w p (bytesOf r)) : RV w (rs.set k r) ((vs.set (k * 2) (.bool r.isSome)).set (k * 2 + 1) (.slice p (bytesOf r).length c)) := by
  refine ⟨by simp [h.1], fun i x hx => ?_⟩
  by_cases e : k = i
  · subst e
    have hk : k < rs.length := by have := lt_of_get hx; simpa using this
    rw [List.getElem?_set_self hk] at hx
    injection hx with hx
    subst hx
    refine ⟨p, c, ?_, ?_, hc, hb⟩
    · rw [List.getElem?_set_ne (by omega), List.getElem?_set_self (by rw [h.1]; omega)]
    · rw [List.getElem?_set_self (by rw [List.length_set, h.1]; omega)]
  · rw [List.getElem?_set_ne e] at hx
    obtain ⟨q, d, h1, h2, h3⟩ := h.2 i x hx
    refine ⟨q, d, ?_, ?_, h3⟩
    · rw [List.getElem?_set_ne (by omega), List.getElem?_set_ne (by omega)]; exact h1
    · rw [List.getElem?_set_ne (by omega), List.getElem?_set_ne (by omega)]; exact h2
theorem PV.set {w : World} {a : Places} {vs : List Value} (h : PV w a vs) {k : Nat} (ks : List Nat) {p : Option Addr} {c : Nat} (hc : ks.length ≤ c) (hb : Its w p ks) : PV w (a.set k ks) (vs.set k (.slice p ks.length c)) := by
  refine ⟨by simp [h.1], fun i x hx => ?_⟩
  by_cases e : k = i
  · subst e
    have hk : k < a.length := by have := lt_of_get hx; simpa using this
    rw [List.getElem?_set_self hk] at hx
    injection hx with hx
    subst hx
    exact ⟨p, c, by rw [List.getElem?_set_self (by rw [h.1]; exact hk)], hc, hb⟩
  · rw [List.getElem?_set_ne e] at hx
    obtain ⟨q, d, h1, h2⟩ := h.2 i x hx
    exact ⟨q, d, by rw [List.getElem?_set_ne e]; exact h1, h2⟩

/-- No records, no places. -/
def noRecs : List Value := (List.replicate 41 [Value.bool false, .slice none 0 0]).flatten
def noPlaces : List Value := List.replicate 41 (.slice none 0 0)
def rs0 : Recs := List.replicate 41 none
def ps0 : Places := List.replicate 41 []
theorem noRecs_length : noRecs.length = 82 := by decide
theorem noPlaces_length : noPlaces.length = 41 := by decide
theorem rv0 (w : World) : RV w rs0 noRecs := by
  refine ⟨by rw [noRecs_length]; rfl, fun i r hr => ?_⟩
  have hi : i < 41 := by have := lt_of_get hr; simpa [rs0] using this
  have : r = none := by
    unfold rs0 at hr
    rw [List.getElem?_replicate, if_pos hi] at hr
    injection hr with hr
    exact hr.symm
  subst this
  have hl : ∀ b ∈ List.replicate 41 [Value.bool false, .slice none 0 0], b.length = 2 := fun b hb => by rw [(List.mem_replicate.1 hb).2]; rfl
  refine ⟨none, 0, ?_, ?_, Nat.le_refl _, ⟨Has.nil w none, fun g o e => by cases e⟩⟩
  · have := flatten_get 2 _ i 0 hl (by omega)
    rw [Nat.add_zero, List.getElem?_replicate, if_pos hi] at this
    exact this
  · have := flatten_get 2 _ i 1 hl (by omega)
    rw [List.getElem?_replicate, if_pos hi] at this
    exact this
theorem pv0 (w : World) : PV w ps0 noPlaces := by
  refine ⟨rfl, fun i r hr => ?_⟩
  have hi : i < 41 := by have := lt_of_get hr; simpa [ps0] using this
  have : r = [] := by
    unfold ps0 at hr
    rw [List.getElem?_replicate, if_pos hi] at hr
    injection hr with hr
    exact hr.symm
  subst this
  exact ⟨none, 0, by unfold noPlaces; rw [List.getElem?_replicate, if_pos hi]; rfl, Nat.le_refl _, Its.nil w⟩
theorem info69 : (Tryz.prog.info? 69).map (fun i => (i.zero, i.size, i.bytes)) = some (some (.agg noRecs.toArray), 82, 1312) := by kernel_rfl
theorem info71 : (Tryz.prog.info? 71).map (fun i => (i.zero, i.size, i.bytes)) = some (some (.agg noPlaces.toArray), 41, 984) := by kernel_rfl
theorem sizeR : (Tryz.prog.info? 69).map (·.size) = some 82 := by kernel_rfl
theorem sizeP : (Tryz.prog.info? 71).map (·.size) = some 41 := by kernel_rfl
theorem sizeV : (Tryz.prog.info? 74).map (·.size) = some 207 := by kernel_rfl
theorem allocR (w : World) : (Instr.alloc 69 true (.tuple #[])).run Tryz.prog w = .ok (.pointer (some ⟨w.heap.size, 0, none⟩)) (w.alloc (.cells noRecs.toArray 69)) := by
  obtain ⟨i, hi, hz, _, _⟩ := info_parts info69
  simp [Instr.alloc, zeroValue, typeInfo, hi, hz, newVar, newRow, Value.cells]
theorem allocP (w : World) : (Instr.alloc 71 true (.tuple #[])).run Tryz.prog w = .ok (.pointer (some ⟨w.heap.size, 0, none⟩)) (w.alloc (.cells noPlaces.toArray 71)) := by
  obtain ⟨i, hi, hz, _, _⟩ := info_parts info71
  simp [Instr.alloc, zeroValue, typeInfo, hi, hz, newVar, newRow, Value.cells]
theorem boxAgg (t : TypeId) (vs : List Value) (w : World) : (Instr.box t (.agg vs.toArray)).run Tryz.prog w = .ok (.pointer (some ⟨w.heap.size, 0, none⟩)) (w.alloc (.cells vs.toArray t)) := by
  simp [Instr.box, newVar, newRow, Value.cells]

section
variable {ops : Array Oper} {rest : List Oper} {op : Oper} {a : Act} {w : World} {Q : Exit → Act → World → Prop}
theorem wpList_alloc_recs (hgd : op.guard = none) (ho : op.op = .alloc 69)
    (h : wpList Tryz.prog ops Q rest (a.put op.dst (.pointer (some ⟨w.heap.size, 0, none⟩))) (w.alloc (.cells noRecs.toArray 69))) : wpList Tryz.prog ops Q (op :: rest) a w :=
  wpList_plain hgd fun K hK => by
    unfold Oper.wp execOp
    simp only [ho, Sem.run_bind, Sem.run_pure, Result.andThen_ok, allocR]
    exact hK _ _ h
theorem wpList_alloc_places (hgd : op.guard = none) (ho : op.op = .alloc 71)
    (h : wpList Tryz.prog ops Q rest (a.put op.dst (.pointer (some ⟨w.heap.size, 0, none⟩))) (w.alloc (.cells noPlaces.toArray 71))) : wpList Tryz.prog ops Q (op :: rest) a w :=
  wpList_plain hgd fun K hK => by
    unfold Oper.wp execOp
    simp only [ho, Sem.run_bind, Sem.run_pure, Result.andThen_ok, allocP]
    exact hK _ _ h
theorem wpList_box_agg (hgd : op.guard = none) (t : TypeId) (x : Operand) (ho : op.op = .box t x) (vs : List Value) (hx : a.eval x = .agg vs.toArray)
    (h : wpList Tryz.prog ops Q rest (a.put op.dst (.pointer (some ⟨w.heap.size, 0, none⟩))) (w.alloc (.cells vs.toArray t))) : wpList Tryz.prog ops Q (op :: rest) a w :=
  wpList_plain hgd fun K hK => by
    unfold Oper.wp execOp
    simp only [ho, hx, Sem.run_bind, Sem.run_pure, Result.andThen_ok, boxAgg]
    exact hK _ _ h
theorem wpList_load_recs (hgd : op.guard = none) (p : Operand) (ho : op.op = .load 69 p) (b o : Nat) (hx : a.eval p = .pointer (some ⟨b, o, none⟩)) (vs : List Value) (hl : vs.length = 82) (hc : w.rangeAt b o vs)
    (h : wpList Tryz.prog ops Q rest (a.put op.dst (.agg vs.toArray)) w) : wpList Tryz.prog ops Q (op :: rest) a w :=
  wpList_load_mid hgd 69 p ho b o hx vs _ hc Tryz.underlying69 rfl (by rw [sizeR, hl]) h
theorem wpList_load_places (hgd : op.guard = none) (p : Operand) (ho : op.op = .load 71 p) (b o : Nat) (hx : a.eval p = .pointer (some ⟨b, o, none⟩)) (vs : List Value) (hl : vs.length = 41) (hc : w.rangeAt b o vs)
    (h : wpList Tryz.prog ops Q rest (a.put op.dst (.agg vs.toArray)) w) : wpList Tryz.prog ops Q (op :: rest) a w :=
  wpList_load_mid hgd 71 p ho b o hx vs _ hc Tryz.underlying71 rfl (by rw [sizeP, hl]) h
/-- A store of many cells into the midst of a block. -/
theorem wpList_store_cells (hgd : op.guard = none) (t : TypeId) (p y : Operand) (ho : op.op = .store t p y) (g o : Nat) (vs : List Value) (hx : a.eval p = .pointer (some ⟨g, o, none⟩)) (hy : a.eval y = .agg vs.toArray) (hs : (Tryz.prog.info? t).map (·.size) = some vs.length) (h1 : ∀ v ∈ vs, v.oneCell' = true) (T : TypeId) (Z : List Value) (hZ : o + vs.length ≤ Z.length) (K : Blk w g T Z)
    (h : ∀ w', Blk w' g T (splice Z o vs) → Touch (fun k => k = g) w w' → wpList Tryz.prog ops Q rest (a.put op.dst undef) w') : wpList Tryz.prog ops Q (op :: rest) a w := by
  refine wpList_store_mid hgd t p y ho g o vs.toArray hx hy (fun j hj => ⟨?_, K.frozen _⟩) (by rw [hs, List.size_toArray]) (all_oneCell_toArray h1) ?_
  · rw [K.cell, List.getElem?_eq_getElem (by rw [List.size_toArray] at hj; omega)]
    rfl
  · exact h _ (Blk.setCells vs o Z w K hZ) (setCells_touch _ _ _ _)
end
theorem RV.one {w : World} {rs : Recs} {vs : List Value} (h : RV w rs vs) : ∀ v ∈ vs, v.oneCell' = true := fun v hv => by
  obtain ⟨i, hi⟩ := List.getElem?_of_mem hv
  have hl := lt_of_get hi
  rw [h.1] at hl
  obtain ⟨r, hr⟩ := get_of_lt (l := rs) (n := i / 2) (by omega)
  obtain ⟨p, c, h1, h2, _⟩ := h.2 _ r hr
  rcases Nat.mod_two_eq_zero_or_one i with q | q
  · rw [show i / 2 * 2 = i by omega, hi] at h1
    injection h1 with h1
    subst h1
    rfl
  · rw [show i / 2 * 2 + 1 = i by omega, hi] at h2
    injection h2 with h2
    subst h2
    rfl
theorem PV.one {w : World} {a : Places} {vs : List Value} (h : PV w a vs) : ∀ v ∈ vs, v.oneCell' = true := fun v hv => by
  obtain ⟨i, hi⟩ := List.getElem?_of_mem hv
  have hl := lt_of_get hi
  rw [h.1] at hl
  obtain ⟨r, hr⟩ := get_of_lt hl
  obtain ⟨p, c, h1, _⟩ := h.2 _ r hr
  rw [hi] at h1
  injection h1 with h1
  subst h1
  rfl
/-- The cells of a vault. -/
def vcells (lp : Nat) (vn vk va : List Value) (x : Nat) : List Value := .pointer (some ⟨lp, 0, none⟩) :: (vn ++ (vk ++ (va ++ [.pointer (some ⟨x, 0, none⟩)])))
theorem fold_set (off : Nat) : ∀ (vs : List Value) (k : Nat) (arr : Array Value), off + k + vs.length ≤ arr.size → ((vs.zipIdx k).foldl (fun cs p => cs.setIfInBounds (off + p.2) p.1) arr).toList = splice arr.toList (off + k) vs
  | [], k, arr, _ => by simp [splice]
  | v :: vs, k, arr, h => by
    rw [List.zipIdx_cons, List.foldl_cons, fold_set off vs (k + 1) _ (by simp at h ⊢; omega), Array.toList_setIfInBounds]
    have := list_seg_step arr.toList (off + k) v vs (by simp at h ⊢; omega)
    simp only [splice, List.append_assoc] at this ⊢
    rw [show off + (k + 1) = off + k + 1 by omega]
    exact this
theorem splice_next {α : Type} {P R vs : List α} {off : Nat} (hP : P.length = off) (_hR : vs.length ≤ R.length) : splice (P ++ R) off vs = (P ++ vs) ++ R.drop vs.length := by
  unfold splice
  rw [List.take_left' hP, List.drop_append, List.drop_eq_nil_of_le (by omega), List.nil_append, show off + vs.length - P.length = vs.length by omega, List.append_assoc]
theorem fill_part (off : Nat) (arr : Array Value) (P R vs : List Value) (he : arr.toList = P ++ R) (hP : P.length = off) (hR : vs.length ≤ R.length) : (vs.toArray.zipIdx.foldl (fun cs (p : Value × Nat) => cs.setIfInBounds (off + p.2) p.1) arr).toList = (P ++ vs) ++ R.drop vs.length := by
  have h1 : arr.size = P.length + R.length := by rw [← Array.length_toList, he, List.length_append]
  have := fold_set off vs 0 arr (by omega)
  rw [← Array.foldl_toList, Array.toList_zipIdx]
  simp only at this ⊢
  rw [this, he, Nat.add_zero, splice_next hP hR]
def zeroV : List Value := .pointer none :: (noRecs ++ (noRecs ++ (noPlaces ++ [.pointer none])))
theorem info74 : (Tryz.prog.info? 74).map (fun i => (i.zero, i.size, i.bytes)) = some (some (.agg zeroV.toArray), 207, 3624) := by kernel_rfl
theorem size_of (t : TypeId) (n : Nat) (h : (Tryz.prog.info? t).map (·.size) = some n) (w : World) : (sizeOf t).run Tryz.prog w = .ok n w := by
  cases hq : Tryz.prog.info? t with
  | none => simp [hq] at h
  | some i =>
    have hs : i.size = n := by simpa [hq] using h
    simp [sizeOf, typeInfo, hq, hs]
theorem run_buildV (lp x : Nat) (vn vk va : List Value) (h1 : vn.length = 82) (h2 : vk.length = 82) (h3 : va.length = 41) (w : World) : (Instr.build 74 #[(0, .pointer (some ⟨lp, 0, none⟩)), (1, .agg vn.toArray), (2, .agg vk.toArray), (3, .agg va.toArray), (4, .pointer (some ⟨x, 0, none⟩))]).run Tryz.prog w = .ok (.agg (vcells lp vn vk va x).toArray) w := by
  obtain ⟨i, hi, hz, _, _⟩ := info_parts info74
  have s1 := size_of 67 1 (by kernel_rfl)
  have s2 := size_of 69 82 (by kernel_rfl)
  have s3 := size_of 71 41 (by kernel_rfl)
  have s4 := size_of 72 1 (by kernel_rfl)
  simp [Instr.build, zeroValue, typeInfo, hi, hz, run_underlying Tryz.underlying74, s1, s2, s3, s4, Array.mapM_eq_mapM_toList, Instr.fill, Value.cells, h1, h2, h3]
  have part : ∀ (off : Nat) (arr : Array Value) (P R vs : List Value), arr.toList = P ++ R → P.length = off → vs.length ≤ R.length → (vs.zipIdx.foldl (fun cs x => cs.setIfInBounds (off + x.2) x.1) arr).toList = (P ++ vs) ++ R.drop vs.length := fun off arr P R vs he hP hR => by
    have hs : arr.size = P.length + R.length := by rw [← Array.length_toList, he, List.length_append]
    have := fold_set off vs 0 arr (by omega)
    rw [this, he, Nat.add_zero, splice_next hP hR]
  have e0 : (zeroV.set 0 (Value.pointer (some ⟨lp, 0, none⟩))).toArray.toList = [Value.pointer (some ⟨lp, 0, none⟩)] ++ (noRecs ++ (noRecs ++ (noPlaces ++ [Value.pointer none]))) := rfl
  have n1 := noRecs_length
  have n2 := noPlaces_length
  have e1 := part 1 _ _ _ vn e0 rfl (by simp only [List.length_append]; omega)
  rw [h1, List.drop_left' n1] at e1
  have e2 := part 83 _ _ _ vk e1 (by simp [h1]) (by simp only [List.length_append]; omega)
  rw [h2, List.drop_left' n1] at e2
  have e3 := part 165 _ _ _ va e2 (by simp [h1, h2]) (by simp only [List.length_append]; omega)
  rw [h3, List.drop_left' n2] at e3
  have z1 : ¬ zeroV = [] := by simp [zeroV]
  have z2 : ¬ zeroV.length < 83 := by decide
  have l1 := congrArg List.length e1
  have l2 := congrArg List.length e2
  have l3 := congrArg List.length e3
  simp only [Array.length_toList, List.length_append, List.length_cons, List.length_nil, h1, h2, h3, n1, n2] at l1 l2 l3
  rw [if_neg z1, if_neg z2, if_neg (by omega), if_neg (by omega), if_neg (by omega)]
  simp only [Sem.run_pure]
  congr 2
  apply Array.ext'
  rw [Array.toList_setIfInBounds, e3, List.set_append_right _ _ (by simp [h1, h2, h3])]
  simp [h1, h2, h3, vcells]
end Go.Proofs.YtjajenkagcdhlaaGreat
