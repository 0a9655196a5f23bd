/- Bytes as text; bytes appended to new ones. -/
import Derived.Test.YtjajenkagcdhlaaGreatOwn
import Derived.Laws.BytesArg
import Derived.Lib.SlBytesConst
import Derived.Deep.AppendSrc
namespace Go.Proofs.YtjajenkagcdhlaaGreat
open Go.RowKit
set_option maxRecDepth 100000

/-- The text of bytes. -/
def strOf (xs : List Nat) : ByteArray := strOfNums (xs.map fun (x : Nat) => (x : Int))

theorem strOf_inj {xs ys : List Nat} (hx : ∀ x ∈ xs, x < 256) (hy : ∀ x ∈ ys, x < 256) (h : strOf xs = strOf ys) : xs = ys := by
  have h1 : (strOf xs).data.toList = (strOf ys).data.toList := by rw [h]
  unfold strOf at h1
  rw [strOfNums_data, strOfNums_data, List.map_map, List.map_map] at h1
  have back : ∀ zs : List Nat, (∀ x ∈ zs, x < 256) → (zs.map ((fun (n : Int) => UInt8.ofNat n.toNat) ∘ fun (x : Nat) => (x : Int))).map UInt8.toNat = zs := fun zs hz => by
    rw [List.map_map]
    conv => rhs; rw [← List.map_id zs]
    apply List.map_congr_left
    intro x hx
    have := hz x hx
    simp
    omega
  rw [← back xs hx, ← back ys hy, h1]

theorem str_any (w : World) (a : Option Addr) (xs : List Nat) (len cap : Nat) (h : Has w a xs) (hlen : xs.length = len) :
    (convert 30 9 (.slice a len cap)).run Tryz.prog w = .ok (.string (strOf xs)) w := by
  cases a with
  | none =>
    have : xs = [] := by
      match xs, h with
      | [], _ => rfl
      | x :: r, h => obtain ⟨_, _, e, _⟩ := h.cell 0 (by simp); cases e
    subst this
    rw [run_convert_bytes_nil w 30 5 Tryz.underlying30 Tryz.underlying5 len cap 9 Tryz.underlying9]
    rfl
  | some a =>
    match xs, h, hlen with
    | [], _, hlen =>
      simp at hlen
      subst hlen
      rw [run_convert_bytes_string w 30 9 5 _ 0 cap Tryz.underlying30 Tryz.underlying5 Tryz.underlying9, run_bytesToString w a 0 cap [] (by rfl)]
      rfl
    | x :: r, h, hlen =>
      obtain ⟨b, off, e, _⟩ := h.cell 0 (by simp)
      cases e
      refine run_convert_bytes_arg w 30 5 Tryz.underlying30 Tryz.underlying5 b off len cap ((x :: r).map fun (x : Nat) => (x : Int)) (by simpa using hlen) (fun i hi => ?_) 9 Tryz.underlying9
      obtain ⟨b', off', e, hc⟩ := h.cell i (by omega)
      cases e
      rw [hc]
      have hi' : i < (x :: r).length := by omega
      simp only [at0, List.getD_eq_getElem?_getD, List.getElem?_map, List.getElem?_eq_getElem hi', Option.map_some, Option.getD_some]

/-- A new row. -/
theorem Has.new (w : World) (xs : List Nat) (hb : ∀ x ∈ xs, x < 256) (fr : Nat × Nat) : Has (w.alloc (.cells (cells xs).toArray 5 fr)) (some ⟨w.heap.size, 0, none⟩) xs :=
  ⟨hb, fun i hi => ⟨w.heap.size, 0, rfl, by
    unfold World.cell?
    rw [show (w.alloc (.cells (cells xs).toArray 5 fr)).heap = w.heap.push (.cells (cells xs).toArray 5 fr) from rfl]
    simp only [Nat.zero_add, Array.getElem?_push_size]
    rw [List.getElem?_toArray]
    exact cells_get xs i hi⟩⟩

theorem notAt (x : Bool) (w : World) : (Op.unary .not (.bool x)).run Tryz.prog w = .ok (.bool (!x)) w := rfl

theorem Has.src {w : World} {a : Option Addr} {xs : List Nat} {len cap : Nat} (h : Has w a xs) (hlen : xs.length = len) : Src Tryz.prog 1 30 (.slice a len cap) len (cells xs) w := by
  cases a with
  | none =>
    have : xs = [] := by
      match xs, h with
      | [], _ => rfl
      | x :: r, h => obtain ⟨_, _, e, _⟩ := h.cell 0 (by simp); cases e
    subst this
    simp at hlen
    subst hlen
    exact Src.ofNil w Tryz.underlying30 cap
  | some a =>
    refine Src.ofSlice w Tryz.underlying30 a len cap (cells xs) (by rw [cells_length, Nat.mul_one, hlen]) (fun j u hu => ?_) (cells_one xs)
    have hj : j < xs.length := by
      rcases Nat.lt_or_ge j (cells xs).length with h | h
      · rwa [cells_length] at h
      · rw [List.getElem?_eq_none h] at hu; cases hu
    rw [cells_get xs j hj] at hu
    cases hu
    obtain ⟨b, off, e, hc⟩ := h.cell j hj
    cases e
    rw [show (⟨b, off, none⟩ : Addr).add j = ⟨b, off + j, none⟩ by unfold Addr.add; split <;> simp_all]
    exact hc

theorem zero_length (n : Nat) : (Builtin.zeroCells (Value.int .u8 0).cells n).toList.length = n := by
  rw [Array.length_toList, size_zeroCells, show (Value.int .u8 0).cells.size = 1 from rfl, Nat.mul_one]

/-- Block g is a row of bytes: xs, and room for more, c in all. -/
structure Grows (w : World) (g c : Nat) (xs : List Nat) : Prop where
  byte : ∀ x ∈ xs, x < 256
  row : ∃ rest, w.heap[g]? = some (.cells (cells xs ++ rest).toArray 5 (0, 0)) ∧ xs.length + rest.length = c
theorem Grows.own {w : World} {g c : Nat} {xs : List Nat} (h : Grows w g c xs) : Own w g xs := by
  obtain ⟨rest, hr, _⟩ := h.row
  exact ⟨h.byte, rest, hr⟩

set_option maxRecDepth 100000 in
/-- 'append([]byte{}, b...)', '[]byte{}' a new row of no cells. -/
theorem append_new (w : World) (a : Option Addr) (xs : List Nat) (len cap : Nat) (h : Has w a xs) (hlen : xs.length = len) (hm : len ≤ 140737488355328) :
    ∃ g c w', (∀ ty, (Builtin.append_ #[30, 30] ty #[.slice (some ⟨w.heap.size, 0, none⟩) 0 0, .slice a len cap]).run Tryz.prog (w.alloc (.cells #[] 5)) = .ok (.slice (some ⟨g, 0, none⟩) len c) w') ∧ w.heap.size ≤ g ∧ Grows w' g c xs ∧ Old w w' := by
  obtain ⟨i0, hi, hz0, hz1, hz2⟩ := info_parts info5
  have T1 : Old w (w.alloc (.cells #[] 5)) := (Touch.refl _ w).alloc _
  have hs : Src Tryz.prog i0.size 30 (.slice a len cap) len (cells xs) (w.alloc (.cells #[] 5)) := by rw [hz1]; exact (h.old T1).src hlen
  rcases Nat.eq_zero_or_pos len with h0 | h0
  · subst h0
    have hx : xs = [] := List.eq_nil_of_length_eq_zero hlen
    subst hx
    refine ⟨w.heap.size, 0, w.alloc (.cells #[] 5), fun ty => ?_, Nat.le_refl _, ⟨(fun _ h => by cases h), [], heap_alloc_new w _, rfl⟩, T1⟩
    have := run_append_room_src (P := Tryz.prog) (w.alloc (.cells #[] 5)) 30 30 ty 5 i0 Tryz.underlying30 hi w.heap.size 0 0 0 (.slice a 0 cap) 0 _ hs (Nat.le_refl _) (fun j hj => absurd hj (Nat.not_lt_zero _)) (fun j hj => absurd hj (Nat.not_lt_zero _))
    rw [this]
    rfl
  · have hr := fun ty => run_append_grow_src (P := Tryz.prog) (w.alloc (.cells #[] 5)) 30 30 ty 5 i0 (.int .u8 0) Tryz.underlying30 hi hz0 (some ⟨w.heap.size, 0, none⟩) 0 0 []
      (run_firstCells_some (P := Tryz.prog) _ i0.size 0 ⟨w.heap.size, 0, none⟩ 0 0 [] (by simp) (fun j u hu => by simp at hu)) (.slice a len cap) len _ hs (by omega) (by omega) (growslice_fits (by omega) (by rw [hz2]; omega))
    simp only [Nat.zero_add, List.nil_append] at hr
    have hge := grownCap_ge (w.alloc (.cells #[] 5)) len 0 5
    refine ⟨_, _, _, hr, ?_, ⟨h.byte, (Builtin.zeroCells (Value.int .u8 0).cells (grownCap (w.alloc (.cells #[] 5)) len 0 5 - len)).toList, ?_, ?_⟩, (T1.drew).alloc _⟩
    · simp
    · rw [show (w.alloc (.cells #[] 5)).heap.size = (w.alloc (.cells #[] 5)).drew.heap.size from rfl, heap_alloc_new]
      congr 2
      apply Array.ext'
      simp only [Array.toList_append]
    · rw [zero_length]; omega

set_option maxRecDepth 100000 in
/-- 'append(x, b...)', x a row of one's own. -/
theorem append_onto (w : World) (g c n : Nat) (xs ys : List Nat) (a : Option Addr) (len cap : Nat) (G : Grows w g c xs) (h : Has w a ys) (hn : xs.length = n) (hlen : ys.length = len) (hm : n + len ≤ 140737488355328) :
    ∃ g' c' w', (∀ ty, (Builtin.append_ #[30, 30] ty #[.slice (some ⟨g, 0, none⟩) n c, .slice a len cap]).run Tryz.prog w = .ok (.slice (some ⟨g', 0, none⟩) (n + len) c') w') ∧ (g' = g ∨ w.heap.size ≤ g') ∧ Grows w' g' c' (xs ++ ys) ∧ Touch (fun k => k = g) w w' := by
  obtain ⟨i0, hi, hz0, hz1, hz2⟩ := info_parts info5
  have hs : Src Tryz.prog i0.size 30 (.slice a len cap) len (cells ys) w := by rw [hz1]; exact h.src hlen
  obtain ⟨rest, hg, hl⟩ := G.row
  have hby : ∀ x ∈ xs ++ ys, x < 256 := fun x hx => by
    rcases List.mem_append.1 hx with h1 | h1
    · exact G.byte x h1
    · exact h.byte x h1
  rcases Nat.eq_zero_or_pos len with h0 | h0
  · subst h0
    have hx : ys = [] := List.eq_nil_of_length_eq_zero hlen
    subst hx
    refine ⟨g, c, w, fun ty => ?_, .inl rfl, by rw [List.append_nil]; exact G, Touch.refl _ _⟩
    have := run_append_room_src (P := Tryz.prog) w 30 30 ty 5 i0 Tryz.underlying30 hi g 0 n c (.slice a 0 cap) 0 _ hs (by omega) (fun j hj => absurd hj (Nat.not_lt_zero _)) (fun j hj => absurd hj (Nat.not_lt_zero _))
    rw [this]
    rfl
  · obtain ⟨b, off, rfl, _⟩ := h.cell 0 (by omega)
    have hnews : ∀ j u, (cells ys)[j]? = some u → w.cell? ((⟨b, off, none⟩ : Addr).add j) = some u := fun j u hu => by
      have hj : j < ys.length := by
        rcases Nat.lt_or_ge j (cells ys).length with h | h
        · rwa [cells_length] at h
        · rw [List.getElem?_eq_none h] at hu; cases hu
      rw [cells_get ys j hj] at hu
      cases hu
      obtain ⟨b', off', e, hc⟩ := h.cell j hj
      cases e
      rw [show (⟨b, off, none⟩ : Addr).add j = ⟨b, off + j, none⟩ by unfold Addr.add; split <;> simp_all]
      exact hc
    by_cases hroom : n + len ≤ c
    · have hr := fun ty => run_append_room (P := Tryz.prog) w 30 ty 5 i0 Tryz.underlying30 hi g n c _ hg ⟨b, off, none⟩ len cap (cells ys) (by rw [cells_length, hz1, Nat.mul_one, hlen]) hnews (cells_one ys) hroom
        (by rw [hz1, Nat.mul_one, cells_length]; simp only [List.size_toArray, List.length_append, cells_length]; omega)
      refine ⟨g, c, _, hr, .inl rfl, ⟨hby, rest.drop len, ?_, by rw [List.length_append, List.length_drop]; omega⟩, (Touch.refl (fun k => k = g) w).setRow (.inl rfl) _⟩
      rw [setRow_heap w g _ _ 5 (0, 0) hg]
      congr 2
      rw [hz1, Nat.mul_one, cells_append]
      congr 1
      rw [List.take_append_of_le_length (by rw [cells_length]; omega), List.take_of_length_le (by rw [cells_length]; omega), List.drop_append, List.drop_eq_nil_of_le (by simp only [cells_length]; omega)]
      simp only [cells_length, List.nil_append]
      congr 2
      omega
    · have hr := fun ty => run_append_grow_src (P := Tryz.prog) w 30 30 ty 5 i0 (.int .u8 0) Tryz.underlying30 hi hz0 (some ⟨g, 0, none⟩) n c (cells xs)
        (run_firstCells_some (P := Tryz.prog) _ i0.size n ⟨g, 0, none⟩ n c (cells xs) (by rw [cells_length, hz1, Nat.mul_one, hn]) (fun j u hu => by
          have hj : j < xs.length := by
            rcases Nat.lt_or_ge j (cells xs).length with h | h
            · rwa [cells_length] at h
            · rw [List.getElem?_eq_none h] at hu; cases hu
          rw [cells_get xs j hj] at hu
          cases hu
          rw [show (⟨g, 0, none⟩ : Addr).add j = ⟨g, j, none⟩ by unfold Addr.add; split <;> simp_all]
          exact G.own.cell j hj)) (.slice (some ⟨b, off, none⟩) len cap) len _ hs (by omega) (by omega) (growslice_fits (by omega) (by rw [hz2]; omega))
      have hge := grownCap_ge w (n + len) c 5
      refine ⟨_, _, _, hr, .inr (Nat.le_refl _), ⟨hby, (Builtin.zeroCells (Value.int .u8 0).cells (grownCap w (n + len) c 5 - (n + len))).toList, ?_, ?_⟩, ((Touch.refl _ w).drew).alloc _⟩
      · rw [show w.heap.size = w.drew.heap.size from rfl, heap_alloc_new]
        congr 2
        apply Array.ext'
        simp only [Array.toList_append, cells_append]
      · rw [zero_length, List.length_append]; omega

/-- 'append(append([]byte{}, a...), b...)'. -/
theorem append_two (w : World) (a b : Option Addr) (xs ys : List Nat) (n m c d : Nat) (ha : Has w a xs) (hb : Has w b ys) (hn : xs.length = n) (hm : ys.length = m) (hs : n + m ≤ 140737488355328) :
    ∃ g1 c1 w1, (∀ ty, (Builtin.append_ #[30, 30] ty #[.slice (some ⟨w.heap.size, 0, none⟩) 0 0, .slice a n c]).run Tryz.prog (w.alloc (.cells #[] 5)) = .ok (.slice (some ⟨g1, 0, none⟩) n c1) w1) ∧
    ∃ g2 c2 w2, (∀ ty, (Builtin.append_ #[30, 30] ty #[.slice (some ⟨g1, 0, none⟩) n c1, .slice b m d]).run Tryz.prog w1 = .ok (.slice (some ⟨g2, 0, none⟩) (n + m) c2) w2) ∧ n + m ≤ c2 ∧ w.heap.size ≤ g2 ∧ Grows w2 g2 c2 (xs ++ ys) ∧ Old w w2 := by
  obtain ⟨g1, c1, w1, h1, hg1, G1, T1⟩ := append_new w a xs n c ha hn (by omega)
  obtain ⟨g2, c2, w2, h2, hg2, G2, T2⟩ := append_onto w1 g1 c1 n xs ys b m d G1 (hb.old T1) hn hm hs
  refine ⟨g1, c1, w1, h1, g2, c2, w2, h2, ?_, ?_, G2, T1.own T2 hg1⟩
  · obtain ⟨rest, _, hl⟩ := G2.row
    rw [List.length_append] at hl
    omega
  · have := T1.size
    rcases hg2 with h | h <;> omega

set_option maxRecDepth 100000 in
theorem wpList_append_run {ops : Array Oper} {rest : List Oper} {o : Oper} {a : Act} {w : World} {Q : Exit → Act → World → Prop} (hgd : o.guard = none) (s x : Operand) (t tx : TypeId)
    (ho : o.op = .call { callee := .builtin .append, args := #[s, x], argTypes := #[t, tx] }) (v u : Value) (hs : a.eval s = v) (hx : a.eval x = u) (v' : Value) (w' : World)
    (hr : (Builtin.append_ #[t, tx] o.type #[v, u]).run Tryz.prog w = .ok v' w') (h : wpList Tryz.prog ops Q rest (a.put o.dst v') w') : wpList Tryz.prog ops Q (o :: rest) a w := by
  refine wpList_plain hgd fun K hK => ?_
  unfold Oper.wp execOp
  simp only [ho, resolve, invoke, builtin, Sem.run_bind, Sem.run_pure, Result.andThen_ok, List.map_toArray, List.map_cons, List.map_nil, hs, hx, hr]
  exact hK _ _ h

end Go.Proofs.YtjajenkagcdhlaaGreat
