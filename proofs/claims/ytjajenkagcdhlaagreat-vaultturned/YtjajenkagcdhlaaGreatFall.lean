/- The contract of a drum's Fall. -/
import Derived.Test.YtjajenkagcdhlaaGreatMarked
namespace Go.Proofs.YtjajenkagcdhlaaGreat
open Go.RowKit
set_option maxRecDepth 100000

/-- How many bytes of a cut are done. -/
def cutOf (cut : Int) : Nat := (min (max cut 0) 96).toNat
theorem cutOf_le (cut : Int) : cutOf cut ≤ 96 := by unfold cutOf; omega
/-- How many bytes of the Lay with the number i are done. -/
def partOf (ys : List Int) (torn cut : Int) (i : Nat) : Nat := if among ys i = true then 96 else if (i : Int) = torn then cutOf cut else 0
theorem partOf_le (ys : List Int) (torn cut : Int) (i : Nat) : partOf ys torn cut i ≤ 96 := by
  unfold partOf
  have := cutOf_le cut
  split
  · omega
  · split <;> omega

/-- A drum of which the first i Lays fell. -/
def DS.fallen (D : DS) (p : Nat → Nat) (i : Nat) : DS := { D with T := falls p D.T D.A i }
theorem fallen_succ {D : DS} {p : Nat → Nat} {i : Nat} {x : Nat × List Nat} {o : List Nat} (h : D.A[i]? = some x) (ho : (D.fallen p i).T[x.1]? = some o) : D.fallen p (i + 1) = { D.fallen p i with T := (D.fallen p i).T.set x.1 (mix (p i) x.2 o) } := by
  have e : (falls p D.T D.A i).getD x.1 [] = o := getD_of ho
  simp only [DS.fallen, falls, getD_of h, e]
theorem fallen_trk {D : DS} (h : D.Ok) {p : Nat → Nat} (hp : ∀ i, p i ≤ 96) {i : Nat} (hi : i ≤ D.A.length) : ∀ b ∈ (D.fallen p i).T, Trk b := falls_trk hp h.trk h.lay i hi
theorem fallen_length (D : DS) (p : Nat → Nat) (i : Nat) : (D.fallen p i).T.length = D.T.length := falls_length _ _ _ _

theorem cells_take (xs : List Nat) (n : Nat) : cells (xs.take n) = (cells xs).take n := by simp [cells, List.map_take]
/-- A part of a track, laid over it. -/
theorem rows_mix {T : List (List Nat)} (h : ∀ b ∈ T, Trk b) {k n : Nat} {b o : List Nat} (hb : Trk b) (ho : T[k]? = some o) (hn : n ≤ 96) : splice (rows T) (k * 96) (cells (b.take n)) = rows (T.set k (mix n b o)) := by
  have hk := lt_of_get ho
  have hot := h o (mem_of_get ho)
  rw [← rows_set h (mix_trk hb hot hn) hk]
  have hl : (cells (b.take n)).length = n := by rw [cells_length, List.length_take, hb.len]; omega
  have hr := rows_length h
  have hlm : (cells (mix n b o)).length = 96 := by rw [cells_length, (mix_trk hb hot hn).len]
  unfold splice
  rw [hl, hlm]
  have hmid : (rows T).drop (k * 96 + n) = cells (o.drop n) ++ (rows T).drop (k * 96 + 96) := by
    apply List.ext_getElem?
    intro j
    rw [List.getElem?_drop]
    have hol : (cells (o.drop n)).length = 96 - n := by rw [cells_length, List.length_drop, hot.len]
    rcases Nat.lt_or_ge j (96 - n) with hj | hj
    · rw [List.getElem?_append_left (by omega), show k * 96 + n + j = k * 96 + (n + j) by omega, rows, flatten_get 96 _ k (n + j) (rows_len h) (by omega), List.getElem?_map, ho]
      simp [cells, List.getElem?_drop]
    · rw [List.getElem?_append_right (by omega), List.getElem?_drop, hol]
      congr 1
      omega
  rw [hmid]
  unfold mix
  rw [cells_append]
  simp only [List.append_assoc]
theorem At.set_mix {d : Nat} {b : Bl} {D : DS} {V : List (List Nat)} {w w' : World} (A : At d b D V w) (hT : ∀ b ∈ D.T, Trk b) {k n : Nat} {xs o : List Nat} (hx : Trk xs) (ho : D.T[k]? = some o) (hn : n ≤ 96) (T : Touch (fun k => k = b.s) w w') (K : Blk w' b.s 105 (splice (rows D.T) (k * 96) (cells (xs.take n)))) :
    At d b { D with T := D.T.set k (mix n xs o) } V w' := by
  refine ⟨?_, ?_, A.see.touch T A.sv.symm, A.sv, A.flag.touch T (A.flag.ne A.set (by decide)), owns_touch A.own T (fun k hk e => own_blk A.own A.set (by decide) (by rw [hk, e])), A.well.touch T (fun k hk e => well_blk A.well A.set (by decide) (by rw [hk, e]))⟩
  · have := A.head.touch T A.ds
    simpa using this
  · rwa [rows_mix hT hx ho hn] at K
theorem size_set (w : World) (p : Addr) (v : Value) : (w.setCell p v).heap.size = w.heap.size := by simp [World.setCell]
theorem At.flag_new {d : Nat} {b : Bl} {D : DS} {V : List (List Nat)} {w : World} (A : At d b D V w) (g : Nat) (hg : g = w.heap.size) : At d { b with f := g } { D with down := false } V ((w.setCell ⟨d, 5, none⟩ (.pointer (some ⟨g, 0, none⟩))).alloc (.cells #[.int .u32 0] 112)) := by
  have T : Touch (fun k => k = d) w ((w.setCell ⟨d, 5, none⟩ (.pointer (some ⟨g, 0, none⟩))).alloc (.cells #[.int .u32 0] 112)) := (Touch.one ⟨d, 5, none⟩ _).alloc _
  refine ⟨?_, A.set.touch T A.ds.symm, A.see.touch T A.dv.symm, A.sv, ?_, owns_touch A.own T (fun k hk e => own_blk A.own A.head (by decide) (by rw [hk, e])), A.well.touch T (fun k hk e => well_blk A.well A.head (by decide) (by rw [hk, e]))⟩
  · have := (A.head.set 5 (.pointer (some ⟨g, 0, none⟩))).touch ((Touch.refl (fun _ => False) _).alloc (.cells #[.int .u32 0] 112)) (fun q => q)
    rw [head_flag] at this
    exact this
  · have := Blk.new (w.setCell ⟨d, 5, none⟩ (.pointer (some ⟨g, 0, none⟩))) 112 [.int .u32 0]
    rw [size_set, ← hg] at this
    exact this

section
variable {ops : Array Oper} {o : Oper} {a : Act} {w : World} {K : Act → World → Prop} {Q : Exit → Act → World → Prop} {E : Prop}
theorem step_copy (hg : o.guard = none) (s x : Operand) (t tx : TypeId) (ho : o.op = .call { callee := .builtin .copy, args := #[s, x], argTypes := #[t, tx] }) (v u : Value) (hs : a.eval s = v) (hx : a.eval x = u) (v' : Value) (w' : World)
    (hr : (Builtin.copy_ #[t, tx] o.type #[v, u]).run Tryz.prog w = .ok v' w') (h : K (a.put o.dst v') w') : if Region.wanted o (yielded ops a.tmps) = true then Oper.wp Tryz.prog o a w K Q else E := by
  refine step_wanted hg ?_
  unfold Oper.wp execOp
  simp only [ho, resolve, invoke, builtin, Sem.run_bind, Sem.run_pure, Result.andThen_ok, List.map_toArray, List.map_cons, List.map_nil, hs, hx, hr]
  exact h
end
end Go.Proofs.YtjajenkagcdhlaaGreat
