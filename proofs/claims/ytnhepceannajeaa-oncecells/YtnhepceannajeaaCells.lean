/- lariatlaw1.OnceCells: what its variables hold, and the contract of its makes. -/
import Derived.Test.YtnhepceannajeaaDrops
namespace Go.Proofs.Ytnhepceannajeaa
open Go.RowKit Go.MuLone Go.Conc.Locks Go.Maps

theorem enters23 (args : Array Value) (w : World) : (callFunc 23 args).run Try.prog w = .ok (.enter 23 args) w := run_callFunc_enter Try.func23 (by kernel_rfl) rfl args w

/-- A make: it counts its calls, and tells its value. -/
theorem make23 (bk bi bv Bc n b off len cap : Nat) (m : Nat) (hm : m < n) (hl : m < len) (z : Int) (w : World)
    (Vk : Var bk (.slice (some ⟨Bc, 0, none⟩) n n) w) (Vi : Var bi (.int .i64 m) w) (Vv : Var bv (.slice (some ⟨b, off, none⟩) len cap) w)
    (hc : w.cell? ⟨Bc, m, none⟩ = some (.int .i64 0)) (hf : w.frozen? ⟨Bc, m, none⟩ = false) (hz : w.cell? ⟨b, off + m, none⟩ = some (.int .i64 z))
    (ni : ¬ bi = Bc) (nv : ¬ bv = Bc) (nb : ¬ b = Bc) :
    Calls Try.prog 23 #[.pointer (some ⟨bk, 0, none⟩), .pointer (some ⟨bi, 0, none⟩), .pointer (some ⟨bv, 0, none⟩)] w
      (Answers fun v w' => v = z ∧ w' = w.setCell ⟨Bc, m, none⟩ (.int .i64 1)) := by
  have hne : ∀ (k o : Nat), ¬ k = Bc → (w.setCell ⟨Bc, m, none⟩ (.int .i64 1)).cell? ⟨k, o, none⟩ = w.cell? ⟨k, o, none⟩ := fun k o h =>
    World.cell?_setCell_other _ ⟨Bc, m, none⟩ ⟨k, o, none⟩ _ (fun e => h (congrArg Addr.block e).symm)
  have h1 := Vk.c
  have h2 := Vi.c
  have h3 := (hne bi 0 ni).trans Vi.c
  have h4 := (hne bv 0 nv).trans Vv.c
  have h5 := (hne b (off + m) nb).trans hz
  clear hne Vk Vi Vv hz
  go_enter Try.func23, Try.ntmps23
  go_wp2
  go_ret
  exact ⟨z, rfl, rfl, rfl⟩

/-- The function of cell m, its counter in block i. -/
abbrev mkv (bk bv i : Nat) : Value := .func (.func 23) #[] #[.pointer (some ⟨bk, 0, none⟩), .pointer (some ⟨i, 0, none⟩), .pointer (some ⟨bv, 0, none⟩)]

def one (b : Bool) : Int := if b then 1 else 0

/-- The first j cells, those that are made, what is counted. -/
structure CellsAt (B bv bk Bc n : Nat) (a : Option Addr) (len cap j : Nat) (cb ib : Nat → Nat) (made : Nat → Bool) (f : Nat → Int) (w0 w : World) : Prop where
  vv : Var bv (.slice a len cap) w
  vk : Var bk (.slice (some ⟨Bc, 0, none⟩) n n) w
  calls : ∀ m, m < n → w.cell? ⟨Bc, m, none⟩ = some (.int .i64 (one (made m))) ∧ w.frozen? ⟨Bc, m, none⟩ = false
  yes : ∀ m, m < j → made m = true → Made (cb m) (f m) w
  no : ∀ m, m < j → made m = false → Unmade (cb m) (mkv bk bv (ib m)) w
  box : ∀ m, m < j → Var (ib m) (.int .i64 m) w
  ni : ∀ m, m < j → ¬ ib m = Bc
  nv : ¬ bv = Bc
  nk : ¬ bk = Bc
  apart : ∀ m m', m < j → m' < j → cb m = cb m' → m = m'
  lowB : B ≤ Bc
  lowc : ∀ m, m < j → B ≤ cb m
  jn : j ≤ n
  low : B ≤ w.heap.size
  below : Below B w0 w

theorem CellsAt.grow {S : Nat → Prop} {B bv bk Bc n : Nat} {a : Option Addr} {len cap j : Nat} {cb ib : Nat → Nat} {made : Nat → Bool} {f : Nat → Int} {w0 w w' : World} (C : CellsAt B bv bk Bc n a len cap j cb ib made f w0 w) (h : Touch S w w')
    (hv : ¬ S bv) (hk : ¬ S bk) (hB : 0 < n → ¬ S Bc) (hc : ∀ m, m < j → ¬ S (cb m)) (hi : ∀ m, m < j → ¬ S (ib m)) (hl : ∀ k, S k → B ≤ k) : CellsAt B bv bk Bc n a len cap j cb ib made f w0 w' :=
  ⟨C.vv.touch h hv, C.vk.touch h hk, fun m hm => by
      have := C.calls m hm
      have hlt := lt_of_cell? this.1
      exact ⟨(h.cell (p := ⟨Bc, m, none⟩) hlt (hB (by omega))).trans this.1, (h.frozen (p := ⟨Bc, m, none⟩) hlt (hB (by omega))).trans this.2⟩,
    fun m hm e => (C.yes m hm e).touch h (hc m hm), fun m hm e => (C.no m hm e).touch h (hc m hm), fun m hm => (C.box m hm).touch h (hi m hm), C.ni, C.nv, C.nk, C.apart, C.lowB, C.lowc, C.jn, Nat.le_trans C.low h.size,
    C.below.trans (h.below C.low (fun k hk hs => by have := hl k hs; omega))⟩

theorem CellsAt.same {B bv bk Bc n : Nat} {a : Option Addr} {len cap j : Nat} {cb ib : Nat → Nat} {made : Nat → Bool} {f : Nat → Int} {w0 w w' : World} (C : CellsAt B bv bk Bc n a len cap j cb ib made f w0 w) (h : Touch (fun _ => False) w w') : CellsAt B bv bk Bc n a len cap j cb ib made f w0 w' :=
  C.grow h (fun h => h) (fun h => h) (fun _ h => h) (fun _ _ h => h) (fun _ _ h => h) (fun _ h => h.elim)

def set1 (g : Nat → Nat) (j x : Nat) : Nat → Nat := fun m => if m = j then x else g m
theorem set1_same (g : Nat → Nat) (j x : Nat) : set1 g j x j = x := by simp [set1]
theorem set1_other (g : Nat → Nat) {j m : Nat} (x : Nat) (h : ¬ m = j) : set1 g j x m = g m := by simp [set1, h]
def mark (g : Nat → Bool) (j : Nat) : Nat → Bool := fun m => if m = j then true else g m
theorem mark_same (g : Nat → Bool) (j : Nat) : mark g j j = true := by simp [mark]
theorem mark_other (g : Nat → Bool) {j m : Nat} (h : ¬ m = j) : mark g j m = g m := by simp [mark, h]

/-- A value that begins no row of pointers. -/
def NoPtr (x : Value) : Prop := ∀ p, ¬ x = .pointer p

/-- The pointers to the first j cells. -/
def ptrs (cb : Nat → Nat) (j : Nat) : List Value := (List.range j).map fun m => .pointer (some ⟨cb m, 0, none⟩)
theorem ptrs_succ (cb : Nat → Nat) (j x : Nat) : ptrs cb j ++ [.pointer (some ⟨x, 0, none⟩)] = ptrs (set1 cb j x) (j + 1) := by
  unfold ptrs
  rw [List.range_succ, List.map_append]
  congr 1
  · apply List.map_congr_left
    intro m hm
    rw [set1_other]
    have := List.mem_range.1 hm
    omega
  · simp [set1_same]
theorem ptrs_length (cb : Nat → Nat) (j : Nat) : (ptrs cb j).length = j := by simp [ptrs]
theorem ptrs_get (cb : Nat → Nat) {j m : Nat} (h : m < j) : (ptrs cb j)[m]? = some (.pointer (some ⟨cb m, 0, none⟩)) := by
  simp [ptrs, List.getElem?_range h]

theorem own_ne {w : World} {base j : Nat} {cb : Nat → Nat} {v : Value} (h : w.ownsRow base 23 1 v j (ptrs cb j)) (hnil : j = 0 → v = .slice none 0 0) {k : Nat} {x : Value} (hx : w.cell? ⟨k, 0, none⟩ = some x) (hp : NoPtr x) : ¬ v.ownBlock = some k := by
  intro hv
  by_cases h0 : j = 0
  · rw [hnil h0] at hv
    cases hv
  · have e := h.cells hv 0 (.pointer (some ⟨cb 0, 0, none⟩)) (ptrs_get cb (by omega))
    simp [Addr.add] at e
    rw [hx] at e
    exact hp _ (Option.some.inj e)

/-- The state of the first loop. -/
structure Loop1 (B bv bk Bc n : Nat) (a : Option Addr) (len cap j : Nat) (cb ib : Nat → Nat) (f : Nat → Int) (v : Value) (bi : Nat) (w0 w : World) : Prop where
  at' : CellsAt B bv bk Bc n a len cap j cb ib (fun _ => false) f w0 w
  own : w.ownsRow B 23 1 v j (ptrs cb j)
  nil : j = 0 → v = .slice none 0 0
  vi : Var bi (.int .i64 j) w
  nb : ¬ bi = Bc

theorem noptr_int (k : IntKind) (x : Int) : NoPtr (.int k x) := fun p h => by cases h
theorem noptr_slice (a : Option Addr) (l c : Nat) : NoPtr (.slice a l c) := fun p h => by cases h

theorem touch_grown {w w' : World} {row : Option Nat} (h : w.grownBy w' row) : Touch (fun k => row = some k) w w' :=
  ⟨h.os, h.tape, h.output, h.size, fun k hk hn => h.block k hk (fun e => hn e.symm)⟩

theorem loop1_step {B bv bk Bc n : Nat} {a : Option Addr} {len cap j : Nat} {cb ib : Nat → Nat} {f : Nat → Int} {v : Value} {bi : Nat} {w0 w : World} (L : Loop1 B bv bk Bc n a len cap j cb ib f v bi w0 w) (hj : j < n) {v' : Value} {w3 : World}
    (hown : w3.ownsRow B 23 1 v' (j + 1) (ptrs cb j ++ [.pointer (some ⟨w.heap.size, 0, none⟩)]))
    (hg : ((w.alloc (fresh (mkv bk bv bi))).alloc (.cells #[.pointer (some ⟨w.heap.size, 0, none⟩)] 23)).grownBy w3 v.ownBlock) :
    w3.cell? ⟨bi, 0, none⟩ = some (.int .i64 j) ∧ Loop1 B bv bk Bc n a len cap (j + 1) (set1 cb j w.heap.size) (set1 ib j bi) f v' w3.heap.size w0 (w3.alloc (.cells #[.int .i64 ((j : Int) + 1)] 3)) := by
  obtain ⟨W, hW⟩ : ∃ W, W = (w.alloc (fresh (mkv bk bv bi))).alloc (.cells #[.pointer (some ⟨w.heap.size, 0, none⟩)] 23) := ⟨_, rfl⟩
  rw [← hW] at hg
  have tW : Touch (fun _ => False) w W := by rw [hW]; exact ((Touch.refl _ _).alloc _).alloc _
  have zW : W.heap.size = w.heap.size + 2 := by rw [hW]; simp
  have UW : Unmade w.heap.size (mkv bk bv bi) W := by rw [hW]; exact (unmade_fresh _ w).touch ((Touch.refl Nought _).alloc _) (fun h => h)
  have ownW : W.ownsRow B 23 1 v j (ptrs cb j) := by rw [hW]; exact (L.own.alloc _).alloc _
  clear hW
  have CW := L.at'.same tW
  have VW := L.vi.touch tW (fun h => h)
  have tg := touch_grown hg
  have nSv : ∀ {k : Nat} {x : Value}, W.cell? ⟨k, 0, none⟩ = some x → NoPtr x → ¬ v.ownBlock = some k := fun hx hp => own_ne ownW L.nil hx hp
  have lowv : ∀ k, v.ownBlock = some k → B ≤ k := fun k hk => (ownW.lt k hk).1
  have C3 : CellsAt B bv bk Bc n a len cap j cb ib (fun _ => false) f w0 w3 := CW.grow tg (nSv CW.vv.c (noptr_slice _ _ _)) (nSv CW.vk.c (noptr_slice _ _ _)) (fun h0 => nSv (CW.calls 0 h0).1 (noptr_int _ _))
    (fun m hm => nSv (CW.no m hm rfl).c0 (noptr_int _ _)) (fun m hm => nSv (CW.box m hm).c (noptr_int _ _)) lowv
  have U3 := UW.touch tg (nSv UW.c0 (noptr_int _ _))
  have V3 := VW.touch tg (nSv VW.c (noptr_int _ _))
  have t4 : Touch (fun _ => False) w3 (w3.alloc (.cells #[.int .i64 ((j : Int) + 1)] 3)) := (Touch.refl _ _).alloc _
  have C4 := C3.same t4
  have U4 := U3.touch t4 (fun h => h)
  have V4 := V3.touch t4 (fun h => h)
  have lowc : B ≤ w.heap.size := L.at'.low
  have old : ∀ m, m < j → cb m < w.heap.size := fun m hm => by have := lt_of_cell? (L.at'.no m hm rfl).c0; simpa using this
  refine ⟨V3.c, ⟨C4.vv, C4.vk, C4.calls, (fun m hm e => by cases e), fun m hm _ => ?_, fun m hm => ?_, fun m hm => ?_, C4.nv, C4.nk, fun m m' hm hm' e => ?_, C4.lowB, fun m hm => ?_, hj, C4.low, C4.below⟩, ?_, (fun h => by omega), ?_, ?_⟩
  · by_cases e : m = j
    · subst e; rw [set1_same, set1_same]; exact U4
    · rw [set1_other _ _ e, set1_other _ _ e]; exact C4.no m (by omega) rfl
  · by_cases e : m = j
    · subst e; rw [set1_same]; exact V4
    · rw [set1_other _ _ e]; exact C4.box m (by omega)
  · by_cases e : m = j
    · subst e; rw [set1_same]; exact L.nb
    · rw [set1_other _ _ e]; exact C4.ni m (by omega)
  · by_cases e1 : m = j
    · by_cases e2 : m' = j
      · omega
      · subst e1; rw [set1_same, set1_other _ _ e2] at e; have := old m' (by omega); omega
    · by_cases e2 : m' = j
      · subst e2; rw [set1_same, set1_other _ _ e1] at e; have := old m (by omega); omega
      · rw [set1_other _ _ e1, set1_other _ _ e2] at e; exact C4.apart m m' (by omega) (by omega) e
  · by_cases e : m = j
    · subst e; rw [set1_same]; exact lowc
    · rw [set1_other _ _ e]; exact C4.lowc m (by omega)
  · rw [← ptrs_succ]; exact hown.alloc _
  · have := Var.new w3 (.int .i64 ((j : Int) + 1)) 3
    simpa using this
  · intro e
    have h1 := hg.size
    have h2 : Bc < w.heap.size := by have := lt_of_cell? (L.at'.calls 0 (by omega)).1; simpa using this
    omega
end Go.Proofs.Ytnhepceannajeaa
