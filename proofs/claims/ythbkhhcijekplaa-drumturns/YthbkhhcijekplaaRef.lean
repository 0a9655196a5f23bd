/- The reference's drum in memory; its turn, set, Break, Look. -/
import Derived.Test.YthbkhhcijekplaaWasOps
import Derived.Lib.ConvBytes
namespace Go.Proofs.Ythbkhhcijekplaa
open Go.RowKit

def strs (T : List (List Nat)) : List Value := T.map fun b => Value.string (strOf b)
theorem strs_length (T : List (List Nat)) : (strs T).length = T.length := by simp [strs]
theorem strs_get {T : List (List Nat)} {k : Nat} {b : List Nat} (h : T[k]? = some b) : (strs T)[k]? = some (.string (strOf b)) := by simp [strs, h]
theorem strs_set (T : List (List Nat)) (k : Nat) (b : List Nat) : (strs T).set k (.string (strOf b)) = strs (T.set k b) := by simp [strs, List.map_set]
theorem strs_one (T : List (List Nat)) : ∀ v ∈ strs T, v.oneCell' = true := fun v hv => by
  obtain ⟨x, _, rfl⟩ := List.mem_map.1 hv
  rfl
/-- A Lay, as the reference has it. -/
def rlain (x : Nat × List Nat) : List Value := [.int .i64 (x.1 : Int), .string (strOf x.2)]
def rlains (A : List (Nat × List Nat)) : List Value := (A.map rlain).flatten
theorem rlains_len (A : List (Nat × List Nat)) : ∀ b ∈ A.map rlain, b.length = 2 := fun b hb => by
  obtain ⟨x, hx, rfl⟩ := List.mem_map.1 hb
  rfl
theorem rlains_get {A : List (Nat × List Nat)} {k j : Nat} {x : Nat × List Nat} (h : A[k]? = some x) (hj : j < 2) : (rlains A)[k * 2 + j]? = (rlain x)[j]? := by
  rw [rlains, flatten_get 2 _ k j (rlains_len A) hj, List.getElem?_map, h]
  rfl
theorem rlains_snoc (A : List (Nat × List Nat)) (x : Nat × List Nat) : rlains (A ++ [x]) = rlains A ++ rlain x := by simp [rlains]

def leftOf : Option Nat → Int
  | none => -1
  | some n => (n : Int)
def rhead (vt va : Value) (D : DS) : List Value := [vt, va, .int .i64 (leftOf D.left), .bool D.down, .int .i64 (D.turns : Int)]

/-- The reference's drum is D. -/
structure RAt (w0 : World) (r : Nat) (vt va : Value) (D : DS) (w : World) : Prop where
  head : Blk w r 48 (rhead vt va D)
  tr : w.ownsRow w0.heap.size 9 1 vt D.T.length (strs D.T)
  af : w.ownsRow w0.heap.size 50 2 va D.A.length (rlains D.A)
structure Rs (w0 : World) (r : Nat) (D : DS) (w : World) : Prop where
  lo : w0.heap.size ≤ r
  ex : ∃ vt va, RAt w0 r vt va D w
/-- Its blocks. -/
def rmine (w0 w : World) (g : Nat) : Prop := w0.heap.size ≤ g ∧ ∃ t cs, (t = 48 ∨ t = 9 ∨ t = 50) ∧ Blk w g t cs
def RNext (w0 : World) (r : Nat) (D' : DS) (w w' : World) : Prop := Rs w0 r D' w' ∧ Touch (rmine w0 w) w w'

theorem rmine_mine {w0 w : World} {g : Nat} (h : rmine w0 w g) : mine w0 w g := by
  obtain ⟨h1, t, cs, ht, hb⟩ := h
  refine ⟨h1, t, cs, ?_, hb⟩
  rcases ht with rfl | rfl | rfl <;> (unfold other; decide)
theorem Blk.rstay {w0 w w' : World} {g : Nat} {t : TypeId} {cs : List Value} (h : Blk w g t cs) (m : Touch (rmine w0 w) w w') (h1 : t ≠ 48 ∧ t ≠ 9 ∧ t ≠ 50) : Blk w' g t cs :=
  h.touch m (fun ⟨_, t', cs', ht, hb⟩ => by
    rcases ht with rfl | rfl | rfl
    · exact h.ne hb h1.1 rfl
    · exact h.ne hb h1.2.1 rfl
    · exact h.ne hb h1.2.2 rfl)
theorem RAt.touch {S : Nat → Prop} {w0 w w' : World} {r : Nat} {vt va : Value} {D : DS} (h : RAt w0 r vt va D w) (m : Touch S w w') (hn : ∀ g, S g → ¬ rmine w0 w g ∨ w.heap.size ≤ g) (lo : w0.heap.size ≤ r) : RAt w0 r vt va D w' := by
  have no : ∀ (g : Nat) (t : TypeId) (cs : List Value), w0.heap.size ≤ g → (t = 48 ∨ t = 9 ∨ t = 50) → Blk w g t cs → ¬ S g := fun g t cs hg ht hb q => by
    rcases hn g q with h1 | h1
    · exact h1 ⟨hg, t, cs, ht, hb⟩
    · have := hb.lt; omega
  refine ⟨h.head.touch m (no r 48 _ lo (.inl rfl) h.head), owns_touch h.tr m (fun g hg => ?_), owns_touch h.af m (fun g hg => ?_)⟩
  · rcases h.tr.2 with ⟨e, _⟩ | ⟨g', cap, cur, e, hb', hg', _⟩
    · rw [e] at hg; cases hg
    · rw [e] at hg
      have : g' = g := by simpa [Value.ownBlock] using hg
      subst this
      exact no g' 9 cur.toList hb' (.inr (.inl rfl)) hg'
  · rcases h.af.2 with ⟨e, _⟩ | ⟨g', cap, cur, e, hb', hg', _⟩
    · rw [e] at hg; cases hg
    · rw [e] at hg
      have : g' = g := by simpa [Value.ownBlock] using hg
      subst this
      exact no g' 50 cur.toList hb' (.inr (.inr rfl)) hg'
theorem RAt.old {w0 w w' : World} {r : Nat} {vt va : Value} {D : DS} (h : RAt w0 r vt va D w) (m : Old w w') (lo : w0.heap.size ≤ r) : RAt w0 r vt va D w' := h.touch m (fun _ q => q.elim) lo
theorem RAt.kept {w0 w w' : World} {r : Nat} {vt va : Value} {D : DS} (h : RAt w0 r vt va D w) (m : Kept w w') : RAt w0 r vt va D w' :=
  ⟨m 48 r _ (by unfold other; decide) h.head, owns_kept h.tr m (by unfold other; decide), owns_kept h.af m (by unfold other; decide)⟩
theorem Rs.old {w0 w w' : World} {r : Nat} {D : DS} (h : Rs w0 r D w) (m : Old w w') : Rs w0 r D w' := by
  obtain ⟨vt, va, ha⟩ := h.ex
  exact ⟨h.lo, vt, va, ha.old m h.lo⟩
theorem Rs.kept {w0 w w' : World} {r : Nat} {D : DS} (h : Rs w0 r D w) (m : Kept w w') : Rs w0 r D w' := by
  obtain ⟨vt, va, ha⟩ := h.ex
  exact ⟨h.lo, vt, va, ha.kept m⟩

/-- A number or a flag of the head is written. -/
theorem RAt.set {w0 w : World} {r : Nat} {vt va : Value} {D D' : DS} (h : RAt w0 r vt va D w) (i : Nat) (v : Value) (hh : (rhead vt va D).set i v = rhead vt va D') (hT : D'.T = D.T) (hA : D'.A = D.A) :
    RAt w0 r vt va D' (w.setCell ⟨r, i, none⟩ v) := by
  have T : Touch (fun g => g = r) w (w.setCell ⟨r, i, none⟩ v) := Touch.one ⟨r, i, none⟩ v
  refine ⟨by rw [← hh]; exact h.head.set i v, ?_, ?_⟩
  · rw [hT]; exact owns_touch h.tr T (fun g hg e => own_blk h.tr h.head (by decide) (by rw [hg, e]))
  · rw [hA]; exact owns_touch h.af T (fun g hg e => own_blk h.af h.head (by decide) (by rw [hg, e]))
theorem rmine_r {w0 w : World} {r : Nat} {vt va : Value} {D : DS} (h : RAt w0 r vt va D w) (lo : w0.heap.size ≤ r) : rmine w0 w r := ⟨lo, 48, _, .inl rfl, h.head⟩
theorem Touch.head {w0 w : World} {r : Nat} {vt va : Value} {D : DS} (h : RAt w0 r vt va D w) (lo : w0.heap.size ≤ r) (i : Nat) (v : Value) : Touch (rmine w0 w) w (w.setCell ⟨r, i, none⟩ v) :=
  (Touch.one ⟨r, i, none⟩ v).mono (fun g _ hg => by rw [hg]; exact rmine_r h lo)
theorem Touch.rtrans {w0 a b c : World} (h : Touch (rmine w0 a) a b) (k : Touch (rmine w0 b) b c) : Touch (rmine w0 a) a c :=
  ⟨k.os.trans h.os, k.tape.trans h.tape, k.output.trans h.output, Nat.le_trans h.size k.size, fun i hi hn => by
    have hb := h.block i hi hn
    rw [k.block i (Nat.lt_of_lt_of_le hi h.size) (fun ⟨h1, t, cs, ht, hB⟩ => hn ⟨h1, t, cs, ht, by unfold Blk at hB ⊢; rw [← hb]; exact hB⟩)]
    exact hb⟩

set_option maxRecDepth 100000 in
theorem zeros_any (w : World) : Calls Try.prog 34 #[.int .i64 96] w fun e w' => e = .returned (.slice (some ⟨w.heap.size, 0, none⟩) 96 96) ∧ Blk w' w.heap.size 5 (cells (zeros 96)) ∧ Old w w' := by
  have hmk : (Instr.makeSlice 28 (.int .i64 96) (.int .i64 96)).run Try.prog w = .ok (.slice (some ⟨w.heap.size, 0, none⟩) 96 96) (w.alloc (.cells (cells (zeros 96)).toArray 5)) := make_bytes 96 (by decide) w
  have K := Lib.hid (Blk.new w 5 (cells (zeros 96)))
  have T : Hid (Old w (w.alloc (.cells (cells (zeros 96)).toArray 5))) := (Touch.refl _ _).alloc _
  generalize w.alloc (.cells (cells (zeros 96)).toArray 5) = w1 at *
  have hmx : max (0 : Int) 96 = 96 := by omega
  go_enter Try.func34, Try.ntmps34
  go_wp2_with fail
  go_ret
  exact ⟨rfl, K.out, T.out⟩

theorem rbreak_any {w0 w : World} {r : Nat} {D : DS} (h : Rs w0 r D w) (n : Int) (hn : n ≤ 1000) (hn2 : -1000 ≤ n) :
    Calls Try.prog 25 #[.pointer (some ⟨r, 0, none⟩), .int .i64 n] w fun e w' => e = .returned (.tuple #[]) ∧ RNext w0 r (D.brk (breakOf n)) w w' := by
  obtain ⟨vt, va, ha⟩ := h.ex
  have hc : w.cell? ⟨r, 2, none⟩ = some (.int .i64 (leftOf D.left)) := ha.head.cell 2
  have hf : w.frozen? ⟨r, 2, none⟩ = false := ha.head.frozen 2
  have hb : max (-1) n = leftOf (breakOf n) := by unfold breakOf; split <;> simp [leftOf] <;> omega
  have HE : Hid (RNext w0 r (D.brk (breakOf n)) w (w.setCell ⟨r, 2, none⟩ (.int .i64 (leftOf (breakOf n))))) := ⟨⟨h.lo, vt, va, ha.set 2 _ rfl rfl rfl⟩, Touch.head ha h.lo 2 _⟩
  clear h ha
  generalize leftOf (breakOf n) = q at *
  go_enter Try.func25, Try.ntmps25
  go_wp2_with fail
  go_end0
  exact ⟨rfl, HE.out⟩

set_option maxHeartbeats 1600000 in
theorem rturn_any {w0 w : World} {r : Nat} {D : DS} (h : Rs w0 r D w) (ht : D.turns ≤ 100000) (hl : ∀ n, D.left = some n → n ≤ 1000) :
    Calls Try.prog 35 #[.pointer (some ⟨r, 0, none⟩)] w fun e w' => e = .returned (.int .i64 D.err) ∧ RNext w0 r D.turned w w' := by
  obtain ⟨vt, va, ha⟩ := h.ex
  have lo := h.lo
  have hc2 : w.cell? ⟨r, 2, none⟩ = some (.int .i64 (leftOf D.left)) := ha.head.cell 2
  have hc3 : w.cell? ⟨r, 3, none⟩ = some (.bool D.down) := ha.head.cell 3
  have hc4 : w.cell? ⟨r, 4, none⟩ = some (.int .i64 (D.turns : Int)) := ha.head.cell 4
  have hf2 : w.frozen? ⟨r, 2, none⟩ = false := ha.head.frozen 2
  have hf3 : w.frozen? ⟨r, 3, none⟩ = false := ha.head.frozen 3
  have hf4 : w.frozen? ⟨r, 4, none⟩ = false := ha.head.frozen 4
  by_cases h0 : D.left = some 0
  · have hg := goes_left h0
    have e1 : D.turned = { D with down := true } := by unfold DS.turned; rw [hg]; simp
    have e2 : D.err = 4 := by unfold DS.err; rw [hg]; rfl
    have HE : Hid (RNext w0 r D.turned w (w.setCell ⟨r, 3, none⟩ (.bool true))) := ⟨⟨lo, vt, va, ha.set 3 _ (by rw [e1]; rfl) (by rw [e1]) (by rw [e1])⟩, Touch.head ha lo 3 _⟩
    rw [h0] at hc2
    have hc2' : w.cell? ⟨r, 2, none⟩ = some (.int .i64 0) := hc2
    rw [e2]
    clear h ha hl e1 e2 hg h0 hc2 lo
    generalize D.down = q at *
    generalize D.turned = D' at *
    go_enter Try.func35, Try.ntmps35
    go_wp2_with fail
    go_ret
    exact ⟨rfl, HE.out⟩
  · have hln : ¬ leftOf D.left = 0 := by
      cases hd : D.left with
      | none => simp [leftOf]
      | some n => rw [hd] at h0; simp at h0; simp [leftOf]; omega
    cases hd : D.down with
    | true =>
      have hg := goes_down hd
      have e1 : D.turned = D := by unfold DS.turned; rw [hg]; simp only [Bool.false_eq_true, if_false]; rw [← hd]
      have e2 : D.err = 4 := by unfold DS.err; rw [hg]; rfl
      have HE : Hid (RNext w0 r D.turned w w) := ⟨by rw [e1]; exact h, Touch.refl _ _⟩
      rw [hd] at hc3
      rw [e2]
      have hln2 : (leftOf D.left == 0) = false := by simpa using hln
      clear h ha hl e1 e2 hg h0 hd lo
      generalize D.turned = D' at *
      generalize leftOf D.left = q at *
      go_enter Try.func35, Try.ntmps35
      go_wp2_with fail
      go_ret
      exact ⟨rfl, HE.out⟩
    | false =>
      have hg := goes_yes hd h0
      have e2 : D.err = 0 := by unfold DS.err; rw [hg]; rfl
      have e1 : D.turned = { D with turns := D.turns + 1, left := D.left.map (· - 1) } := by unfold DS.turned; rw [hg]; simp
      have hmx : max (-1) (leftOf D.left - 1) = leftOf D.turned.left := by
        rw [e1]
        cases hd2 : D.left with
        | none => show max (-1) ((-1 : Int) - 1) = -1; omega
        | some n => rw [hd2] at h0; simp at h0; show max (-1) ((n : Int) - 1) = ((n - 1 : Nat) : Int); omega
      have hlb : -1 ≤ leftOf D.left ∧ leftOf D.left ≤ 1000 := by
        cases hd2 : D.left with
        | none => simp [leftOf]
        | some n => have := hl n hd2; simp [leftOf]; omega
      have a1 : RAt w0 r vt va { D with turns := D.turns + 1 } (w.setCell ⟨r, 4, none⟩ (.int .i64 ((D.turns : Int) + 1))) := ha.set 4 _ rfl rfl rfl
      have HE : Hid (RNext w0 r D.turned w ((w.setCell ⟨r, 4, none⟩ (.int .i64 ((D.turns : Int) + 1))).setCell ⟨r, 2, none⟩ (.int .i64 (leftOf D.turned.left)))) :=
        ⟨⟨lo, vt, va, a1.set 2 _ (by rw [e1]; rfl) (by rw [e1]) (by rw [e1])⟩, (Touch.head ha lo 4 _).rtrans (Touch.head a1 lo 2 _)⟩
      rw [hd] at hc3
      rw [e2]
      have hln2 : (leftOf D.left == 0) = false := by simpa using hln
      clear h ha hl e1 e2 hg h0 hd lo a1
      generalize leftOf D.turned.left = q2 at *
      generalize D.turned = D' at *
      generalize leftOf D.left = q at *
      generalize D.turns = tn at *
      go_enter Try.func35, Try.ntmps35
      go_wp2_with fail
      go_ret
      exact ⟨rfl, HE.out⟩
end Go.Proofs.Ythbkhhcijekplaa
