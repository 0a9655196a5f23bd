/- The reference's drum in memory; the contracts of its New, Look, Lay, Settle, set, turn. -/
import Derived.Test.YtmingbgohdhajaaGreatRefB
import Derived.Test.YtmingbgohdhajaaGreatFallJ
import Derived.Lib.ConvBytes
import Derived.Deep.RegionLaw
import Derived.Deep.RegionHeld3
namespace Go.Proofs.YtmingbgohdhajaaGreat
open Go.RowKit
set_option maxRecDepth 100000

theorem owns_kept {w w' : World} {base size n : Nat} {e : TypeId} {v : Value} {xs : List Value} (h : w.ownsRow base e size v n xs) (m : Kept w w') (he : other e) : w'.ownsRow base e size v n xs := by
  refine ⟨h.1, ?_⟩
  rcases h.2 with h0 | ⟨g, cap, cur, rfl, hb, hg, h1, h2, h3, h4⟩
  · exact .inl h0
  · exact .inr ⟨g, cap, cur, rfl, hb, m.blk e g cur.toList he hg, h1, h2, h3, h4⟩

theorem rstr_data (xs : List Nat) : (strOf xs).data.toList = xs.map fun (x : Nat) => UInt8.ofNat x := by
  unfold strOf
  rw [strOfNums_data, List.map_map]
  apply List.map_congr_left
  intro x _
  simp
theorem rstr_mix (xs ys : List Nat) (c : Nat) (hy : ys.length = 96) : (strOf xs).extract 0 c ++ (strOf ys).extract c 96 = strOf (mix c xs ys) := by
  apply ByteArray.ext
  apply Array.ext'
  rw [rstr_data]
  unfold mix
  rw [ByteArray.data_append, Array.toList_append, ByteArray.data_extract, ByteArray.data_extract, Array.toList_extract, Array.toList_extract, rstr_data, rstr_data, List.map_append, List.map_take, List.map_drop]
  simp [List.extract]
  exact List.take_of_length_le (by simp [hy])
theorem rstr_size (xs : List Nat) : (strOf xs).size = xs.length := by
  have := congrArg List.length (rstr_data xs)
  simpa using this

/-- Block g is a row of bytes that begins with xs; none of these is frozen. -/
structure Loose (w : World) (g : Nat) (xs : List Nat) : Prop where
  byte : ∀ x ∈ xs, x < 256
  row : ∃ (rest : List Value) (fr : Nat × Nat), w.heap[g]? = some (.cells (cells xs ++ rest).toArray 5 fr) ∧ (xs.length ≤ fr.1 ∨ fr = (0, 0))
theorem Loose.lt {w : World} {g : Nat} {xs : List Nat} (h : Loose w g xs) : g < w.heap.size := by
  obtain ⟨rest, fr, hg, _⟩ := h.row
  exact (Array.getElem?_eq_some_iff.1 hg).1
theorem Loose.cell {w : World} {g : Nat} {xs : List Nat} (h : Loose w g xs) (i : Nat) (hi : i < xs.length) : w.cell? ⟨g, i, none⟩ = some (.int .u8 (at0 xs i : Int)) := by
  obtain ⟨rest, fr, hg, _⟩ := h.row
  unfold World.cell?
  simp only [hg]
  rw [List.getElem?_toArray, List.getElem?_append_left (by rw [cells_length]; exact hi)]
  exact cells_get xs i hi
theorem Loose.frozen {w : World} {g : Nat} {xs : List Nat} (h : Loose w g xs) (i : Nat) (hi : i < xs.length) : w.frozen? ⟨g, i, none⟩ = false := by
  obtain ⟨rest, fr, hg, hf⟩ := h.row
  unfold World.frozen?
  simp only [hg]
  rcases hf with hf | rfl
  · simp; omega
  · simp
theorem Loose.has {w : World} {g : Nat} {xs : List Nat} (h : Loose w g xs) : Has w (some ⟨g, 0, none⟩) xs :=
  ⟨h.byte, fun i hi => ⟨g, 0, rfl, by rw [Nat.zero_add]; exact h.cell i hi⟩⟩
theorem Loose.touch {S : Nat → Prop} {w w' : World} {g : Nat} {xs : List Nat} (h : Loose w g xs) (m : Touch S w w') (hn : ¬ S g) : Loose w' g xs := by
  obtain ⟨rest, fr, hg, hf⟩ := h.row
  exact ⟨h.byte, rest, fr, by rw [m.block g h.lt hn]; exact hg, hf⟩
theorem Loose.old {w w' : World} {g : Nat} {xs : List Nat} (h : Loose w g xs) (m : Old w w') : Loose w' g xs := h.touch m (fun h => h)
theorem Own.loose {w : World} {g : Nat} {xs : List Nat} (h : Own w g xs) : Loose w g xs := by
  obtain ⟨rest, hg⟩ := h.row
  exact ⟨h.byte, rest, (0, 0), hg, .inr rfl⟩
theorem Loose.set {w : World} {g : Nat} {xs : List Nat} (h : Loose w g xs) (i x : Nat) (hi : i < xs.length) (hx : x < 256) : Loose (w.setCell ⟨g, i, none⟩ (.int .u8 (x : Int))) g (xs.set i x) := by
  obtain ⟨rest, fr, hg, hf⟩ := h.row
  refine ⟨fun y hy => ?_, rest, fr, ?_, by rw [List.length_set]; exact hf⟩
  · rcases List.mem_or_eq_of_mem_set hy with h1 | rfl
    · exact h.byte y h1
    · exact hx
  · rw [setCell_eq_setRow w g i _ 5 fr _ hg, setRow_heap w g _ _ 5 fr hg]
    congr 2
    apply Array.ext'
    rw [Array.toList_setIfInBounds]
    simp only [cells, List.map_set]
    rw [List.set_append_left _ _ (by simpa using hi)]

def rstrs (T : List (List Nat)) : List Value := T.map fun b => Value.string (strOf b)
theorem rstrs_length (T : List (List Nat)) : (rstrs T).length = T.length := by simp [rstrs]
theorem rstrs_get {T : List (List Nat)} {k : Nat} {b : List Nat} (h : T[k]? = some b) : (rstrs T)[k]? = some (.string (strOf b)) := by simp [rstrs, h]
theorem rstrs_set (T : List (List Nat)) (k : Nat) (b : List Nat) : (rstrs T).set k (.string (strOf b)) = rstrs (T.set k b) := by simp [rstrs, List.map_set]
theorem rstrs_one (T : List (List Nat)) : ∀ v ∈ rstrs T, v.oneCell' = true := fun v hv => by
  obtain ⟨x, _, rfl⟩ := List.mem_map.1 hv
  rfl
/-- A Lay, as the reference has it. -/
def rlain (x : Nat × List Nat) : List Value := [.int .i64 (x.1 : Int), .string (strOf x.2)]
def rlains (A : List (Nat × List Nat)) : List Value := (A.map rlain).flatten
theorem rlains_len (A : List (Nat × List Nat)) : ∀ b ∈ A.map rlain, b.length = 2 := fun b hb => by
  obtain ⟨x, hx, rfl⟩ := List.mem_map.1 hb
  rfl
theorem rlains_get {A : List (Nat × List Nat)} {k j : Nat} {x : Nat × List Nat} (h : A[k]? = some x) (hj : j < 2) : (rlains A)[k * 2 + j]? = (rlain x)[j]? := by
  rw [rlains, flatten_get 2 _ k j (rlains_len A) hj, List.getElem?_map, h]
  rfl
theorem rlains_snoc (A : List (Nat × List Nat)) (x : Nat × List Nat) : rlains (A ++ [x]) = rlains A ++ rlain x := by simp [rlains]

def leftOf : Option Nat → Int
  | none => -1
  | some n => (n : Int)
def rhead (vt va : Value) (D : DS) : List Value := [vt, va, .int .i64 (leftOf D.left), .bool D.down, .int .i64 (D.turns : Int)]

/-- The reference's drum is D. -/
structure RAt (w0 : World) (r : Nat) (vt va : Value) (D : DS) (w : World) : Prop where
  head : Blk w r 59 (rhead vt va D)
  tr : w.ownsRow w0.heap.size 9 1 vt D.T.length (rstrs D.T)
  af : w.ownsRow w0.heap.size 109 2 va D.A.length (rlains D.A)
structure Rs (w0 : World) (r : Nat) (D : DS) (w : World) : Prop where
  lo : w0.heap.size ≤ r
  ex : ∃ vt va, RAt w0 r vt va D w
/-- Its blocks. -/
def rmine (w0 w : World) (g : Nat) : Prop := w0.heap.size ≤ g ∧ ∃ t cs, (t = 59 ∨ t = 109) ∧ Blk w g t cs
def rall (w0 w : World) (g : Nat) : Prop := w0.heap.size ≤ g ∧ ∃ t cs, (t = 59 ∨ t = 9 ∨ t = 109) ∧ Blk w g t cs
def RNext (w0 : World) (r : Nat) (D' : DS) (w w' : World) : Prop := Rs w0 r D' w' ∧ Touch (rmine w0 w) w w'

theorem Blk.rstay {w0 w w' : World} {g : Nat} {t : TypeId} {cs : List Value} (h : Blk w g t cs) (m : Touch (rmine w0 w) w w') (h1 : t ≠ 59 ∧ t ≠ 109) : Blk w' g t cs :=
  h.touch m (fun ⟨_, t', cs', ht, hb⟩ => by
    rcases ht with rfl | rfl
    · exact h.ne hb h1.1 rfl
    · exact h.ne hb h1.2 rfl)
theorem RAt.touch {S : Nat → Prop} {w0 w w' : World} {r : Nat} {vt va : Value} {D : DS} (h : RAt w0 r vt va D w) (m : Touch S w w') (hn : ∀ g, S g → ¬ rall w0 w g ∨ w.heap.size ≤ g) (lo : w0.heap.size ≤ r) : RAt w0 r vt va D w' := by
  have no : ∀ (g : Nat) (t : TypeId) (cs : List Value), w0.heap.size ≤ g → (t = 59 ∨ t = 9 ∨ t = 109) → Blk w g t cs → ¬ S g := fun g t cs hg ht hb q => by
    rcases hn g q with h1 | h1
    · exact h1 ⟨hg, t, cs, ht, hb⟩
    · have := hb.lt; omega
  refine ⟨h.head.touch m (no r 59 _ lo (.inl rfl) h.head), owns_touch h.tr m (fun g hg => ?_), owns_touch h.af m (fun g hg => ?_)⟩
  · rcases h.tr.2 with ⟨e, _⟩ | ⟨g', cap, cur, e, hb', hg', _⟩
    · rw [e] at hg; cases hg
    · rw [e] at hg
      have : g' = g := by simpa [Value.ownBlock] using hg
      subst this
      exact no g' 9 cur.toList hb' (.inr (.inl rfl)) hg'
  · rcases h.af.2 with ⟨e, _⟩ | ⟨g', cap, cur, e, hb', hg', _⟩
    · rw [e] at hg; cases hg
    · rw [e] at hg
      have : g' = g := by simpa [Value.ownBlock] using hg
      subst this
      exact no g' 109 cur.toList hb' (.inr (.inr rfl)) hg'
theorem RAt.old {w0 w w' : World} {r : Nat} {vt va : Value} {D : DS} (h : RAt w0 r vt va D w) (m : Old w w') (lo : w0.heap.size ≤ r) : RAt w0 r vt va D w' := h.touch m (fun _ q => q.elim) lo
theorem RAt.kept {w0 w w' : World} {r : Nat} {vt va : Value} {D : DS} (h : RAt w0 r vt va D w) (m : Kept w w') : RAt w0 r vt va D w' :=
  ⟨m.blk 59 r _ (by unfold other; decide) h.head, owns_kept h.tr m (by unfold other; decide), owns_kept h.af m (by unfold other; decide)⟩
theorem Rs.old {w0 w w' : World} {r : Nat} {D : DS} (h : Rs w0 r D w) (m : Old w w') : Rs w0 r D w' := by
  obtain ⟨vt, va, ha⟩ := h.ex
  exact ⟨h.lo, vt, va, ha.old m h.lo⟩
theorem Rs.kept {w0 w w' : World} {r : Nat} {D : DS} (h : Rs w0 r D w) (m : Kept w w') : Rs w0 r D w' := by
  obtain ⟨vt, va, ha⟩ := h.ex
  exact ⟨h.lo, vt, va, ha.kept m⟩

/-- A number or a flag of the head is written. -/
theorem RAt.set {w0 w : World} {r : Nat} {vt va : Value} {D D' : DS} (h : RAt w0 r vt va D w) (i : Nat) (v : Value) (hh : (rhead vt va D).set i v = rhead vt va D') (hT : D'.T = D.T) (hA : D'.A = D.A) :
    RAt w0 r vt va D' (w.setCell ⟨r, i, none⟩ v) := by
  have T : Touch (fun g => g = r) w (w.setCell ⟨r, i, none⟩ v) := Touch.one ⟨r, i, none⟩ v
  refine ⟨by rw [← hh]; exact h.head.set i v, ?_, ?_⟩
  · rw [hT]; exact owns_touch h.tr T (fun g hg e => own_blk h.tr h.head (by decide) (by rw [hg, e]))
  · rw [hA]; exact owns_touch h.af T (fun g hg e => own_blk h.af h.head (by decide) (by rw [hg, e]))
theorem rmine_r {w0 w : World} {r : Nat} {vt va : Value} {D : DS} (h : RAt w0 r vt va D w) (lo : w0.heap.size ≤ r) : rmine w0 w r := ⟨lo, 59, _, .inl rfl, h.head⟩
theorem Touch.head {w0 w : World} {r : Nat} {vt va : Value} {D : DS} (h : RAt w0 r vt va D w) (lo : w0.heap.size ≤ r) (i : Nat) (v : Value) : Touch (rmine w0 w) w (w.setCell ⟨r, i, none⟩ v) :=
  (Touch.one ⟨r, i, none⟩ v).mono (fun g _ hg => by rw [hg]; exact rmine_r h lo)
theorem Touch.rtrans {w0 a b c : World} (h : Touch (rmine w0 a) a b) (k : Touch (rmine w0 b) b c) : Touch (rmine w0 a) a c :=
  ⟨k.os.trans h.os, k.tape.trans h.tape, k.output.trans h.output, Nat.le_trans h.size k.size, fun i hi hn => by
    have hb := h.block i hi hn
    rw [k.block i (Nat.lt_of_lt_of_le hi h.size) (fun ⟨h1, t, cs, ht, hB⟩ => hn ⟨h1, t, cs, ht, by unfold Blk at hB ⊢; rw [← hb]; exact hB⟩)]
    exact hb⟩

theorem zeros_any (w : World) : Calls Tryz.prog 39 #[.int .i64 96] w fun e w' => e = .returned (.slice (some ⟨w.heap.size, 0, none⟩) 96 96) ∧ Blk w' w.heap.size 5 (cells (zeros 96)) ∧ Old w w' :=
  (rzeros_any 96 96 (by decide) (by omega) w).mono fun _ _ ⟨he, hw⟩ => ⟨he, by rw [hw]; exact Blk.new w 5 (cells (zeros 96)), by rw [hw]; exact (Touch.refl _ _).alloc _⟩

set_option maxHeartbeats 1600000 in
theorem rturn_any {w0 w : World} {r : Nat} {D : DS} (h : Rs w0 r D w) (ht : D.turns ≤ 100000) (hl : ∀ n, D.left = some n → n ≤ 1000) :
    Calls Tryz.prog 72 #[.pointer (some ⟨r, 0, none⟩)] w fun e w' => e = .returned (.int .i64 D.err) ∧ RNext w0 r D.turned w w' := by
  obtain ⟨vt, va, ha⟩ := h.ex
  have lo := h.lo
  have hc2 : w.cell? ⟨r, 2, none⟩ = some (.int .i64 (leftOf D.left)) := ha.head.cell 2
  have hc3 : w.cell? ⟨r, 3, none⟩ = some (.bool D.down) := ha.head.cell 3
  have hc4 : w.cell? ⟨r, 4, none⟩ = some (.int .i64 (D.turns : Int)) := ha.head.cell 4
  have hf2 : w.frozen? ⟨r, 2, none⟩ = false := ha.head.frozen 2
  have hf3 : w.frozen? ⟨r, 3, none⟩ = false := ha.head.frozen 3
  have hf4 : w.frozen? ⟨r, 4, none⟩ = false := ha.head.frozen 4
  by_cases h0 : D.left = some 0
  · have hg := goes_left h0
    have e1 : D.turned = { D with down := true } := by unfold DS.turned; rw [hg]; simp
    have e2 : D.err = 4 := by unfold DS.err; rw [hg]; rfl
    have HE : Hid (RNext w0 r D.turned w (w.setCell ⟨r, 3, none⟩ (.bool true))) := ⟨⟨lo, vt, va, ha.set 3 _ (by rw [e1]; rfl) (by rw [e1]) (by rw [e1])⟩, Touch.head ha lo 3 _⟩
    rw [h0] at hc2
    have hc2' : w.cell? ⟨r, 2, none⟩ = some (.int .i64 0) := hc2
    rw [e2]
    clear h ha hl e1 e2 hg h0 hc2 lo
    generalize D.down = q at *
    generalize D.turned = D' at *
    go_enter Tryz.func72, Tryz.ntmps72
    go_wp2_with fail
    go_ret
    exact ⟨rfl, HE.out⟩
  · have hln : ¬ leftOf D.left = 0 := by
      cases hd : D.left with
      | none => simp [leftOf]
      | some n => rw [hd] at h0; simp at h0; simp [leftOf]; omega
    cases hd : D.down with
    | true =>
      have hg := goes_down hd
      have e1 : D.turned = D := by unfold DS.turned; rw [hg]; simp only [Bool.false_eq_true, if_false]; rw [← hd]
      have e2 : D.err = 4 := by unfold DS.err; rw [hg]; rfl
      have HE : Hid (RNext w0 r D.turned w w) := ⟨by rw [e1]; exact h, Touch.refl _ _⟩
      rw [hd] at hc3
      rw [e2]
      have hln2 : (leftOf D.left == 0) = false := by simpa using hln
      clear h ha hl e1 e2 hg h0 hd lo
      generalize D.turned = D' at *
      generalize leftOf D.left = q at *
      go_enter Tryz.func72, Tryz.ntmps72
      go_wp2_with fail
      go_ret
      exact ⟨rfl, HE.out⟩
    | false =>
      have hg := goes_yes hd h0
      have e2 : D.err = 0 := by unfold DS.err; rw [hg]; rfl
      have e1 : D.turned = { D with turns := D.turns + 1, left := D.left.map (· - 1) } := by unfold DS.turned; rw [hg]; simp
      have hmx : max (-1) (leftOf D.left - 1) = leftOf D.turned.left := by
        rw [e1]
        cases hd2 : D.left with
        | none => show max (-1) ((-1 : Int) - 1) = -1; omega
        | some n => rw [hd2] at h0; simp at h0; show max (-1) ((n : Int) - 1) = ((n - 1 : Nat) : Int); omega
      have hlb : -1 ≤ leftOf D.left ∧ leftOf D.left ≤ 1000 := by
        cases hd2 : D.left with
        | none => simp [leftOf]
        | some n => have := hl n hd2; simp [leftOf]; omega
      have a1 : RAt w0 r vt va { D with turns := D.turns + 1 } (w.setCell ⟨r, 4, none⟩ (.int .i64 ((D.turns : Int) + 1))) := ha.set 4 _ rfl rfl rfl
      have HE : Hid (RNext w0 r D.turned w ((w.setCell ⟨r, 4, none⟩ (.int .i64 ((D.turns : Int) + 1))).setCell ⟨r, 2, none⟩ (.int .i64 (leftOf D.turned.left)))) :=
        ⟨⟨lo, vt, va, a1.set 2 _ (by rw [e1]; rfl) (by rw [e1]) (by rw [e1])⟩, (Touch.head ha lo 4 _).rtrans (Touch.head a1 lo 2 _)⟩
      rw [hd] at hc3
      rw [e2]
      have hln2 : (leftOf D.left == 0) = false := by simpa using hln
      clear h ha hl e1 e2 hg h0 hd lo a1
      generalize leftOf D.turned.left = q2 at *
      generalize D.turned = D' at *
      generalize leftOf D.left = q at *
      generalize D.turns = tn at *
      go_enter Tryz.func72, Tryz.ntmps72
      go_wp2_with fail
      go_ret
      exact ⟨rfl, HE.out⟩
theorem rinfo9 : (Tryz.prog.info? 9).map (fun i => (i.zero, i.size, i.bytes)) = some (some (.string ⟨#[]⟩), 1, 16) := by kernel_rfl
theorem str_form {w : World} {base n : Nat} {v : Value} {xs : List Value} (h : w.ownsRow base 9 1 v n xs) : ∃ a c, v = .slice a n c := by
  rcases h.2 with ⟨rfl, rfl⟩ | ⟨g, cap, cur, rfl, _⟩
  · exact ⟨none, 0, rfl⟩
  · exact ⟨_, _, rfl⟩
theorem row_ptr {w : World} {base n c size : Nat} {e : TypeId} {a : Option Addr} {xs : List Value} (h : w.ownsRow base e size (.slice a n c) n xs) (hn : 0 < n) : ∃ g, a = some ⟨g, 0, none⟩ ∧ base ≤ g ∧ ∃ cs, Blk w g e cs := by
  rcases h.2 with ⟨_, rfl⟩ | ⟨g, cap, cur, e, hb, hg, _⟩
  · omega
  · injection e with e1 e2 e3
    exact ⟨g, e1, hb, cur.toList, hg⟩

set_option maxRecDepth 100000 in
set_option maxHeartbeats 1600000 in
theorem rset_at {w0 w : World} {r : Nat} {vt va : Value} {D : DS} (lo : w0.heap.size ≤ r) (ha : RAt w0 r vt va D w) (hN : 10 ≤ D.T.length) (hN2 : D.T.length ≤ 4096) (h0 : w0.heap.size ≤ w.heap.size) (k : Nat) (xs : List Nat) (hk : k < D.T.length) :
    Calls Tryz.prog 54 #[.pointer (some ⟨r, 0, none⟩), .int .i64 k, .string (strOf xs)] w fun e w' => e = .returned (.tuple #[]) ∧ (∃ vt', RAt w0 r vt' va { D with T := D.T.set k xs } w') ∧ Touch (fun q => q = r) w w' := by
  obtain ⟨a, c, rfl⟩ := str_form ha.tr
  obtain ⟨g, rfl, hgb, cs, hgc⟩ := row_ptr ha.tr (by omega)
  have T1 : Old w (w.alloc (.cells #[] 9)) := (Touch.refl _ _).alloc _
  have a1 := ha.old T1 lo
  have hc0 : (w.alloc (.cells #[] 9)).cell? ⟨r, 0, none⟩ = some (.slice (some ⟨g, 0, none⟩) D.T.length c) := a1.head.cell 0
  obtain ⟨i0, hi, hz0, hz1, hz2⟩ := info_parts rinfo9
  have own0 : (w.alloc (.cells #[] 9)).ownsRow w0.heap.size 9 1 (.slice (some ⟨w.heap.size, 0, none⟩) 0 0) 0 [] := ⟨by simp, .inr ⟨w.heap.size, 0, #[], rfl, h0, heap_alloc_new w _, Nat.le_refl _, Nat.zero_le _, by simp, by simp⟩⟩
  obtain ⟨v', w', hap, own', gr, _, hb⟩ := run_append_own_at (P := Tryz.prog) _ w0.heap.size 56 56 9 i0 _ 1 16 Tryz.underlying56 hi hz0 hz1 hz2 rfl (by omega) _ _ _ own0 ⟨g, 0, none⟩ D.T.length c (rstrs D.T) (by rw [rstrs_length, Nat.mul_one]) (fun j u hu => a1.tr.cells rfl j u hu) (rstrs_one D.T) (by simp only [maxLen]; omega) (by omega) (Nat.le_trans h0 T1.size)
  rw [Nat.zero_add, List.nil_append] at own'
  obtain ⟨a', c', rfl⟩ := str_form own'
  obtain ⟨g', rfl, _, cs', hgc'⟩ := row_ptr own' (by omega)
  have hg' : w.heap.size ≤ g' := by
    rcases hb with hb | hb
    · simp [Value.ownBlock] at hb; omega
    · simp [Value.ownBlock] at hb; omega
  have Tg : Touch (fun q => q = w.heap.size) (w.alloc (.cells #[] 9)) w' := Touch.grown gr (fun q hq => by simp [Value.ownBlock] at hq; omega)
  have T2 : Old w w' := T1.own Tg (Nat.le_refl _)
  have a2 := ha.old T2 lo
  have hcell : w'.cell? ⟨g', k, none⟩ = (rstrs D.T)[k]? := by rw [own'.cellAt k (by omega)]
  have hfr : w'.frozen? ⟨g', k, none⟩ = false := own'.frozenAt k
  obtain ⟨o, ho⟩ := get_of_lt hk
  rw [rstrs_get ho] at hcell
  have own2 := (own'.stored k (.string (strOf xs))).1
  rw [rstrs_set] at own2
  have T3 : Touch (fun q => q = g') w' (w'.setCell ⟨g', k, none⟩ (.string (strOf xs))) := Touch.one ⟨g', k, none⟩ _
  have hgr : r ≠ g' := a2.head.ne hgc' (by decide)
  have B3 := a2.head.touch T3 hgr
  have hc3 : (w'.setCell ⟨g', k, none⟩ (.string (strOf xs))).cell? ⟨r, 0, none⟩ = some (.slice (some ⟨g, 0, none⟩) D.T.length c) := B3.cell 0
  have hf3 : (w'.setCell ⟨g', k, none⟩ (.string (strOf xs))).frozen? ⟨r, 0, none⟩ = false := B3.frozen 0
  have af3 := owns_touch a2.af T3 (fun q hq e => own_blk a2.af hgc' (by decide) (by rw [hq, e]))
  have T4 : Touch (fun q => q = r) (w'.setCell ⟨g', k, none⟩ (.string (strOf xs))) ((w'.setCell ⟨g', k, none⟩ (.string (strOf xs))).setCell ⟨r, 0, none⟩ (.slice (some ⟨g', 0, none⟩) D.T.length c')) := Touch.one ⟨r, 0, none⟩ _
  have HE : Hid ((∃ vt', RAt w0 r vt' va { D with T := D.T.set k xs } ((w'.setCell ⟨g', k, none⟩ (.string (strOf xs))).setCell ⟨r, 0, none⟩ (.slice (some ⟨g', 0, none⟩) D.T.length c'))) ∧ Touch (fun q => q = r) w ((w'.setCell ⟨g', k, none⟩ (.string (strOf xs))).setCell ⟨r, 0, none⟩ (.slice (some ⟨g', 0, none⟩) D.T.length c'))) := by
    refine ⟨⟨.slice (some ⟨g', 0, none⟩) D.T.length c', ⟨B3.set 0 _, ?_, owns_touch af3 T4 (fun q hq e => own_blk af3 B3 (by decide) (by rw [hq, e]))⟩⟩, ((Touch.of_old (S := fun q => q = r) T2).setCell (p := ⟨g', k, none⟩) (.inr hg') _).setCell (p := ⟨r, 0, none⟩) (.inl rfl) _⟩
    have := owns_touch own2 T4 (fun q hq e => own_blk own2 B3 (by decide) (by rw [hq, e]))
    simpa using this
  have hk0 : (0 : Int) ≤ (k : Int) := by omega
  have hk1 : (k : Int) < (D.T.length : Int) := by omega
  clear ha lo hN hN2 hgb hgc a1 T1 hi hz0 hz1 hz2 own0 own' gr hb hgc' hg' Tg T2 a2 ho own2 T3 hgr B3 af3 T4 hk h0
  generalize D.T.length = n at *
  generalize strOf xs = s at *
  go_enter Tryz.func54, Tryz.ntmps54
  go_wp2_with (first | (at_builtin; refine wpList_append_run (o := ⟨some 12, _, 56, _, _, _⟩) rfl (.tmp 7) (.tmp 11) 56 56 rfl (.slice (some ⟨w.heap.size, 0, none⟩) 0 0) (.slice (some ⟨g, 0, none⟩) n c) rfl rfl _ _ hap ?_))
  go_end0
  exact ⟨rfl, HE.out⟩

theorem bytesCells_eq (w : World) (xs : List Nat) (hb : ∀ x ∈ xs, x < 256) : ∃ rest : List Value, Lib.bytesCells w 5 (strOf xs) = (cells xs ++ rest).toArray := by
  refine ⟨List.replicate (grownCap w (strOf xs).size 0 5 - (strOf xs).size) (.int .u8 0), ?_⟩
  apply Array.ext'
  unfold Lib.bytesCells
  have e : (strOf xs).data.toList.map (fun b => Value.int .u8 (b.toNat : Int)) = cells xs := by
    rw [rstr_data]
    unfold cells
    rw [List.map_map]
    apply List.map_congr_left
    intro x hx
    have := hb x hx
    simp
    omega
  rw [Array.toList_append, Array.toList_map, Array.toList_replicate, e]
/-- '[]byte(s)'. -/
theorem bytes_of (w : World) (xs : List Nat) (hb : ∀ x ∈ xs, x < 256) : ∃ c w', (convert 9 61 (.string (strOf xs))).run Tryz.prog w = .ok (.slice (some ⟨w.heap.size, 0, none⟩) xs.length c) w' ∧ xs.length ≤ c ∧ Loose w' w.heap.size xs ∧ Old w w' := by
  have hr := Lib.run_convert_string_bytes (P := Tryz.prog) w 9 61 5 (strOf xs) Tryz.underlying9 Tryz.underlying61 Tryz.underlying5
  rw [rstr_size] at hr
  obtain ⟨rest, he⟩ := bytesCells_eq w xs hb
  have hge := grownCap_ge w xs.length 0 5
  refine ⟨_, _, hr, by omega, ⟨hb, rest, _, by rw [Lib.bytesWorld_at_new, he], .inl ?_⟩, ?_⟩
  · show xs.length ≤ _
    simp [cells_length]
  · exact ⟨rfl, rfl, rfl, by rw [Lib.bytesWorld_size]; omega, fun k hk _ => Lib.bytesWorld_at_old w 5 _ k hk⟩
theorem rlain_form {w : World} {base n : Nat} {v : Value} {xs : List Value} (h : w.ownsRow base 109 2 v n xs) : ∃ a c, v = .slice a n c := by
  rcases h.2 with ⟨rfl, rfl⟩ | ⟨g, cap, cur, rfl, _⟩
  · exact ⟨none, 0, rfl⟩
  · exact ⟨_, _, rfl⟩
theorem rlain_cells {w : World} {base g c n : Nat} {A : List (Nat × List Nat)} (hn : A.length = n) (h : w.ownsRow base 109 2 (.slice (some ⟨g, 0, none⟩) n c) n (rlains A)) {i : Nat} {x : Nat × List Nat} (hi : A[i]? = some x) :
    w.cell? ⟨g, i * 2, none⟩ = some (.int .i64 (x.1 : Int)) ∧ w.cell? ⟨g, i * 2 + 1, none⟩ = some (.string (strOf x.2)) := by
  have hl := lt_of_get hi
  have h0 := h.cellAt (i * 2 + 0) (by omega)
  have h1 := h.cellAt (i * 2 + 1) (by omega)
  rw [rlains_get hi (by omega)] at h0 h1
  exact ⟨h0, h1⟩

theorem rlook_arg {w0 w : World} {r : Nat} {D : DS} (h : Rs w0 r D w) (k : Int) (hk : k < 0 ∨ (D.T.length : Int) ≤ k) :
    Calls Tryz.prog 33 #[.pointer (some ⟨r, 0, none⟩), .int .i64 k] w fun e w' => e = .returned (.tuple #[.slice none 0 0, .int .i64 1]) ∧ w = w' := by
  obtain ⟨vt, va, ha⟩ := h.ex
  obtain ⟨a, c, rfl⟩ := str_form ha.tr
  have hc0 : w.cell? ⟨r, 0, none⟩ = some (.slice a D.T.length c) := ha.head.cell 0
  clear h ha
  generalize D.T.length = n at *
  by_cases h0 : k < 0
  · clear hk
    go_enter Tryz.func33, Tryz.ntmps33
    go_wp2
    go_ret2
    exact ⟨rfl, rfl⟩
  · have h1 : (n : Int) ≤ k := by omega
    clear hk
    go_enter Tryz.func33, Tryz.ntmps33
    go_wp2
    go_ret2
    exact ⟨rfl, rfl⟩
theorem rlook_down {w0 w : World} {r : Nat} {D : DS} (h : Rs w0 r D w) (k : Nat) (hk : k < D.T.length) (hd : D.down = true) :
    Calls Tryz.prog 33 #[.pointer (some ⟨r, 0, none⟩), .int .i64 k] w fun e w' => e = .returned (.tuple #[.slice none 0 0, .int .i64 4]) ∧ w = w' := by
  obtain ⟨vt, va, ha⟩ := h.ex
  obtain ⟨a, c, rfl⟩ := str_form ha.tr
  have hc0 : w.cell? ⟨r, 0, none⟩ = some (.slice a D.T.length c) := ha.head.cell 0
  have hc3 : w.cell? ⟨r, 3, none⟩ = some (.bool true) := by rw [← hd]; exact ha.head.cell 3
  have h0 : ¬ (k : Int) < 0 := by omega
  have h1 : ¬ (D.T.length : Int) ≤ (k : Int) := by omega
  clear h ha hd hk
  generalize D.T.length = n at *
  go_enter Tryz.func33, Tryz.ntmps33
  go_wp2
  go_ret2
  exact ⟨rfl, rfl⟩

/-- What the reference's Look answers: bytes. -/
def RLooked (xs : List Nat) (w : World) (e : Ending) (w' : World) : Prop := ∃ g c, e = .returned (.tuple #[.slice (some ⟨g, 0, none⟩) 96 c, .int .i64 0]) ∧ 96 ≤ c ∧ w.heap.size ≤ g ∧ Loose w' g xs ∧ Old w w'

theorem over_succ {T : List (List Nat)} {A : List (Nat × List Nat)} {i k : Nat} {x : Nat × List Nat} (hk : k < T.length) (h : A[i]? = some x) : (over T (A.take (i + 1))).getD k [] = if x.1 = k then x.2 else (over T (A.take i)).getD k [] := by
  rw [take_get h, over_snoc]
  by_cases e : x.1 = k
  · rw [if_pos e, e]
    exact getD_of (List.getElem?_set_self (by rw [over_length]; exact hk))
  · rw [if_neg e, List.getD_eq_getElem?_getD, List.getD_eq_getElem?_getD, List.getElem?_set_ne e]

set_option maxRecDepth 100000 in
set_option maxHeartbeats 1600000 in
theorem rlook_ok {w0 w : World} {r : Nat} {D : DS} (h : Rs w0 r D w) (ok : D.Ok) (ht : D.turns ≤ 100000) (k : Nat) (hk : k < D.T.length) (hd : D.down = false) :
    Calls Tryz.prog 33 #[.pointer (some ⟨r, 0, none⟩), .int .i64 k] w (RLooked (D.seen.getD k []) w) := by
  obtain ⟨vt, va, ha⟩ := h.ex
  obtain ⟨a, c, rfl⟩ := str_form ha.tr
  obtain ⟨g, rfl, _, _, _⟩ := row_ptr ha.tr (by have := ok.few; omega)
  obtain ⟨aa, ca, rfl⟩ := rlain_form ha.af
  have hc0 : w.cell? ⟨r, 0, none⟩ = some (.slice (some ⟨g, 0, none⟩) D.T.length c) := ha.head.cell 0
  have hc1 : w.cell? ⟨r, 1, none⟩ = some (.slice aa D.A.length ca) := ha.head.cell 1
  have hc3 : w.cell? ⟨r, 3, none⟩ = some (.bool false) := by rw [← hd]; exact ha.head.cell 3
  obtain ⟨o, ho⟩ := get_of_lt hk
  have hcg : w.cell? ⟨g, k, none⟩ = some (.string (strOf o)) := by rw [ha.tr.cellAt k (by omega), rstrs_get ho]
  have h0 : (0 : Int) ≤ (k : Int) := by omega
  have h1 : (k : Int) < (D.T.length : Int) := by omega
  have h2 : ¬ (k : Int) < 0 := by omega
  have h3 : ¬ (D.T.length : Int) ≤ (k : Int) := by omega
  have HOV : Hid (∀ (i : Nat) (x : Nat × List Nat), D.A[i]? = some x → (over D.T (D.A.take (i + 1))).getD k [] = if x.1 = k then x.2 else (over D.T (D.A.take i)).getD k []) := fun i x hx => over_succ hk hx
  have HA := Lib.hid ha
  have HOk := Lib.hid ok
  have hm : D.A.length ≤ 100000 := Nat.le_trans ok.long ht
  have HS0 : Hid ((over D.T (D.A.take 0)).getD k [] = o) := getD_of ho
  have HSn : Hid ((over D.T (D.A.take D.A.length)).getD k [] = D.seen.getD k []) := by show _ = _; rw [List.take_length]; rfl
  have Htr : Hid (Trk (D.seen.getD k [])) := by
    obtain ⟨o2, ho2⟩ := get_of_lt (l := D.seen) (n := k) (by rw [DS.seen_length]; exact hk)
    show Trk _
    rw [getD_of ho2]
    exact DS.seen_trk ok _ (mem_of_get ho2)
  clear h ha ok ho hd ht hk
  generalize hM : D.A.length = m at *
  have HM := Lib.hid hM
  clear hM
  generalize D.T.length = n at *
  have hcg' : w.cell? ⟨g, k, none⟩ = some (.string (strOf ((over D.T (D.A.take 0)).getD k []))) := by rw [HS0.out]; exact hcg
  clear hcg HS0
  go_enter Tryz.func33, Tryz.ntmps33
  go_wp2_with fail
  clear hcg'
  go_loopw [6, 7] (fun v i wx => ∃ t : Nat, t ≤ m ∧ i = .int .i64 t ∧ v = .string (strOf ((over D.T (D.A.take t)).getD k [])) ∧ wx = w) (fun _ i _ => m - (intOf i).toNat)
  case atStart => exact ⟨0, by omega, rfl, rfl, rfl⟩
  case round =>
    obtain ⟨t, hle, rfl, rfl, rfl⟩ := hrel
    by_cases hlt : t < m
    · obtain ⟨x, hx⟩ := get_of_lt (l := D.A) (n := t) (by rw [HM.out]; exact hlt)
      have haf := HA.out.af
      rw [HM.out] at haf
      obtain ⟨ga, rfl, _, _, _⟩ := row_ptr haf (by omega)
      obtain ⟨hx0, hx1⟩ := rlain_cells HM.out haf hx
      have HN := Lib.hid (HOV.out t x hx)
      have ht0 : (0 : Int) ≤ (t : Int) := by omega
      have ht1 : (t : Int) < (m : Int) := by omega
      clear haf hx
      by_cases hxk : x.1 = k
      · have hxk1 : (x.1 : Int) = (k : Int) := by omega
        rw [hxk1] at hx0
        rw [if_pos hxk] at HN
        clear hxk hxk1
        go_wp2_with fail
        exact ⟨⟨t + 1, by omega, by go_num, by rw [HN.out], trivial⟩, by simp [intOf]; omega⟩
      · have hxk1 : ((x.1 : Int) == (k : Int)) = false := by simp; omega
        have hxk2 : ¬ (x.1 : Int) = (k : Int) := by omega
        rw [if_neg hxk] at HN
        generalize x.1 = q at *
        go_wp2_with fail
        exact ⟨⟨t + 1, by omega, by go_num, by rw [HN.out], trivial⟩, by simp [intOf]; omega⟩
    · obtain rfl : t = m := by omega
      rw [HSn.out]
      obtain ⟨cb, wb, hcv, hcb, hHas, hOld⟩ := bytes_of wr (D.seen.getD k []) Htr.out.byte
      rw [Htr.out.len] at hcv hcb
      have HH := Lib.hid hHas
      have HOl := Lib.hid hOld
      clear hHas hOld
      generalize strOf (D.seen.getD k []) = s at *
      go_wp2_with fail
      go_ret2
      exact ⟨_, _, rfl, hcb, Nat.le_refl _, HH.out, HOl.out⟩
theorem info109 : (Tryz.prog.info? 109).map (fun i => (i.zero, i.size, i.bytes)) = some (some (.agg #[.int .i64 0, .string ⟨#[]⟩]), 2, 24) := by kernel_rfl
theorem rlain_one (x : Nat × List Nat) : ∀ v ∈ rlain x, v.oneCell' = true := fun v hv => by
  simp only [rlain, List.mem_cons, List.not_mem_nil, or_false] at hv
  rcases hv with rfl | rfl <;> rfl

theorem rlay_arg {w0 w : World} {r : Nat} {D : DS} (h : Rs w0 r D w) (k : Int) (a : Option Addr) (len cap : Nat) (hk : k < 0 ∨ (D.T.length : Int) ≤ k) :
    Calls Tryz.prog 41 #[.pointer (some ⟨r, 0, none⟩), .int .i64 k, .slice a len cap] w fun e w' => e = .returned (.int .i64 1) ∧ w = w' := by
  obtain ⟨vt, va, ha⟩ := h.ex
  obtain ⟨at_, c, rfl⟩ := str_form ha.tr
  have hc0 : w.cell? ⟨r, 0, none⟩ = some (.slice at_ D.T.length c) := ha.head.cell 0
  clear h ha
  generalize D.T.length = n at *
  by_cases h0 : k < 0
  · clear hk
    go_enter Tryz.func41, Tryz.ntmps41
    go_wp2
    go_ret
    exact ⟨rfl, rfl⟩
  · have h1 : (n : Int) ≤ k := by omega
    clear hk
    go_enter Tryz.func41, Tryz.ntmps41
    go_wp2
    go_ret
    exact ⟨rfl, rfl⟩
theorem rlay_len {w0 w : World} {r : Nat} {D : DS} (h : Rs w0 r D w) (k : Nat) (a : Option Addr) (len cap : Nat) (hk : k < D.T.length) (hl : len ≠ 96) :
    Calls Tryz.prog 41 #[.pointer (some ⟨r, 0, none⟩), .int .i64 k, .slice a len cap] w fun e w' => e = .returned (.int .i64 1) ∧ w = w' := by
  obtain ⟨vt, va, ha⟩ := h.ex
  obtain ⟨at_, c, rfl⟩ := str_form ha.tr
  have hc0 : w.cell? ⟨r, 0, none⟩ = some (.slice at_ D.T.length c) := ha.head.cell 0
  have h0 : ¬ (k : Int) < 0 := by omega
  have h1 : ¬ (D.T.length : Int) ≤ (k : Int) := by omega
  have hn : ¬ (len : Int) = 96 := by omega
  clear h ha hk hl
  generalize D.T.length = n at *
  go_enter Tryz.func41, Tryz.ntmps41
  go_wp2
  go_ret
  exact ⟨rfl, rfl⟩

theorem bytes_not {w0 w : World} {g : Nat} {cs : Array Value} {fr : Nat × Nat} (h : w.heap[g]? = some (.cells cs 5 fr)) : ¬ rmine w0 w g := fun ⟨_, t, ds, ht, hb⟩ => by
  unfold Blk at hb
  rw [h] at hb
  injection hb with hb
  injection hb with _ h2 _
  subst h2
  rcases ht with e | e <;> cases e
theorem Loose.not {w0 w : World} {g : Nat} {xs : List Nat} (h : Loose w g xs) : ¬ rmine w0 w g := by
  obtain ⟨rest, fr, hg, _⟩ := h.row
  exact bytes_not hg

set_option maxRecDepth 100000 in
set_option maxHeartbeats 3200000 in
theorem rlay_any {w0 w : World} {r : Nat} {D : DS} (h : Rs w0 r D w) (ok : D.Ok) (ht : D.turns ≤ 99999) (h0w : w0.heap.size ≤ w.heap.size) (k : Nat) (p : Option Addr) (xs : List Nat) (cap : Nat) (hk : k < D.T.length) (hl : xs.length = 96) (hB : ∀ b o, p = some ⟨b, o, none⟩ → ¬ rmine w0 w b) (hH : Has w p xs) :
    Calls Tryz.prog 41 #[.pointer (some ⟨r, 0, none⟩), .int .i64 k, .slice p 96 cap] w fun e w' => e = .returned (.int .i64 D.err) ∧ RNext w0 r (D.lay k xs) w w' := by
  have HTn := Lib.hid (rturn_any h (by omega) ok.left)
  obtain ⟨vt, va, ha⟩ := h.ex
  obtain ⟨at_, c, rfl⟩ := str_form ha.tr
  have hc0 : w.cell? ⟨r, 0, none⟩ = some (.slice at_ D.T.length c) := ha.head.cell 0
  have h0 : ¬ (k : Int) < 0 := by omega
  have h1 : ¬ (D.T.length : Int) ≤ (k : Int) := by omega
  have HB := Lib.hid hB
  have HH := Lib.hid hH
  have HL := Lib.hid hl
  have hA : D.A.length ≤ 99999 := Nat.le_trans ok.long ht
  clear h ha hk hB hH hl ok ht
  generalize D.T.length = n at *
  cases hg : D.goes with
  | false =>
    have e2 : D.err = 4 := by unfold DS.err; rw [hg]; rfl
    have e3 : D.lay k xs = D.turned := by unfold DS.lay; rw [hg]; rfl
    rw [e2] at HTn ⊢
    rw [e3]
    clear e2 e3 hg
    go_enter Tryz.func41, Tryz.ntmps41
    go_wp2_with fail
    refine HTn.out.mono ?_
    rintro e w1 ⟨rfl, N1⟩
    have HN := Lib.hid N1
    clear N1
    go_wp2_with fail
    go_ret
    exact ⟨rfl, HN.out⟩
  | true =>
    have e2 : D.err = 0 := by unfold DS.err; rw [hg]; rfl
    have HE3 : Hid (D.lay k xs = { D.turned with A := D.turned.A ++ [(k, xs)] }) := by show _ = _; unfold DS.lay; rw [hg, DS.turned_A]; rfl
    rw [e2] at HTn ⊢
    clear e2 hg
    go_enter Tryz.func41, Tryz.ntmps41
    go_wp2_with fail
    refine HTn.out.mono ?_
    rintro e w1 ⟨rfl, N1⟩
    obtain ⟨R1, T1⟩ := N1
    obtain ⟨vt, va, ha⟩ := R1.ex
    have lo := R1.lo
    obtain ⟨aa, ca, rfl⟩ := rlain_form ha.af
    have hs := str_any w1.drew _ xs 96 cap ((HH.out.touch T1 HB.out).old ((Touch.refl _ _).drew)) HL.out
    have a1 := ha.old (w' := w1.drew) ((Touch.refl _ _).drew) lo
    have hc1 : w1.drew.cell? ⟨r, 1, none⟩ = some (.slice aa D.turned.A.length ca) := a1.head.cell 1
    have T2 : Old w1.drew (w1.alloc (.cells #[.int .i64 (k : Int), .string (strOf xs)] 109)).drew := (Touch.refl (fun _ => False) w1.drew).alloc (.cells #[.int .i64 (k : Int), .string (strOf xs)] 109)
    have a2 := a1.old T2 lo
    have hc2 : (w1.alloc (.cells #[.int .i64 (k : Int), .string (strOf xs)] 109)).cell? ⟨r, 1, none⟩ = some (.slice aa D.turned.A.length ca) := a2.head.cell 1
    have hs2 := str_any (w1.alloc (.cells #[.int .i64 (k : Int), .string (strOf xs)] 109)).drew _ xs 96 cap (((HH.out.touch T1 HB.out).old ((Touch.refl _ _).drew)).old T2) HL.out
    have K2 : Blk (w1.alloc (.cells #[.int .i64 (k : Int), .string (strOf xs)] 109)).drew w1.heap.size 109 (rlain (k, xs)) := Blk.new w1 109 (rlain (k, xs))
    obtain ⟨i0, hi0, hz0, hz1, hz2⟩ := info_parts info109
    have hA1 : D.turned.A.length ≤ 99999 := by rw [DS.turned_A]; exact hA
    obtain ⟨v3, w3, hap, own3, gr3, _, blk3⟩ := run_append_own_at (P := Tryz.prog) _ w0.heap.size 57 57 109 i0 _ 2 24 Tryz.underlying57 hi0 hz0 hz1 hz2 rfl (by omega) _ _ _ a2.af ⟨w1.heap.size, 0, none⟩ 1 1 (rlain (k, xs)) rfl (World.news_of_block K2) (rlain_one _) (by simp only [maxLen]; omega) (by omega) (Nat.le_trans (Nat.le_trans h0w T1.size) T2.size)
    obtain ⟨a3, c3, rfl⟩ := rlain_form own3
    have T3 : Touch (fun q => (Value.slice aa D.turned.A.length ca).ownBlock = some q) _ w3 := Touch.grown gr3 (fun q hq => hq)
    have B3 := a2.head.touch T3 (own_blk a2.af a2.head (by decide))
    have hc3 : w3.cell? ⟨r, 1, none⟩ = some (.slice aa D.turned.A.length ca) := B3.cell 1
    have hf3 : w3.frozen? ⟨r, 1, none⟩ = false := B3.frozen 1
    have T4 : Touch (fun q => q = r) w3 (w3.setCell ⟨r, 1, none⟩ (.slice a3 (D.turned.A.length + 1) c3)) := Touch.one ⟨r, 1, none⟩ _
    have HE : Hid (RNext w0 r (D.lay k xs) w (w3.setCell ⟨r, 1, none⟩ (.slice a3 (D.turned.A.length + 1) c3))) := by
      have hnb : ∀ (q : Nat) (t : TypeId) (cs : List Value), Blk (w1.alloc (.cells #[.int .i64 (k : Int), .string (strOf xs)] 109)).drew q t cs → t ≠ 109 → ¬ (Value.slice aa D.turned.A.length ca).ownBlock = some q := fun q t cs hb hne => own_blk a2.af hb (fun e => hne e.symm)
      have tr3 : w3.ownsRow w0.heap.size 9 1 vt D.turned.T.length (rstrs D.turned.T) := owns_touch a2.tr T3 (fun q hq hq2 => by
        rcases a2.tr.2 with ⟨e, _⟩ | ⟨g', cap', cur, e, _, hg', _⟩
        · rw [e] at hq; cases hq
        · rw [e] at hq
          have : g' = q := by simpa [Value.ownBlock] using hq
          subst this
          exact hnb g' 9 cur.toList hg' (by decide) hq2)
      refine ⟨?_, ?_⟩
      · rw [HE3.out]
        refine ⟨lo, vt, .slice a3 (D.turned.A.length + 1) c3, ⟨B3.set 1 _, owns_touch tr3 T4 (fun q hq e => own_blk tr3 B3 (by decide) (by rw [hq, e])), ?_⟩⟩
        have := owns_touch own3 T4 (fun q hq e => own_blk own3 B3 (by decide) (by rw [hq, e]))
        simpa [rlains_snoc] using this
      · have m1 : Touch (rmine w0 w1) w1 (w3.setCell ⟨r, 1, none⟩ (.slice a3 (D.turned.A.length + 1) c3)) := by
          have m2 : Old w1 (w1.alloc (.cells #[.int .i64 (k : Int), .string (strOf xs)] 109)).drew := ((Touch.refl _ _).drew).trans T2
          refine ⟨T4.os.trans (T3.os.trans m2.os), T4.tape.trans (T3.tape.trans m2.tape), T4.output.trans (T3.output.trans m2.output), Nat.le_trans m2.size (Nat.le_trans T3.size T4.size), fun q hq hn => ?_⟩
          have e1 := m2.block q hq (fun x => x)
          have e2 := T3.block q (Nat.lt_of_lt_of_le hq m2.size) (fun hq2 => hn (by
            rcases ha.af.2 with ⟨e, _⟩ | ⟨g', cap', cur, e, hb', hg', _⟩
            · rw [e] at hq2; cases hq2
            · rw [e] at hq2
              have : g' = q := by simpa [Value.ownBlock] using hq2
              subst this
              exact ⟨hb', 109, cur.toList, .inr rfl, hg'⟩))
          have e3 := T4.block q (Nat.lt_of_lt_of_le hq (Nat.le_trans m2.size T3.size)) (fun e => hn (by rw [e]; exact rmine_r ha lo))
          rw [e3, e2, e1]
        exact T1.rtrans m1
    clear a1 T2 a2 K2 hi0 hz0 hz1 hz2 own3 gr3 blk3 T3 B3 T4 ha R1 T1 lo hA1 hA HTn hc0
    generalize strOf xs = s at *
    generalize D.turned.A.length = m at *
    go_wp2_with fail
    go_region_law (first | (refine step_append rfl (.tmp 33) (.tmp 38) 57 57 rfl (.slice aa m ca) (.slice (some ⟨w1.heap.size, 0, none⟩) 1 1) rfl rfl _ _ hap ?_))
    all_goals
      go_wp2_with fail
      go_ret
      exact ⟨rfl, HE.out⟩
/-- Afloat is made none. -/
theorem RAt.afl_none {w0 w : World} {r : Nat} {vt va : Value} {D : DS} (h : RAt w0 r vt va D w) : RAt w0 r vt (.slice none 0 0) { D with A := [] } (w.setCell ⟨r, 1, none⟩ (.slice none 0 0)) := by
  have T : Touch (fun q => q = r) w (w.setCell ⟨r, 1, none⟩ (.slice none 0 0)) := Touch.one ⟨r, 1, none⟩ _
  exact ⟨h.head.set 1 _, owns_touch h.tr T (fun q hq e => own_blk h.tr h.head (by decide) (by rw [hq, e])), World.ownsRow_nil _ _ _ _⟩

set_option maxRecDepth 100000 in
set_option maxHeartbeats 3200000 in
theorem rsettle_any {w0 w : World} {r : Nat} {D : DS} (h : Rs w0 r D w) (ok : D.Ok) (ht : D.turns ≤ 99999) (h0w : w0.heap.size ≤ w.heap.size) :
    Calls Tryz.prog 42 #[.pointer (some ⟨r, 0, none⟩)] w fun e w' => e = .returned (.int .i64 D.err) ∧ RNext w0 r D.settle w w' := by
  have HTn := Lib.hid (rturn_any h (by omega) ok.left)
  have HOk := Lib.hid ok.turned
  have hA : D.turned.A.length ≤ 99999 := by rw [DS.turned_A]; exact Nat.le_trans ok.long ht
  clear h ok ht
  cases hg : D.goes with
  | false =>
    have e2 : D.err = 4 := by unfold DS.err; rw [hg]; rfl
    have e3 : D.settle = D.turned := by unfold DS.settle; rw [hg]; rfl
    rw [e2] at HTn ⊢
    rw [e3]
    clear e2 e3 hg
    go_enter Tryz.func42, Tryz.ntmps42
    go_wp2_with fail
    refine HTn.out.mono ?_
    rintro e w1 ⟨rfl, N1⟩
    have HN := Lib.hid N1
    clear N1
    go_wp2_with fail
    go_ret
    exact ⟨rfl, HN.out⟩
  | true =>
    have e2 : D.err = 0 := by unfold DS.err; rw [hg]; rfl
    have HE3 : Hid (D.settle = { D.turned.upto D.turned.A.length with A := [] }) := by show _ = _; unfold DS.settle; rw [hg]; simp [DS.upto, DS.seen, DS.turned_T, DS.turned_A]
    rw [e2] at HTn ⊢
    clear e2 hg
    go_enter Tryz.func42, Tryz.ntmps42
    go_wp2_with fail
    refine HTn.out.mono ?_
    rintro e w1 ⟨rfl, N1⟩
    obtain ⟨R1, T1⟩ := N1
    obtain ⟨vt, va, ha⟩ := R1.ex
    have HLo := Lib.hid R1.lo
    obtain ⟨aa, ca, rfl⟩ := rlain_form ha.af
    have HI0 : Hid ((∃ vt, RAt w0 r vt (.slice aa D.turned.A.length ca) (D.turned.upto 0) w1) ∧ Touch (rmine w0 w) w w1) := by
      have e : D.turned.upto 0 = D.turned := by simp [DS.upto, over]
      exact ⟨⟨vt, by rw [e]; exact ha⟩, T1⟩
    clear R1 T1 ha HTn
    generalize hM : D.turned.A.length = m at *
    have HM := Lib.hid hM
    clear hM
    go_wp2_with fail
    go_loopw [4] (fun i wx => ∃ t : Nat, t ≤ m ∧ i = .int .i64 t ∧ Hid ((∃ vt, RAt w0 r vt (.slice aa m ca) (D.turned.upto t) wx) ∧ Touch (rmine w0 w) w wx)) (fun i _ => m - (intOf i).toNat)
    case atStart => exact ⟨0, by omega, rfl, HI0⟩
    case round =>
      obtain ⟨t, hle, rfl, HI⟩ := hrel
      clear HI0
      obtain ⟨⟨vt2, a2⟩, T2⟩ := HI.out
      have hc1 : wr.cell? ⟨r, 1, none⟩ = some (.slice aa m ca) := a2.head.cell 1
      have hf1 : wr.frozen? ⟨r, 1, none⟩ = false := a2.head.frozen 1
      have HA2 := Lib.hid a2
      have HT2 := Lib.hid T2
      clear HI T2
      by_cases hlt : t < m
      · obtain ⟨x, hx⟩ := get_of_lt (l := D.turned.A) (n := t) (by rw [HM.out]; exact hlt)
        have hx' := HOk.out.lay x (mem_of_get hx)
        have haf := a2.af
        rw [show (D.turned.upto t).A = D.turned.A from rfl, HM.out] at haf
        obtain ⟨ga, rfl, _, _, _⟩ := row_ptr haf (by omega)
        have HNx := Lib.hid (upto_succ hx)
        have ad := a2.old (w' := wr.drew) ((Touch.refl _ _).drew) HLo.out
        have afd := ad.af
        rw [show (D.turned.upto t).A = D.turned.A from rfl, HM.out] at afd
        have HS0 : Hid (wr.drew.cell? ⟨r, 1, none⟩ = some (.slice (some ⟨ga, 0, none⟩) m ca) ∧ wr.drew.cell? ⟨ga, t * 2, none⟩ = some (.int .i64 (x.1 : Int)) ∧ wr.drew.cell? ⟨ga, t * 2 + 1, none⟩ = some (.string (strOf x.2))) := ⟨ad.head.cell 1, rlain_cells HM.out afd hx⟩
        have HRm := Lib.hid (rmine_r ad HLo.out)
        have HSet := Lib.hid (rset_at HLo.out ad (by rw [upto_length]; exact HOk.out.few) (by rw [upto_length]; exact HOk.out.many) (Nat.le_trans h0w HT2.out.size) x.1 x.2 (by rw [upto_length]; exact hx'.1))
        have HXg := Lib.hid hx
        have ht0 : (0 : Int) ≤ (t : Int) := by omega
        have ht1 : (t : Int) < (m : Int) := by omega
        clear haf afd ad a2 hx hx' hf1
        go_wp2_with fail
        go_region_held3 (fun w' => w'.cell? ⟨r, 1, none⟩ = some (.slice (some ⟨ga, 0, none⟩) m ca) ∧ w'.cell? ⟨ga, t * 2, none⟩ = some (.int .i64 (x.1 : Int)) ∧ w'.cell? ⟨ga, t * 2 + 1, none⟩ = some (.string (strOf x.2))) (first | exact HS0.out | exact HS1.out)
          (first | (go_at_call 54; refine HSet.out.mono ?_; rintro e w7 ⟨rfl, ⟨vt7, a7⟩, T7⟩; have afd := a7.af; rw [show ({ D.turned.upto t with T := (D.turned.upto t).T.set x.1 x.2 } : DS).A = D.turned.A from rfl, HM.out] at afd; have HS1 : Hid (w7.cell? ⟨r, 1, none⟩ = some (.slice (some ⟨ga, 0, none⟩) m ca) ∧ w7.cell? ⟨ga, t * 2, none⟩ = some (.int .i64 (x.1 : Int)) ∧ w7.cell? ⟨ga, t * 2 + 1, none⟩ = some (.string (strOf x.2))) := ⟨a7.head.cell 1, rlain_cells HM.out afd HXg.out⟩; have HA7 := Lib.hid a7; have HT7 := Lib.hid T7; clear a7 T7 afd))
        go_wp2_with fail
        refine ⟨⟨t + 1, by omega, by go_num, ⟨vt7, by rw [HNx.out]; exact HA7.out⟩, (HT2.out.drew).rtrans (HT7.out.mono (fun q _ hq => by rw [hq]; exact HRm.out))⟩, by simp [intOf]; omega⟩
      · obtain rfl : t = m := by omega
        go_wp2_with fail
        go_ret
        refine ⟨rfl, ?_, HT2.out.rtrans (Touch.head HA2.out HLo.out 1 _)⟩
        rw [HE3.out]
        exact ⟨HLo.out, vt2, _, HA2.out.afl_none⟩
theorem owns_base {w : World} {base base' size n : Nat} {e : TypeId} {v : Value} {xs : List Value} (h : w.ownsRow base e size v n xs) (hb : base' ≤ base) : w.ownsRow base' e size v n xs := by
  refine ⟨h.1, ?_⟩
  rcases h.2 with h0 | ⟨g, cap, cur, rfl, h1, h2⟩
  · exact .inl h0
  · exact .inr ⟨g, cap, cur, rfl, Nat.le_trans hb h1, h2⟩
/-- How long the slice at the head of a block is. -/
def lenAt (w : World) (r : Nat) : Nat := match w.cell? ⟨r, 0, none⟩ with | some (.slice _ l _) => l | _ => 0
theorem rstrs_snoc (t : Nat) : rstrs (List.replicate (t + 1) (zeros 96)) = rstrs (List.replicate t (zeros 96)) ++ [.string (strOf (zeros 96))] := by
  rw [List.replicate_succ']
  simp [rstrs]

structure RNew (w : World) (r n t : Nat) (wx : World) : Prop where
  at_ : ∃ vt, RAt w r vt (.slice none 0 0) (DS.new t) wx
  lo : w.heap.size ≤ r
  old : Old w wx
  le : t ≤ n

theorem RNew.len {w wx : World} {r n t : Nat} (h : RNew w r n t wx) : lenAt wx r = t := by
  obtain ⟨vt, ha⟩ := h.at_
  have hTl : (DS.new t).T.length = t := by simp [DS.new]
  have htr := ha.tr
  rw [hTl] at htr
  obtain ⟨a, c, rfl⟩ := str_form htr
  have hc : wx.cell? ⟨r, 0, none⟩ = some (.slice a t c) := ha.head.cell 0
  unfold lenAt
  rw [hc]

/-- One string more. -/
theorem RNew.more {w wx : World} {r n t : Nat} (h : RNew w r n t wx) (ht : t < n) (hn : n ≤ 4096) (w7 : World) (O : Old wx w7) :
    ∃ a c v w9, wx.cell? ⟨r, 0, none⟩ = some (.slice a t c) ∧ w7.cell? ⟨r, 0, none⟩ = some (.slice a t c) ∧ (w7.alloc (.cells #[.string (strOf (zeros 96))] 9)).cell? ⟨r, 0, none⟩ = some (.slice a t c) ∧
      (Builtin.append_ #[56, 56] 56 #[.slice a t c, .slice (some ⟨w7.heap.size, 0, none⟩) 1 1]).run Tryz.prog (w7.alloc (.cells #[.string (strOf (zeros 96))] 9)) = .ok v w9 ∧ (∃ a' c', v = .slice a' (t + 1) c') ∧ (∃ u, w9.cell? ⟨r, 0, none⟩ = some u) ∧ w9.frozen? ⟨r, 0, none⟩ = false ∧
      RNew w r n (t + 1) (w9.setCell ⟨r, 0, none⟩ v) := by
  obtain ⟨vt, ha⟩ := h.at_
  have lo := h.lo
  have hTl : (DS.new t).T.length = t := by simp [DS.new]
  have htr := ha.tr
  rw [hTl] at htr
  obtain ⟨a, c, rfl⟩ := str_form htr
  have a7 := ha.old O lo
  have T8 : Old w7 (w7.alloc (.cells #[.string (strOf (zeros 96))] 9)) := (Touch.refl _ _).alloc _
  have a8 := a7.old T8 lo
  have K8 : Blk (w7.alloc (.cells #[.string (strOf (zeros 96))] 9)) w7.heap.size 9 [.string (strOf (zeros 96))] := Blk.new w7 9 [.string (strOf (zeros 96))]
  obtain ⟨i0, hi0, hz0, hz1, hz2⟩ := info_parts rinfo9
  have tr8 := a8.tr
  rw [hTl] at tr8
  obtain ⟨v, w9, hap, own9, gr9, _, blk9⟩ := run_append_own_at (P := Tryz.prog) _ w.heap.size 56 56 9 i0 _ 1 16 Tryz.underlying56 hi0 hz0 hz1 hz2 rfl (by omega) _ _ _ tr8 ⟨w7.heap.size, 0, none⟩ 1 1 [.string (strOf (zeros 96))] rfl (World.news_of_block K8) (fun u hu => by rw [List.mem_singleton.1 hu]; rfl) (by simp only [maxLen]; omega) (by omega) (Nat.le_trans h.old.size (Nat.le_trans O.size T8.size))
  obtain ⟨a9, c9, rfl⟩ := str_form own9
  have T9 : Touch (fun q => (Value.slice a t c).ownBlock = some q) _ w9 := Touch.grown gr9 (fun q hq => hq)
  have B9 := a8.head.touch T9 (own_blk tr8 a8.head (by decide))
  have T10 : Touch (fun q => q = r) w9 (w9.setCell ⟨r, 0, none⟩ (.slice a9 (t + 1) c9)) := Touch.one ⟨r, 0, none⟩ _
  have old8 : Old w (w7.alloc (.cells #[.string (strOf (zeros 96))] 9)) := (h.old.trans O).trans T8
  refine ⟨a, c, _, w9, ha.head.cell 0, a7.head.cell 0, a8.head.cell 0, hap, ⟨a9, c9, rfl⟩, ⟨_, B9.cell 0⟩, B9.frozen 0, ⟨⟨.slice a9 (t + 1) c9, ?_⟩, lo, ?_, by omega⟩⟩
  · refine ⟨?_, ?_, World.ownsRow_nil _ _ _ _⟩
    · have := B9.set 0 (.slice a9 (t + 1) c9)
      exact this
    · have := owns_touch own9 T10 (fun q hq e => own_blk own9 B9 (by decide) (by rw [hq, e]))
      have e : (DS.new (t + 1)).T = List.replicate (t + 1) (zeros 96) := rfl
      rw [e, List.length_replicate, rstrs_snoc]
      exact this
  · refine ⟨T10.os.trans (T9.os.trans old8.os), T10.tape.trans (T9.tape.trans old8.tape), T10.output.trans (T9.output.trans old8.output), Nat.le_trans old8.size (Nat.le_trans T9.size T10.size), fun q hq _ => ?_⟩
    have e1 := old8.block q hq (fun x => x)
    have e2 := T9.block q (Nat.lt_of_lt_of_le hq old8.size) (fun hq2 => by have := (tr8.lt q hq2).1; omega)
    have e3 := T10.block q (Nat.lt_of_lt_of_le hq (Nat.le_trans old8.size T9.size)) (fun e => by omega)
    rw [e3, e2, e1]

set_option maxRecDepth 100000 in
set_option maxHeartbeats 3200000 in
theorem rnew_any (n : Nat) (hn : n ≤ 4096) (w0 w : World) (h0 : w0.heap.size ≤ w.heap.size) :
    Calls Tryz.prog 7 #[.int .i64 n] w fun e w' => ∃ r, e = .returned (.pointer (some ⟨r, 0, none⟩)) ∧ Rs w0 r (DS.new n) w' ∧ Old w w' := by
  have HI0 : Hid (RNew w w.heap.size n 0 (w.alloc (.cells #[.slice none 0 0, .slice none 0 0, .int .i64 (-1), .bool false, .int .i64 0] 59))) :=
    ⟨⟨.slice none 0 0, ⟨Blk.new w 59 _, World.ownsRow_nil _ _ _ _, World.ownsRow_nil _ _ _ _⟩⟩, Nat.le_refl _, (Touch.refl _ _).alloc _, Nat.zero_le _⟩
  go_enter Tryz.func7, Tryz.ntmps7
  go_wp2_with fail
  generalize hr : w.heap.size = r at *
  have HR := Lib.hid hr
  clear hr
  go_loopw [9] (fun _ wx => ∃ t : Nat, Hid (RNew w r n t wx)) (fun _ wx => n - lenAt wx r)
  case atStart => exact ⟨0, HI0⟩
  case round =>
    obtain ⟨t, HI⟩ := hrel
    clear HI0
    obtain ⟨vt, ha⟩ := HI.out.at_
    have hTl : (DS.new t).T.length = t := by simp [DS.new]
    have htr := ha.tr
    rw [hTl] at htr
    obtain ⟨a, c, rfl⟩ := str_form htr
    have hc : wr.cell? ⟨r, 0, none⟩ = some (.slice a t c) := ha.head.cell 0
    have HC := Lib.hid hc
    clear ha htr hTl
    by_cases hlt : t < n
    · have hlt' : (t : Int) < (n : Int) := by omega
      have HMore := Lib.hid (HI.out.more hlt hn)
      go_wp2_with fail
      have hcd : wr.drew.cell? ⟨r, 0, none⟩ = some (.slice a t c) := hc
      go_region_law (first
        | (refine step_append rfl (.tmp 17) (.tmp 20) 56 56 rfl (.slice a t c) (.slice (some ⟨w7.heap.size, 0, none⟩) 1 1) rfl rfl _ _ hap ?_)
        | (refine step_wanted rfl ?_; go_simp; refine (zeros_any _).mono ?_; rintro e w7 ⟨rfl, K7, O7⟩; obtain ⟨a8, c8, v9, w9, q0, q1, q2, hap, ⟨a9, c9, hv9⟩, ⟨u9, q3⟩, q4, N9⟩ := HMore.out w7 (((Touch.refl _ _).drew).trans O7); rw [HC.out] at q0; cases q0; subst hv9; have HN9 := Lib.hid N9; have hs : (convert 61 9 (.slice (some ⟨wr.heap.size, 0, none⟩) 96 96)).run Tryz.prog w7 = .ok (.string (strOf (zeros 96))) w7 := str_any w7 _ _ 96 96 (blk_has (zeros_byte 96) K7) (zeros_length 96); clear N9 K7 O7; dsimp only))
      all_goals
        go_wp2_with fail
        exact ⟨⟨t + 1, HN9⟩, by rw [HN9.out.len, HI.out.len]; omega⟩
    · obtain rfl : t = n := by have := HI.out.le; omega
      have hlt' : ¬ (t : Int) < (t : Int) := by omega
      go_wp2_with fail
      go_ret
      obtain ⟨vt, ha⟩ := HI.out.at_
      have h0' : w0.heap.size ≤ w.heap.size := by rw [HR.out]; exact h0
      exact ⟨r, rfl, ⟨h0, vt, _, ha.head, owns_base ha.tr h0', owns_base ha.af h0'⟩, HI.out.old⟩
end Go.Proofs.YtmingbgohdhajaaGreat
