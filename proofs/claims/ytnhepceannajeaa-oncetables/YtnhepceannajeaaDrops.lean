/- The walk of lariatlaw1.OnceDrops. -/
import Derived.Test.YtnhepceannajeaaDeep
import Derived.Test.YtnhepceannajeaaPick
import Derived.Deep.DeepCutAuto
import Derived.Deep.RegionWith
namespace Go.Proofs.Ytnhepceannajeaa
open Go.RowKit Go.MuLone Go.Conc.Locks Go.Maps

theorem enters27 (args : Array Value) (w : World) : (callFunc 27 args).run Try.prog w = .ok (.enter 27 args) w := run_callFunc_enter Try.func27 (by kernel_rfl) rfl args w
theorem enters28 (args : Array Value) (w : World) : (callFunc 28 args).run Try.prog w = .ok (.enter 28 args) w := run_callFunc_enter Try.func28 (by kernel_rfl) rfl args w
theorem enters29 (args : Array Value) (w : World) : (callFunc 29 args).run Try.prog w = .ok (.enter 29 args) w := run_callFunc_enter Try.func29 (by kernel_rfl) rfl args w

/-- 'func() int { return values[i] }', the first one. -/
theorem read27 (bv bi b off len cap : Nat) (i : Nat) (hi : i < len) (z : Int) (w : World) (Vv : Var bv (.slice (some ⟨b, off, none⟩) len cap) w) (Vi : Var bi (.int .i64 i) w) (hz : w.cell? ⟨b, off + i, none⟩ = some (.int .i64 z)) :
    Calls Try.prog 27 #[.pointer (some ⟨bv, 0, none⟩), .pointer (some ⟨bi, 0, none⟩)] w (Answers fun v w' => v = z ∧ w' = w) := by
  have h1 := Vv.c
  have h2 := Vi.c
  clear Vv Vi
  go_enter Try.func27, Try.ntmps27
  go_wp2
  go_ret
  exact ⟨z, rfl, rfl, rfl⟩
theorem read29 (bv bi b off len cap : Nat) (i : Nat) (hi : i < len) (z : Int) (w : World) (Vv : Var bv (.slice (some ⟨b, off, none⟩) len cap) w) (Vi : Var bi (.int .i64 i) w) (hz : w.cell? ⟨b, off + i, none⟩ = some (.int .i64 z)) :
    Calls Try.prog 29 #[.pointer (some ⟨bv, 0, none⟩), .pointer (some ⟨bi, 0, none⟩)] w (Answers fun v w' => v = z ∧ w' = w) := by
  have h1 := Vv.c
  have h2 := Vi.c
  clear Vv Vi
  go_enter Try.func29, Try.ntmps29
  go_wp2
  go_ret
  exact ⟨z, rfl, rfl, rfl⟩
/-- 'func() int { return values[k] + 1 }'. -/
theorem read28 (bv bi b off len cap : Nat) (i : Nat) (hi : i < len) (z : Int) (w : World) (Vv : Var bv (.slice (some ⟨b, off, none⟩) len cap) w) (Vi : Var bi (.int .i64 i) w) (hz : w.cell? ⟨b, off + i, none⟩ = some (.int .i64 z)) :
    Calls Try.prog 28 #[.pointer (some ⟨bv, 0, none⟩), .pointer (some ⟨bi, 0, none⟩)] w (Answers fun v w' => v = wrap64 (z + 1) ∧ w' = w) := by
  have h1 := Vv.c
  have h2 := Vi.c
  clear Vv Vi
  go_enter Try.func28, Try.ntmps28
  go_wp2
  go_ret
  exact ⟨_, rfl, rfl, rfl⟩

open Classical in
/-- The first n letters, each with its value. -/
noncomputable def tabG (f : Nat → Int) (n : Nat) : Slots := fun l => if h : ∃ i, i < n ∧ l = lk i then some (.inr (f (Classical.choose h))) else none

theorem tabG_in (f : Nat → Int) {n i : Nat} (hn : n ≤ 25) (hi : i < n) : tabG f n (lk i) = some (.inr (f i)) := by
  have h : ∃ j, j < n ∧ lk i = lk j := ⟨i, hi, rfl⟩
  have e : Classical.choose h = i := by
    obtain ⟨a, b⟩ := Classical.choose_spec h
    exact (lk_inj (by omega) (by omega) b).symm
  unfold tabG
  rw [dif_pos h, e]
theorem tabG_out (f : Nat → Int) {n : Nat} {l : Lit} (h : ∀ i, i < n → ¬ l = lk i) : tabG f n l = none := by
  unfold tabG
  rw [dif_neg]
  rintro ⟨i, h1, h2⟩
  exact h i h1 h2
theorem tabG_zero (f : Nat → Int) : tabG f 0 = fun _ => none := by
  funext l
  exact tabG_out f (fun i hi => absurd hi (by omega))
theorem tabG_succ (f : Nat → Int) {n : Nat} (hn : n < 25) : upd (tabG f n) (lk n) (some (.inr (f n))) = tabG f (n + 1) := by
  funext l
  by_cases e : l = lk n
  · subst e
    rw [upd_same, tabG_in f (by omega) (by omega)]
  · rw [upd_other _ _ e]
    by_cases h : ∃ i, i < n ∧ l = lk i
    · obtain ⟨i, h1, rfl⟩ := h
      rw [tabG_in f (by omega) h1, tabG_in f (by omega) (by omega)]
    · rw [tabG_out f (fun i h1 h2 => h ⟨i, h1, h2⟩), tabG_out f (fun i h1 h2 => by
        by_cases hi : i = n
        · exact e (by rw [h2, hi])
        · exact h ⟨i, by omega, h2⟩)]
theorem tabG_back (f : Nat → Int) {n k : Nat} (hn : n ≤ 25) (hk : k < n) : upd (tabG f n) (lk k) (some (.inr (f k))) = tabG f n := by
  funext l
  by_cases e : l = lk k
  · subst e
    rw [upd_same, tabG_in f hn hk]
  · rw [upd_other _ _ e]

/-- Where the law stands: the table, the box of the values. -/
structure DropAt (B t bv : Nat) (a : Option Addr) (len cap : Nat) (mo : Option Nat) (c : Nat) (G : Slots) (w0 w : World) : Prop where
  st : St B t mo c G w
  vv : Var bv (.slice a len cap) w
  low : B ≤ w.heap.size
  below : Below B w0 w

theorem plain_slice (a : Option Addr) (l c : Nat) : Plain (.slice a l c) := ⟨fun d h => (by simp at h), fun h => (by simp at h)⟩

theorem DropAt.move {B t bv : Nat} {a : Option Addr} {len cap : Nat} {mo mo' : Option Nat} {c c' : Nat} {G G' : Slots} {w0 w w' : World} (D : DropAt B t bv a len cap mo c G w0 w) (s : St B t mo' c' G' w') (m : Moves Nought B t mo w mo' w') : DropAt B t bv a len cap mo' c' G' w0 w' :=
  ⟨s, D.vv.moves D.st m (plain_slice _ _ _) (fun h => h), Nat.le_trans D.low m.touch.size, D.below.trans (m.below D.low (fun _ h => h.elim))⟩
theorem DropAt.grow {B t bv : Nat} {a : Option Addr} {len cap : Nat} {mo : Option Nat} {c : Nat} {G : Slots} {w0 w w' : World} (D : DropAt B t bv a len cap mo c G w0 w) (m : Touch (fun _ => False) w w') : DropAt B t bv a len cap mo c G w0 w' :=
  ⟨D.st.alloc m, D.vv.touch m (fun h => h), Nat.le_trans D.low m.size, D.below.trans (m.below D.low (fun _ _ h => h))⟩
theorem DropAt.drew {B t bv : Nat} {a : Option Addr} {len cap : Nat} {mo : Option Nat} {c : Nat} {G : Slots} {w0 w : World} (D : DropAt B t bv a len cap mo c G w0 w) : DropAt B t bv a len cap mo c G w0 w.drew := D.grow (Touch.refl _ w).drew
theorem DropAt.alloc {B t bv : Nat} {a : Option Addr} {len cap : Nat} {mo : Option Nat} {c : Nat} {G : Slots} {w0 w : World} (D : DropAt B t bv a len cap mo c G w0 w) (o : Obj) : DropAt B t bv a len cap mo c G w0 (w.alloc o) := D.grow ((Touch.refl _ w).alloc _)

theorem Var.alloc {k : Nat} {x : Value} {w : World} (h : Var k x w) (o : Obj) : Var k x (w.alloc o) := h.touch ((Touch.refl Nought _).alloc _) (fun h => h)
theorem Var.new (w : World) (x : Value) (t : TypeId) : Var w.heap.size x (w.alloc (.cells #[x] t)) := ⟨by rw [World.cell_new]; rfl, World.frozen_new _ _ _ _⟩

/-- A Get of a key that has no cell, with a function that only reads. -/
theorem drop_get (B t bv : Nat) (a : Option Addr) (len cap : Nat) (mo : Option Nat) (c : Nat) (hc : c < 1000) (G : Slots) (s : ByteArray) (hs : s.size ≤ 1000) (mk : Value) (hmk : IsMk mk) (v : Int) (w0 w : World) (D : DropAt B t bv a len cap mo c G w0 w) (hg : G (kl s) = none)
    (bi : Nat) (x : Int) (Vi : Var bi (.int .i64 x) w)
    (hcall : ∀ mo1 c1 G1 w1, DropAt B t bv a len cap mo1 c1 G1 w0 w1 → Var bi (.int .i64 x) w1 → Calls Try.prog 42 #[mk] w1 (Answers fun v' w' => v' = v ∧ w' = w1)) :
    Calls Try.prog 11 #[.pointer (some ⟨t, 0, none⟩), .string s, mk] w fun e w' => e = .returned (.int .i64 v) ∧ (∃ mo', DropAt B t bv a len cap mo' (c + 1) (upd G (kl s) (some (.inr v))) w0 w') ∧ Var bi (.int .i64 x) w' := by
  refine (get_st_new Nought B t mo c G s hs (by omega) mk hmk w D.st hg (fun b mo1 w1 v' mo2 c2 G2 w2 => v' = v ∧ mo2 = mo1 ∧ c2 = c + 1 ∧ G2 = upd G (kl s) (some (.inl b)) ∧ w2 = w1) ?_).mono ?_
  · intro b mo1 w1 s1 m1
    refine answers_mono (hcall mo1 _ _ w1 (D.move s1 m1) (Vi.moves D.st m1 (plain_int _) (fun h => h))) ?_
    rintro v' w2 ⟨rfl, rfl⟩
    exact ⟨mo1, _, _, s1, upd_same _ _ _, Moves.refl _ _ _ _ _, rfl, rfl, rfl, rfl, rfl⟩
  · rintro e w' ⟨b, mo1, w1, v', mo2, c2, G2', w2, rfl, s1, m1, m2, ⟨rfl, rfl, rfl, rfl, rfl⟩, s2, s3, m3⟩
    rw [upd_upd] at s3
    have D1 := D.move s1 m1
    have V1 := Vi.moves D.st m1 (plain_int _) (fun h => h)
    exact ⟨rfl, ⟨_, D1.move s3 m3⟩, V1.moves s1 m3 (plain_int _) (fun h => h)⟩

theorem conv_new (w : World) (j : Nat) (hj : j < 100) : (convert 36 9 (.slice (some ⟨w.heap.size, 0, none⟩) 1 1)).run Try.prog (w.alloc (.cells #[.int .u8 (97 + j)] 5)) = .ok (.string (letter j)) (w.alloc (.cells #[.int .u8 (97 + j)] 5)) :=
  conv_letter _ j hj _ (by rw [World.cell_new]; rfl)

/-- The values that came in, whatever the slice. -/
def Vals (w : World) (a : Option Addr) (len : Nat) (f : Nat → Int) : Prop :=
  ∀ i, i < len → ∃ b off, a = some ⟨b, off, none⟩ ∧ b < w.heap.size ∧ w.cell? ⟨b, off + i, none⟩ = some (.int .i64 (f i))
theorem vals_of_row {w : World} {a : Option Addr} {len : Nat} (h : Row w a len) : ∃ f, Vals w a len f := by
  rcases h with h | ⟨b, off, zs, rfl, hz, hb, hc⟩
  · exact ⟨fun _ => 0, fun i hi => by omega⟩
  · exact ⟨fun i => zs.getD i 0, fun i hi => ⟨b, off, rfl, hb, hc i (by omega)⟩⟩

/-- How far the counter in the block that p leads to has come. -/
def cnt (p : Value) (w : World) : Nat := match p with | .pointer (some a) => (intOf ((w.cell? a).getD undef)).toNat | _ => 0
theorem cnt_var {k : Nat} {x : Int} {w : World} (h : Var k (.int .i64 x) w) : cnt (.pointer (some ⟨k, 0, none⟩)) w = x.toNat := by
  simp [cnt, h.c, intOf]

theorem DropAt.val {B t bv : Nat} {a : Option Addr} {len cap : Nat} {mo : Option Nat} {c : Nat} {G : Slots} {w0 w : World} (D : DropAt B t bv a len cap mo c G w0 w) {b off i : Nat} {z : Int} (hb : b < B) (hc : w0.cell? ⟨b, off + i, none⟩ = some (.int .i64 z)) : w.cell? ⟨b, off + i, none⟩ = some (.int .i64 z) :=
  (D.below.cell (p := ⟨b, off + i, none⟩) hb).trans hc

theorem count_st' (B t : Nat) (mo : Option Nat) (c : Nat) (x : Int) (G : Slots) (w : World) (h : St B t mo c G w) (hx : (c : Int) = x) :
    Calls Try.prog 15 #[.pointer (some ⟨t, 0, none⟩)] w fun e w' => e = .returned (.int .i64 x) ∧ St B t mo c G w' ∧ Moves Nought B t mo w mo w' := by
  subst hx
  exact count_st B t mo c G w h

theorem Var.drew {k : Nat} {x : Value} {w : World} (h : Var k x w) : Var k x w.drew := ⟨by rw [World.cell?_drew]; exact h.c, by simp [h.f]⟩

theorem drop_get28 (B t bv b off len cap : Nat) (w0 : World) (hb : b < B) (k : Nat) (hk : k < len) (z : Int) (hc : w0.cell? ⟨b, off + k, none⟩ = some (.int .i64 z)) (y : Int) (hy : IntKind.i64.wrap (z + 1) = y) {mo : Option Nat} {c : Nat} (hcc : c < 1000) (G : Slots) (w : World)
    (D : DropAt B t bv (some ⟨b, off, none⟩) len cap mo c G w0 w) (bk : Nat) (V : Var bk (.int .i64 k) w) (hg : G (lk k) = none) :
    Calls Try.prog 11 #[.pointer (some ⟨t, 0, none⟩), .string (letter k), .func (.func 28) #[] #[.pointer (some ⟨bv, 0, none⟩), .pointer (some ⟨bk, 0, none⟩)]] w
      fun e w' => e = .returned (.int .i64 y) ∧ (∃ mo', DropAt B t bv (some ⟨b, off, none⟩) len cap mo' (c + 1) (upd G (lk k) (some (.inr y))) w0 w') ∧ Var bk (.int .i64 k) w' := by
  refine drop_get _ _ _ _ _ _ mo c hcc _ (letter k) (letter_size k) _ (Or.inl ⟨_, _, _, rfl⟩) y w0 _ D hg bk k V ?_
  intro mo1 c1 G1 w1 D1 V1
  refine call_mk 28 _ _ _ enters28 (answers_mono (read28 _ bk b off len cap k hk z w1 D1.vv V1 (D1.val hb hc)) ?_)
  rintro v w2 ⟨rfl, rfl⟩
  exact ⟨by rw [← hy, IntKind.wrap_i64]; unfold wrap64; rfl, rfl⟩

theorem drop_get29 (B t bv b off len cap : Nat) (w0 : World) (hb : b < B) (k : Nat) (hk : k < len) (z : Int) (hc : w0.cell? ⟨b, off + k, none⟩ = some (.int .i64 z)) {mo : Option Nat} {c : Nat} (hcc : c < 1000) (G : Slots) (w : World)
    (D : DropAt B t bv (some ⟨b, off, none⟩) len cap mo c G w0 w) (bk : Nat) (V : Var bk (.int .i64 k) w) (hg : G (lk k) = none) :
    Calls Try.prog 11 #[.pointer (some ⟨t, 0, none⟩), .string (letter k), .func (.func 29) #[] #[.pointer (some ⟨bv, 0, none⟩), .pointer (some ⟨bk, 0, none⟩)]] w
      fun e w' => e = .returned (.int .i64 z) ∧ (∃ mo', DropAt B t bv (some ⟨b, off, none⟩) len cap mo' (c + 1) (upd G (lk k) (some (.inr z))) w0 w') ∧ Var bk (.int .i64 k) w' := by
  refine drop_get _ _ _ _ _ _ mo c hcc _ (letter k) (letter_size k) _ (Or.inl ⟨_, _, _, rfl⟩) z w0 _ D hg bk k V ?_
  intro mo1 c1 G1 w1 D1 V1
  exact call_mk 29 _ _ _ enters29 (read29 _ bk b off len cap k hk z w1 D1.vv V1 (D1.val hb hc))

theorem drops_begun (w w1 w3 : World) (a0 : Option Addr) (len0 cap0 : Nat) (hb : Below w.heap.size w w1) (hs : w.heap.size < w1.heap.size) (hn : w1.cell? ⟨w.heap.size, 0, none⟩ = some (.slice a0 len0 cap0)) (hf : w1.frozen? ⟨w.heap.size, 0, none⟩ = false)
    (hb3 : Below (w1.alloc (.cells #[.int .i32 0, .int .u32 0, .map none] 61)).heap.size (w1.alloc (.cells #[.int .i32 0, .int .u32 0, .map none] 61)) w3) :
    DropAt w.heap.size w1.heap.size w.heap.size a0 len0 cap0 none 0 (fun _ => none) w w3 := by
  have D2 : DropAt w.heap.size w1.heap.size w.heap.size a0 len0 cap0 none 0 (fun _ => none) w (w1.alloc (.cells #[.int .i32 0, .int .u32 0, .map none] 61)) :=
    ⟨st_new _ w1 (by omega), Var.alloc ⟨hn, hf⟩ _, by simp; omega, hb.alloc (by omega) _⟩
  exact D2.grow ⟨hb3.os, hb3.tape, hb3.output, hb3.size, fun k hk _ => hb3.block k hk⟩

set_option maxRecDepth 100000 in
set_option maxHeartbeats 1600000 in
theorem drops_law (a0 : Option Addr) (len0 cap0 : Nat) (a1 : Option Addr) (len1 cap1 : Nat) (w : World) (h0 : Row w a0 len0) (hr : Row w a1 len1) :
    Calls Try.prog 7 #[.slice a0 len0 cap0, .slice a1 len1 cap1] w fun e w' => e = .returned (.bool true) ∧ Below w.heap.size w w' := by
  have hm := make_func
  have hn := hnot
  go_enter Try.func7, Try.ntmps7
  go_wp2_with fail
  refine (known_any _).mono ?_
  rintro e w1 ⟨rfl, hb1⟩
  have hn1 : w1.cell? ⟨w.heap.size, 0, none⟩ = some (.slice a0 len0 cap0) := by
    rw [hb1.cell (p := ⟨w.heap.size, 0, none⟩) (by simp), World.cell_new]; rfl
  have hf1 : w1.frozen? ⟨w.heap.size, 0, none⟩ = false := by
    rw [hb1.frozen (p := ⟨w.heap.size, 0, none⟩) (by simp)]; exact World.frozen_new _ _ _ _
  have hs1 : w.heap.size < w1.heap.size := by have := hb1.size; simp at this; omega
  have b1 := Lib.hid (((Below.refl w.heap.size w).alloc (Nat.le_refl _) (.cells #[.slice a0 len0 cap0] 39)).trans (hb1.mono (by simp)))
  clear hb1
  go_wp2_with fail
  refine (newTable_any _).mono ?_
  rintro e w2 ⟨rfl, rfl⟩
  go_wp2_with fail
  refine (known_any _).mono ?_
  rintro e w3 ⟨rfl, hb3⟩
  have hs3 : w1.heap.size < w3.heap.size := by have := hb3.size; simp at this; omega
  have hn3 : w3.cell? ⟨w.heap.size, 0, none⟩ = some (.slice a0 len0 cap0) := by
    rw [hb3.cell (p := ⟨w.heap.size, 0, none⟩) (by simp; omega), World.cell?_alloc_past _ _ _ hs1]; exact hn1
  obtain ⟨f, hf⟩ := vals_of_row h0
  have Hf := Lib.hid hf
  have D3 := Lib.hid (drops_begun w w1 w3 a0 len0 cap0 b1.out hs1 hn1 hf1 hb3)
  clear hf h0 hb3 hn1 hf1 b1
  go_wp2_with fail
  obtain ⟨N, hN⟩ : ∃ N : Nat, min (len0 : Int) 10 = (N : Int) := ⟨min len0 10, by omega⟩
  have hN1 : N ≤ 10 := by omega
  have hN2 : N ≤ len0 := by omega
  rw [hN]
  clear hN hn3
  have D4 := Lib.hid (D3.out.alloc (.cells #[.int .i64 0] 3))
  have V4 := Lib.hid (Var.new w3 (.int .i64 0) 3)
  clear D3
  generalize w1.heap.size = t at *
  generalize w3.heap.size = bi0 at *
  go_loopw [7] (fun p wr => ∃ j bi : Nat, j ≤ N ∧ p = .pointer (some ⟨bi, 0, none⟩) ∧ Hid (∃ mo, DropAt w.heap.size t w.heap.size a0 len0 cap0 mo j (tabG f j) w wr) ∧ Hid (Var bi (.int .i64 j) wr)) (fun p wr => N - cnt p wr)
  case atStart => exact ⟨0, bi0, Nat.zero_le _, rfl, ⟨none, by rw [tabG_zero]; exact D4.out⟩, V4⟩
  case round =>
    obtain ⟨j, bi, hj, rfl, HD, HV⟩ := hrel
    obtain ⟨mo, D⟩ := HD.out
    have hbi := HV.out.c
    have HD5 := Lib.hid D
    have Hcnt := Lib.hid (cnt_var HV.out)
    clear D HD D4 V4
    by_cases hlt : j < N
    · have hcv := conv_letter (wr.alloc (.cells #[.int .u8 (97 + j)] 5)) j (by omega) wr.heap.size (by rw [World.cell_new]; rfl)
      have hbi' := (HV.out.alloc (.cells #[.int .u8 (97 + j)] 5)).c
      go_wp2_with fail
      refine (drop_get _ _ _ _ _ _ mo j (by omega) _ (letter j) (letter_size j) _ (Or.inl ⟨_, _, _, rfl⟩) (f j) w _ (HD5.out.alloc _) (tabG_out f (fun i hi e => by have := lk_inj (by omega) (by omega) e; omega)) bi j (HV.out.alloc _) ?_).mono ?_
      · intro mo1 c1 G1 w1 D1 V1
        obtain ⟨b, off, ha, hb, hc⟩ := Hf.out j (by omega)
        subst ha
        exact call_mk 27 _ _ _ enters27 (read27 _ bi b off len0 cap0 j (by omega) (f j) w1 D1.vv V1 ((D1.below.cell (p := ⟨b, off + j, none⟩) hb).trans hc))
      rintro e w5 ⟨rfl, ⟨mo5, D5⟩, V5⟩
      have hb5 := V5.c
      have HD6 := Lib.hid D5
      clear D5 V5 hcv hbi hbi' HD5 HV
      go_wp2_with fail
      go_roundw
      case rel => exact ⟨j + 1, w5.heap.size, by omega, rfl, ⟨mo5, by rw [← tabG_succ f (by omega)]; exact HD6.out.alloc _⟩, Lib.hid (by simpa using Var.new w5 (.int .i64 ((j : Int) + 1)) 3)⟩
      case measure => rw [Hcnt.out, cnt_var (Var.new w5 (.int .i64 ((j : Int) + 1)) 3)]; omega
    · obtain rfl : N = j := by omega
      clear Hcnt HV hlt
      go_wp2_with fail
      clear hbi
      go_loopw [8] (fun i wr => ∃ i' : Nat, i' ≤ 20 ∧ i = .int .i64 i' ∧ Hid (∃ mo, DropAt w.heap.size t w.heap.size a0 len0 cap0 mo N (tabG f N) w wr)) (fun i _ => 20 - (intOf i).toNat)
      case atStart => exact ⟨0, by omega, rfl, ⟨mo, HD5.out⟩⟩
      case round =>
        obtain ⟨i, hi, rfl, HD⟩ := hrel
        clear HD5
        obtain ⟨mo2, D⟩ := HD.out
        have HD5 := Lib.hid D
        clear D HD
        by_cases hlt : i < len1 ∧ i < 20 ∧ 0 < N
        · obtain ⟨h1, h2, h3⟩ := hlt
          rcases hr with h0 | ⟨b, off, zs, rfl, hz, hbw, hcells⟩
          · omega
          have hx := (HD5.out.below.cell (p := ⟨b, off + i, none⟩) hbw).trans (hcells i (by omega))
          generalize zs.getD i 0 = z at hx
          clear hcells
          go_wp2_with fail
          refine (pick_any _ _ (by omega) (by omega) _).mono ?_
          rintro e w6 ⟨k, hk, rfl, rfl⟩
          have hcv := conv_new (wr.alloc (.cells #[.int .i64 k] 3)) k (by omega)
          simp only [World.size_alloc] at hcv
          have D7 := Lib.hid ((HD5.out.alloc (.cells #[.int .i64 k] 3)).alloc (.cells #[.int .u8 (97 + k)] 5))
          have V7 := Lib.hid ((Var.new wr (.int .i64 k) 3).alloc (.cells #[.int .u8 (97 + k)] 5))
          obtain ⟨b2, off2, ha, hb2, hc2⟩ := Hf.out k (by omega)
          subst ha
          have hkN : k < N := by omega
          clear HD5 hx hk
          go_wp2_with fail
          generalize wr.heap.size = bk at *
          refine (drop_st _ _ _ _ _ (letter k) (letter_size k) _ D7.out.st).mono ?_
          rintro e w8 ⟨rfl, s8, m8⟩
          have D8 := Lib.hid (D7.out.move s8 m8)
          have V8 := Lib.hid (V7.out.moves D7.out.st m8 (plain_int _) (fun h => h))
          rw [tabG_in f (by omega) hkN] at D8
          have D8 : Hid (DropAt w.heap.size t w.heap.size (some ⟨b2, off2, none⟩) len0 cap0 mo2 (N - 1) (upd (tabG f N) (lk k) none) w w8) := D8
          clear s8 m8 D7 V7 hcv
          go_wp2_with fail
          have hN0 : (((N - 1 : Nat)) : Int) = (N : Int) - 1 := by omega
          have HN0 := Lib.hid hN0
          obtain ⟨y, hy⟩ : ∃ y, IntKind.i64.wrap (f k + 1) = y := ⟨_, rfl⟩
          have HY := Lib.hid hy
          have hwn : IntKind.i64.wrap ((N : Int) - 1) = (N : Int) - 1 := IntWalk.i64_in _ (by omega)
          have hv8 := D8.out.vv.c
          have hk8 := V8.out.c
          have hz8 := D8.out.val hb2 hc2
          clear hN0
          have hki : (0 : Int) ≤ (k : Int) := by omega
          have hkl : (k : Int) < (len0 : Int) := by omega
          go_region_held3 (fun w' => w'.cell? ⟨w.heap.size, 0, none⟩ = some (.slice (some ⟨b2, off2, none⟩) len0 cap0) ∧ w'.cell? ⟨bk, 0, none⟩ = some (.int .i64 k) ∧ w'.cell? ⟨b2, off2 + k, none⟩ = some (.int .i64 (f k))) (first | exact ⟨hv8, hk8, hz8⟩ | exact ⟨hv9, hk9, hz9⟩ | exact ⟨hv10, hk10, hz10⟩ | exact ⟨hv11, hk11, hz11⟩ | exact ⟨hv12, hk12, hz12⟩)
            (first
              | (go_at_call 17; refine (made_st_no _ _ _ _ _ (letter k) (letter_size k) _ D8.out.drew.st (upd_same _ _ _)).mono ?_; rintro e w9 ⟨rfl, s9, m9⟩; have D9 := Lib.hid (D8.out.drew.move s9 m9); have V9 := Lib.hid (V8.out.drew.moves D8.out.drew.st m9 (plain_int _) (fun h => h)); have hv9 := D9.out.vv.c; have hk9 := V9.out.c; have hz9 := D9.out.val hb2 hc2; clear s9 m9)
              | (go_at_call 15; refine (count_st' _ _ _ _ _ _ _ D9.out.st HN0.out).mono ?_; rintro e w10 ⟨rfl, s10, m10⟩; have D10 := Lib.hid (D9.out.move s10 m10); have V10 := Lib.hid (V9.out.moves D9.out.st m10 (plain_int _) (fun h => h)); have hv10 := D10.out.vv.c; have hk10 := V10.out.c; have hz10 := D10.out.val hb2 hc2; clear s10 m10)
              | (go_at_call_of 11 (Value.nilFunc); refine (get_st_hit _ _ _ _ _ (letter k) (letter_size k) _ _ D11.out.st y (upd_same _ _ _)).mono ?_; rintro e w12 ⟨rfl, s12, m12⟩; have D12 := Lib.hid (D11.out.move s12 m12); have V12 := Lib.hid (V11.out.moves D11.out.st m12 (plain_int _) (fun h => h)); have hv12 := D12.out.vv.c; have hk12 := V12.out.c; have hz12 := D12.out.val hb2 hc2; clear s12 m12)
              | (go_at_call 11; refine (drop_get28 _ _ _ _ _ _ _ _ hb2 k (by omega) (f k) hc2 y HY.out (by omega) _ _ D10.out bk V10.out (upd_same _ _ _)).mono ?_; rintro e w11 ⟨rfl, ⟨mo11, D11'⟩, V11'⟩; have D11 := Lib.hid D11'; have V11 := Lib.hid V11'; have hv11 := D11'.vv.c; have hk11 := V11'.c; have hz11 := D11'.val hb2 hc2; clear D11' V11'))
          clear hv8 hk8 hz8 hv9 hk9 hz9 hv10 hk10 hz10 hv11 hk11 hz11 hv12 hk12 hz12 hwn hy hki hkl D8 V8 D9 V9 D10 V10 D11 V11
          go_wp2_with fail
          refine (drop_st _ _ _ _ _ (letter k) (letter_size k) _ D12.out.st).mono ?_
          rintro e w13 ⟨rfl, s13, m13⟩
          have D13 := Lib.hid (D12.out.move s13 m13)
          have V13 := Lib.hid (V12.out.moves D12.out.st m13 (plain_int _) (fun h => h))
          rw [upd_same, upd_upd, upd_upd] at D13
          have D13 : Hid (DropAt w.heap.size t w.heap.size (some ⟨b2, off2, none⟩) len0 cap0 mo11 (N - 1) (upd (tabG f N) (lk k) none) w w13) := by
            have e : N - 1 + 1 - 1 = N - 1 := by omega
            have := D13.out
            rw [← e]
            exact this
          clear s13 m13 D12 V12
          go_wp2_with fail
          refine (drop_get29 _ _ _ _ _ _ _ w hb2 k (by omega) (f k) hc2 (by omega) _ _ D13.out bk V13.out (upd_same _ _ _)).mono ?_
          rintro e w14 ⟨rfl, ⟨mo14, D14'⟩, V14⟩
          have D14 : Hid (DropAt w.heap.size t w.heap.size (some ⟨b2, off2, none⟩) len0 cap0 mo14 N (tabG f N) w w14) := by
            rw [upd_upd, tabG_back f (by omega) hkN] at D14'
            have e : N - 1 + 1 = N := by omega
            rw [e] at D14'
            exact D14'
          clear D14' V14 D13 V13
          go_wp2_with fail
          go_loopw [11] (fun j wr => ∃ j' : Nat, j' ≤ N ∧ j = .int .i64 j' ∧ Hid (∃ mo, DropAt w.heap.size t w.heap.size (some ⟨b2, off2, none⟩) len0 cap0 mo N (tabG f N) w wr)) (fun j _ => N - (intOf j).toNat)
          case atStart => exact ⟨0, Nat.zero_le _, rfl, ⟨mo14, D14.out⟩⟩
          case round =>
            obtain ⟨j, hj, rfl, HD⟩ := hrel
            obtain ⟨mo15, D⟩ := HD.out
            have D15 := Lib.hid D
            clear D HD D14
            by_cases hlt : j < N
            · obtain ⟨b3, off3, ha, hb3, hc3⟩ := Hf.out j (by omega)
              simp only [Option.some.injEq, Addr.mk.injEq, and_true] at ha
              obtain ⟨rfl, rfl⟩ := ha
              have hcv := conv_letter (wr.alloc (.cells #[.int .u8 (97 + j)] 5)).drew j (by omega) wr.heap.size (by rw [World.cell?_drew, World.cell_new]; rfl)
              have D16 := Lib.hid (D15.out.alloc (.cells #[.int .u8 (97 + j)] 5)).drew
              have hv15 := D15.out.vv.c
              have hz15 := D15.out.val hb3 hc3
              have D16' := Lib.hid (D15.out.alloc (.cells #[.int .u8 (97 + j)] 5))
              have hv16 := D16'.out.vv.c
              have hz16 := D16'.out.val hb3 hc3
              have hw1 : IntKind.i64.wrap (97 + (j : Int)) = 97 + (j : Int) := IntWalk.i64_in _ (by omega)
              have hw2 : IntKind.u8.wrap (97 + (j : Int)) = 97 + (j : Int) := IntWalk.u8_in _ (by omega)
              have hji : (0 : Int) ≤ (j : Int) := by omega
              have hjl : (j : Int) < (len0 : Int) := by omega
              go_wp2_with fail
              go_cut [122] (fun c wx => c = .bool false ∧ Hid (∃ mo, DropAt w.heap.size t w.heap.size (some ⟨b2, off2, none⟩) len0 cap0 mo N (tabG f N) w wx))
              case first =>
                go_region_with (first | (go_at_call 11; refine (get_st_hit _ _ _ _ _ (letter j) (letter_size j) _ _ D16.out.st (f j) (tabG_in f (by omega) hlt)).mono ?_; rintro e w17 ⟨rfl, s17, m17⟩; have D17 := Lib.hid (D16.out.move s17 m17); have hv17 := D17.out.vv.c; have hz17 := D17.out.val hb3 hc3; clear s17 m17))
                all_goals (go_wp2_with fail; go_meet; exact ⟨rfl, _, D17.out⟩)
              case rest =>
              obtain ⟨rfl, D17⟩ := hcut
              clear hv15 hz15 hv16 hz16 hw1 hw2 hji hjl hcv D15 D16 D16'
              go_wp2_with fail
              go_roundw
              case rel => exact ⟨j + 1, by omega, by go_num, D17⟩
              case measure => simp [intOf]; omega
            · have D15' : Hid (∃ mo, DropAt w.heap.size t w.heap.size (some ⟨b2, off2, none⟩) len0 cap0 mo N (tabG f N) w wr) := ⟨mo15, D15.out⟩
              clear D15
              go_wp2_with fail
              go_roundw
              case rel => exact ⟨i + 1, by omega, by go_num, D15'⟩
              case measure => simp [intOf]; omega
        · clear hr
          by_cases h1 : i < len1
          · by_cases h2 : i < 20
            · have h3 : N = 0 := by omega
              subst h3
              clear hlt
              go_wp2_with fail
              refine (count_st _ _ _ _ _ _ HD5.out.st).mono ?_
              rintro e w9 ⟨rfl, s9, m9⟩
              have D9 := Lib.hid (HD5.out.move s9 m9)
              clear s9 m9 HD5
              go_wp2_with fail
              go_ret
              exact ⟨rfl, D9.out.below⟩
            · clear hlt
              go_wp2_with fail
              refine (count_st _ _ _ _ _ _ HD5.out.st).mono ?_
              rintro e w9 ⟨rfl, s9, m9⟩
              have D9 := Lib.hid (HD5.out.move s9 m9)
              clear s9 m9 HD5
              go_wp2_with fail
              go_ret
              exact ⟨rfl, D9.out.below⟩
          · clear hlt
            go_wp2_with fail
            refine (count_st _ _ _ _ _ _ HD5.out.st).mono ?_
            rintro e w9 ⟨rfl, s9, m9⟩
            have D9 := Lib.hid (HD5.out.move s9 m9)
            clear s9 m9 HD5
            go_wp2_with fail
            go_ret
            exact ⟨rfl, D9.out.below⟩
end Go.Proofs.Ytnhepceannajeaa
