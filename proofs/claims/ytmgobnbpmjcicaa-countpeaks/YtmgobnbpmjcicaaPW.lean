/- The walk of lariatlaw2.CountPeaks. -/
import Derived.Test.YtmgobnbpmjcicaaOpen
namespace Go.Proofs.Ytmgobnbpmjcicaa
open Go.RowKit Go.MuLone

/-- The greatest of the first ones, and 0. -/
def top (q : Nat → Int) : Nat → Int
  | 0 => 0
  | i + 1 => max (top q i) (q i)
theorem top_pos (q : Nat → Int) : ∀ i, 0 ≤ top q i
  | 0 => Int.le_refl _
  | i + 1 => by have := top_pos q i; unfold top; omega

/-- Two peaks beside one another. -/
structure Two (p r : Nat) (x y : Int) (w0 w : World) : Prop where
  kp : Num p x none w
  kr : Num r y none w
  lo : w0.heap.size ≤ p
  pr : p < r
  old : Old w0 w

theorem Two.same {p r : Nat} {x y : Int} {w0 w w' : World} (S : Two p r x y w0 w) (T : Old w w') : Two p r x y w0 w' :=
  ⟨S.kp.touch T (fun h => h), S.kr.touch T (fun h => h), S.lo, S.pr, S.old.trans T⟩
theorem Two.first {p r : Nat} {x y : Int} {w0 w : World} (S : Two p r x y w0 w) (n : Int) :
    Calls Try.prog 10 #[.pointer (some ⟨p, 0, none⟩), .int .i64 n] w fun e w' => e = .returned (.bool (above x n)) ∧ Two p r (max x n) y w0 w' := by
  refine (note_any p x n _ w S.kp).mono ?_
  rintro e w' ⟨rfl, K, T⟩
  have h1 := S.pr
  exact ⟨rfl, K, S.kr.touch T (by omega), S.lo, S.pr, S.old.own T S.lo⟩
theorem Two.second {p r : Nat} {x y : Int} {w0 w : World} (S : Two p r x y w0 w) (n : Int) :
    Calls Try.prog 10 #[.pointer (some ⟨r, 0, none⟩), .int .i64 n] w fun e w' => e = .returned (.bool (above y n)) ∧ Two p r x (max y n) w0 w' := by
  refine (note_any r y n _ w S.kr).mono ?_
  rintro e w' ⟨rfl, K, T⟩
  have h1 := S.pr
  have h0 := S.lo
  exact ⟨rfl, S.kp.touch T (by omega), K, S.lo, S.pr, S.old.own T (by omega)⟩

theorem two_begin (w w1 : World) (h : Old w w1) :
    Two w1.heap.size (w1.heap.size + 1) 0 0 w ((w1.alloc (.cells #[.int .i64 0] 31)).alloc (.cells #[.int .i64 0] 31)) := by
  have p1 := (Num.new w1 0 31).alloc (.cells #[.int .i64 0] 31)
  have r1 := Num.new (w1.alloc (.cells #[.int .i64 0] 31)) 0 31
  simp only [World.size_alloc] at r1
  exact ⟨p1, r1, h.size, by omega, (h.alloc _).alloc _⟩

theorem cell_old {w w' : World} (h : Old w w') {b o : Nat} (hb : b < w.heap.size) : w'.cell? ⟨b, o, none⟩ = w.cell? ⟨b, o, none⟩ := h.cell (p := ⟨b, o, none⟩) hb (fun h => h)

set_option maxRecDepth 100000 in
set_option maxHeartbeats 1600000 in
theorem peaks_law (a : Option Addr) (len cap : Nat) (w : World) (q : Nat → Int) (hr : IntRow w a len q) :
    Calls Try.prog 6 #[.slice a len cap] w fun e w' => e = .returned (.bool true) ∧ Below w.heap.size w w' := by
  have hn := hnot
  have HR := Lib.hid hr
  clear hr
  go_enter Try.func6, Try.ntmps6
  go_wp2_with fail
  refine (known_any _).mono ?_
  rintro e w1 ⟨rfl, T1⟩
  have S1 := Lib.hid (two_begin w w1 T1)
  clear T1
  obtain ⟨N, hN⟩ : ∃ N : Nat, min (len : Int) 40 = (N : Int) := ⟨min len 40, by omega⟩
  have hN1 : N ≤ 40 := by omega
  have hN2 : N ≤ len := by omega
  go_wp2_with fail
  clear hN
  generalize w1.heap.size = p at *
  go_loopw [6, 7] (fun hi i wx => ∃ i' : Nat, i' ≤ N ∧ i = .int .i64 i' ∧ hi = .int .i64 (top q i') ∧ Hid (Two p (p + 1) (top q i') 0 w wx)) (fun _ i _ => N - (intOf i).toNat)
  case atStart => exact ⟨0, by omega, rfl, rfl, S1⟩
  case round =>
    obtain ⟨i, hi, rfl, rfl, S⟩ := hrel
    clear S1
    by_cases hlt : i < N
    · obtain ⟨b, off, rfl, hb, hc, hf⟩ := HR.out i (by omega)
      have hx := (cell_old S.out.old (o := off + i) hb).trans hc
      have hil : (i : Int) < (len : Int) := by omega
      have hil' : (0 : Int) ≤ (i : Int) := by omega
      have Hc := Lib.hid hc
      have Hb := Lib.hid hb
      clear hc hf hb
      go_wp2_with fail
      go_region_held3 (fun w' => w'.cell? ⟨b, off + i, none⟩ = some (.int .i64 (q i))) (first | exact hx | exact hx7)
        (first | (go_at_call 10; refine ((S.out.same (Touch.refl _ _).drew).first (q i)).mono ?_; rintro e w7 ⟨rfl, S7'⟩; have S7 := Lib.hid S7'; have hx7 := (cell_old S7'.old (o := off + i) Hb.out).trans Hc.out; clear S7'))
      have ha : (!(above (top q i) (q i) == decide (top q i < q i))) = false := by unfold above; simp
      rw [ha]
      have ht : max (top q i) (q i) = top q (i + 1) := rfl
      have HS : Hid (Two p (p + 1) (top q (i + 1)) 0 w w7) := S7.out
      clear S S7 hx
      go_wp2_with fail
      clear hx7 ha ht
      go_roundw
      case rel => exact ⟨i + 1, by omega, by go_num, rfl, HS⟩
      case measure => simp [intOf]; omega
    · obtain rfl : N = i := by omega
      clear hlt hi
      go_wp2_with fail
      have Ht : Hid (∃ x, Two p (p + 1) (top q N) x w wr ∧ max x (top q N) = top q N ∧ 0 ≤ x) := ⟨0, S.out, by have := top_pos q N; omega, Int.le_refl _⟩
      clear S
      go_loopw [8] (fun i wx => ∃ k : Nat, k ≤ N ∧ i = .int .i64 ((k : Int) - 1) ∧ Hid (∃ x, Two p (p + 1) (top q N) x w wx ∧ max x (top q k) = top q N ∧ 0 ≤ x)) (fun i _ => (intOf i + 1).toNat)
      case atStart => exact ⟨N, Nat.le_refl _, rfl, Ht⟩
      case round =>
        obtain ⟨k, hk, rfl, HS⟩ := hrel
        clear Ht
        obtain ⟨x, S, hx1, hx2⟩ := HS.out
        have S' := Lib.hid S
        clear S HS
        cases k with
        | zero =>
          have hx : x = top q N := by have : top q 0 = 0 := rfl; omega
          subst hx
          clear hx1 hx2
          go_wp2_with fail
          refine (known_any _).mono ?_
          rintro e w2 ⟨rfl, T2⟩
          have S2 := Lib.hid (S'.out.same T2)
          clear T2 S'
          go_wp2_with fail
          refine (peak_load _ _ _ _ S2.out.kp).mono ?_
          rintro e w' ⟨rfl, rfl⟩
          go_wp2_with fail
          refine (peak_load _ _ _ _ S2.out.kr).mono ?_
          rintro e w' ⟨rfl, rfl⟩
          go_wp2_with fail
          refine (S2.out.first _).mono ?_
          rintro e w3 ⟨rfl, S3'⟩
          have S3 : Hid (Two p (p + 1) (top q N) (top q N) w w3) := by rw [Int.max_self] at S3'; exact S3'
          have ha : above (top q N) (top q N) = false := decide_eq_false (by omega)
          clear S3' S2
          go_wp2_with fail
          refine (peak_load _ _ _ _ S3.out.kp).mono ?_
          rintro e w' ⟨rfl, rfl⟩
          go_wp2_with fail
          go_ret
          exact ⟨rfl, S3.out.old.below (Nat.le_refl _) (fun _ _ h => h)⟩
        | succ k =>
          obtain ⟨b, off, rfl, hb, hc, hf⟩ := HR.out k (by omega)
          have hx := (cell_old S'.out.old (o := off + k) hb).trans hc
          have hil : (k : Int) < (len : Int) := by omega
          have hil' : (0 : Int) ≤ (k : Int) := by omega
          have he : ((k + 1 : Nat) : Int) - 1 = (k : Int) := by omega
          rw [he]
          have H1 := Lib.hid hx1
          have H2 := Lib.hid hx2
          clear hc hf hb he hx1 hx2
          have hw : IntKind.i64.wrap ((k : Int) - 1) = (k : Int) - 1 := wrap_fits ⟨by omega, by omega⟩
          go_wp2_with fail
          refine (S'.out.second _).mono ?_
          rintro e w2 ⟨rfl, S2'⟩
          have HS : Hid (∃ x, Two p (p + 1) (top q N) x w w2 ∧ max x (top q k) = top q N ∧ 0 ≤ x) :=
            ⟨_, S2', by have h1 := H1.out; have : top q (k + 1) = max (top q k) (q k) := rfl; omega, by have := H2.out; omega⟩
          clear S2' S' hx H1 H2
          go_wp2_with fail
          go_roundw
          case rel => exact ⟨k, by omega, rfl, HS⟩
          case measure => simp [intOf]
end Go.Proofs.Ytmgobnbpmjcicaa
