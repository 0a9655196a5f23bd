/- Raw numbers, one behind the other (lariathand's feed): the contract of next. -/
import Derived.Test.YtdfodmnjgpgojaaDoorTks
import Derived.Test.YtdfodmnjgpgojaaDoorSgn
import Derived.Deep.CutBlock
import Derived.BigQuiet
namespace Go.Proofs.YtdfodmnjgpgojaaDoor
open Go.RowKit Go.PlainAid
set_option maxRecDepth 100000

/-- The slice whose cells begin at a has the numbers ys. -/
structure HasI (w : World) (a : Option Addr) (ys : List Int) : Prop where
  cell : ∀ i, i < ys.length → ∃ b off, a = some ⟨b, off, none⟩ ∧ w.cell? ⟨b, off + i, none⟩ = some (.int .i64 (ys.getD i 0))
theorem HasI.nil (w : World) (a : Option Addr) : HasI w a [] := ⟨fun _ hi => absurd hi (Nat.not_lt_zero _)⟩
theorem HasI.touch {S : Nat → Prop} {w w' : World} {a : Option Addr} {ys : List Int} (h : HasI w a ys) (m : Touch S w w') (hn : ∀ b o, a = some ⟨b, o, none⟩ → ¬ S b) : HasI w' a ys :=
  ⟨fun i hi => by
    obtain ⟨b, off, rfl, hc⟩ := h.cell i hi
    exact ⟨b, off, rfl, (m.cell (p := ⟨b, off + i, none⟩) (lt_of_cell? hc) (hn b off rfl)).trans hc⟩⟩
theorem HasI.old {w w' : World} {a : Option Addr} {ys : List Int} (h : HasI w a ys) (m : Old w w') : HasI w' a ys := h.touch m (fun _ _ _ h => h)

/-- Any number as one of 0 to m - 1. -/
def pickN (n m : Int) : Nat := (n % m).toNat
theorem pickN_lt {n m : Int} (h : 0 < m) : (pickN n m : Int) < m := by
  have h1 := Int.emod_lt_of_pos n h
  have h2 := Int.emod_nonneg n (show m ≠ 0 by omega)
  unfold pickN
  omega
theorem emod_tmod {n m : Int} (h : 0 < m) : n % m = if n.tmod m < 0 then n.tmod m + m else n.tmod m := by
  have h1 : n.tmod m < m := Int.tmod_lt_of_pos n h
  have h2 : -m < n.tmod m := by
    have := Int.tmod_lt_of_pos (-n) h
    rw [Int.neg_tmod] at this
    omega
  have h3 : n % m = (n.tmod m) % m := by
    conv => lhs; rw [← Int.mul_tdiv_add_tmod n m]
    rw [Int.mul_add_emod_self_left]
  rw [h3]
  split
  · rw [← Int.add_emod_right]
    exact Int.emod_eq_of_lt (by omega) (by omega)
  · exact Int.emod_eq_of_lt (by omega) (by omega)
theorem pick_at (n m : Int) (hm0 : 0 < m) (hm1 : m ≤ 4611686018427387904) (w : World) : Calls Tryd.prog 13 #[.int .i64 n, .int .i64 m] w fun e w' => e = .returned (.int .i64 (pickN n m : Int)) ∧ w = w' := by
  have h1 : n.tmod m < m := Int.tmod_lt_of_pos n hm0
  have h2 : -m < n.tmod m := by
    have := Int.tmod_lt_of_pos (-n) hm0
    rw [Int.neg_tmod] at this
    omega
  have hz : ¬ m = 0 := by omega
  have he := emod_tmod (n := n) hm0
  have hp : (pickN n m : Int) = n % m := Int.toNat_of_nonneg (Int.emod_nonneg n (by omega))
  have Hp := Lib.hid hp
  have He := Lib.hid he
  clear hp he
  by_cases hneg : n.tmod m < 0
  · go_enter Tryd.func13, Tryd.ntmps13
    go_wp2
    go_ret
    refine ⟨?_, rfl⟩
    rw [Hp.out, He.out, if_pos hneg]
    rfl
  · go_enter Tryd.func13, Tryd.ntmps13
    go_wp2
    go_ret
    refine ⟨?_, rfl⟩
    rw [Hp.out, He.out, if_neg (by omega)]
    rfl

def varTab : List ByteArray := [⟨#[120]⟩, ⟨#[121]⟩, ⟨#[122]⟩]
def procTab : List ByteArray := [⟨#[112]⟩, ⟨#[113]⟩, ⟨#[114]⟩]
def locTab : List ByteArray := [⟨#[97]⟩, ⟨#[98]⟩, ⟨#[99]⟩, ⟨#[100]⟩]
/-- What a feed stands on: the raw numbers, the tables. -/
structure Grd (w : World) (a : Option Addr) (n : Nat) : Prop where
  nums : ∃ ys : List Int, ys.length = n ∧ HasI w a ys
  le : n ≤ maxLen
  vars : Tbl w 2 varTab
  procs : Tbl w 0 procTab
  locs : Tbl w 1 locTab
theorem Grd.old {w w' : World} {a : Option Addr} {n : Nat} (h : Grd w a n) (m : Old w w') : Grd w' a n := by
  obtain ⟨ys, h1, h2⟩ := h.nums
  exact ⟨⟨ys, h1, h2.old m⟩, h.le, h.vars.old m (fun q => q), h.procs.old m (fun q => q), h.locs.old m (fun q => q)⟩
/-- A feed that has told k numbers. -/
structure Feed (w0 : World) (f : Nat) (a : Option Addr) (n c k : Nat) (w : World) : Prop where
  grd : Grd w0 a n
  new : w0.heap.size ≤ f
  old : Old w0 w
  is : Blk w f 53 [.slice a n c, .int .i64 (k : Int)]
theorem Feed.grd' {w0 w : World} {f n c k : Nat} {a : Option Addr} (h : Feed w0 f a n c k w) : Grd w a n := h.grd.old h.old
theorem Feed.step {w0 w : World} {f n c k : Nat} {a : Option Addr} (h : Feed w0 f a n c k w) : Feed w0 f a n c (k + 1) (w.setCell ⟨f, 1, none⟩ (.int .i64 ((k : Int) + 1))) :=
  ⟨h.grd, h.new, h.old.setCell (.inr h.new) _, by have := h.is.set 1 (.int .i64 ((k : Int) + 1)); rw [Int.natCast_add]; exact this⟩
theorem Feed.drew {w0 w : World} {f n c k : Nat} {a : Option Addr} (h : Feed w0 f a n c k w) : Feed w0 f a n c k w.drew := ⟨h.grd, h.new, h.old.drew, h.is⟩
theorem Feed.drewN {w0 w : World} {f n c k : Nat} {a : Option Addr} (h : Feed w0 f a n c k w) (m : Nat) : Feed w0 f a n c k (w.drewN m) := ⟨h.grd, h.new, h.old.drewN m, h.is⟩

set_option maxHeartbeats 3200000 in
theorem next_any {w0 : World} {f n c k : Nat} {a : Option Addr} (m : Nat) (hm0 : 0 < m) (hm1 : m ≤ 1000) (hk : k ≤ 1000000) (w : World) (h : Feed w0 f a n c k w) :
    Calls Tryd.prog 35 #[.pointer (some ⟨f, 0, none⟩), .int .i64 (m : Int)] w fun e w' => ∃ x k' : Nat, e = .returned (.int .i64 (x : Int)) ∧ x < m ∧ k' ≤ k + 1 ∧ Feed w0 f a n c k' w' := by
  have HH := Lib.hid h
  have c0 := h.is.cell 0
  have c1 := h.is.cell 1
  have f1 := h.is.frozen 1
  have hle := h.grd.le
  have hmx : maxLen = 9223372036854775807 := by decide
  by_cases h0 : n = 0
  · subst h0
    clear h
    go_enter Tryd.func35, Tryd.ntmps35
    go_wp2_with fail
    go_ret
    exact ⟨0, k, rfl, hm0, by omega, HH.out⟩
  · obtain ⟨ys, hy, hI⟩ := h.grd'.nums
    have hi : (k + 1) % n < n := Nat.mod_lt _ (by omega)
    obtain ⟨b, o, rfl, hc⟩ := hI.cell ((k + 1) % n) (by omega)
    have hbf : ¬ f = b := by
      rintro rfl
      obtain ⟨_, _, e, h2⟩ := h.grd.nums.choose_spec.2.cell 0 (by have := h.grd.nums.choose_spec.1; omega)
      cases e
      have := lt_of_cell? h2
      have := h.new
      simp at *
      omega
    have hq : ¬ (n : Int) = 0 := by omega
    have hcl : w.cell? ⟨b, o + (k + 1) % n, none⟩ = some (.int .i64 (ys.getD ((k + 1) % n) 0)) := hc
    generalize ys.getD ((k + 1) % n) 0 = y at *
    have HS := Lib.hid h.step
    have Hhc : Hid ((w.setCell ⟨f, 1, none⟩ (.int .i64 ((k : Int) + 1))).cell? ⟨b, o + (k + 1) % n, none⟩ = some (.int .i64 y)) := by
      show _ = _
      rw [World.cell?_setCell_other w ⟨f, 1, none⟩ ⟨b, o + (k + 1) % n, none⟩ _ (fun e => hbf (congrArg Addr.block e))]
      exact hcl
    have HP : Hid (∀ (z : Int) w, Calls Tryd.prog 13 #[.int .i64 z, .int .i64 (m : Int)] w fun e w' => e = .returned (.int .i64 (pickN z m : Int)) ∧ w' = w) := fun z w => (pick_at z m (by omega) (by omega) w).mono fun _ _ ⟨x, y⟩ => ⟨x, y.symm⟩
    have HL : Hid (∀ z : Int, pickN z m < m) := fun z => by have := pickN_lt (n := z) (m := (m : Int)) (by omega); omega
    have ek : IntKind.i64.wrap ((k : Int) + 1) = (k : Int) + 1 := wrap_fits ⟨by omega, by omega⟩
    have er : ((k : Int) + 1).tmod (n : Int) = (((k + 1) % n : Nat) : Int) := by
      rw [show (k : Int) + 1 = ((k + 1 : Nat) : Int) by omega]
      rfl
    have ed : ((k : Int) + 1).tdiv (n : Int) = (((k + 1) / n : Nat) : Int) := by
      rw [show (k : Int) + 1 = ((k + 1 : Nat) : Int) by omega]
      rfl
    have hdl : (k + 1) / n ≤ k + 1 := Nat.div_le_self _ _
    generalize (k + 1) % n = r at *
    generalize (k + 1) / n = d at *
    have hd0 : ¬ (1 : Int) + (d : Int) = 0 := by omega
    have e1d : IntKind.i64.wrap (1 + (d : Int)) = 1 + (d : Int) := wrap_fits ⟨by omega, by omega⟩
    clear h hcl hc hy hI
    go_enter Tryd.func35, Tryd.ntmps35
    go_upto_region 4 with fail
    generalize w.setCell ⟨f, 1, none⟩ (.int .i64 ((k : Int) + 1)) = w1 at *
    clear c0 c1 f1
    have c0 : ∀ nd, (w1.drewN nd).cell? ⟨f, 0, none⟩ = some (.slice (some ⟨b, o, none⟩) n c) := fun nd => (HS.out.drewN nd).is.cell 0
    have c1 : ∀ nd, (w1.drewN nd).cell? ⟨f, 1, none⟩ = some (.int .i64 ((k : Int) + 1)) := fun nd => (HS.out.drewN nd).is.cell 1
    have cy : ∀ nd, (w1.drewN nd).cell? ⟨b, o + r, none⟩ = some (.int .i64 y) := fun nd => Hhc.out
    go_quiet (first | (go_at_call_of 13 (Value.int .i64 (m : Int)); with_reducible refine Calls.quiet_of_same (HP.out _ _)))
    go_wp2_with fail
    go_ret
    exact ⟨_, k + 1, rfl, HL.out _, Nat.le_refl _, HS.out.drewN nq⟩
/-- The next number, whichever it is. -/
def Nexts (w0 : World) (f : Nat) (a : Option Addr) (n c : Nat) : Prop := ∀ (m : Nat) (mi : Int) (j : Nat) (w : World), mi = (m : Int) → 0 < m → m ≤ 1000 → j ≤ 1000000 → Feed w0 f a n c j w →
  Calls Tryd.prog 35 #[.pointer (some ⟨f, 0, none⟩), .int .i64 mi] w fun e w' => ∃ x k' : Nat, e = .returned (.int .i64 (x : Int)) ∧ x < m ∧ k' ≤ j + 1 ∧ Feed w0 f a n c k' w'
theorem nexts (w0 : World) (f : Nat) (a : Option Addr) (n c : Nat) : Nexts w0 f a n c := fun m mi j w e h1 h2 h3 h4 => by
  rw [e]
  exact next_any m h1 h2 h3 w h4
end Go.Proofs.YtdfodmnjgpgojaaDoor
