/- The contract of the reference's sign. -/
import Derived.Test.YtdfodmnjgpgojaaDoorSgb
import Derived.Test.YtdfodmnjgpgojaaDoorTks
import Derived.Test.YtdfodmnjgpgojaaDoorOwn
import Derived.Deep.DeepCutAuto
import Derived.Deep.CutBlock
namespace Go.Proofs.YtdfodmnjgpgojaaDoor
open Go.RowKit Go.PlainAid
set_option maxRecDepth 100000

def twoTab : List ByteArray := [⟨#[60, 61]⟩, ⟨#[62, 61]⟩, ⟨#[61, 61]⟩, ⟨#[33, 61]⟩, ⟨#[38, 38]⟩, ⟨#[124, 124]⟩, ⟨#[45, 62]⟩, ⟨#[]⟩, ⟨#[]⟩]
def oneStr : ByteArray := ⟨#[40, 41, 91, 93, 43, 45, 42, 60, 62, 33, 64, 59, 61]⟩
def twoB (s : ByteArray) (k : Nat) : Bool := (s.extract 0 2).toList == (twoTab.getD k ByteArray.empty).toList
def oneB (s : ByteArray) (k : Nat) : Bool := (s.extract 0 1).toList == (oneStr.extract k (k + 1)).toList
theorem twoB_is {s : ByteArray} (h : 1 < s.size) (c d : UInt8) (hd : 0 < d.toNat) : ((s.extract 0 2).toList == (⟨#[c, d]⟩ : ByteArray).toList) = decide (bt s 0 = (c.toNat : Int) ∧ bt s 1 = (d.toNat : Int)) := by
  have := preB_two s c d hd
  unfold preB at this
  rw [show (⟨#[c, d]⟩ : ByteArray).size = 2 from rfl, decide_eq_true (show 2 ≤ s.size by omega), Bool.true_and] at this
  exact this
theorem oneB_is {s : ByteArray} (h : 0 < s.size) (c : UInt8) (hc : 0 < c.toNat) : ((s.extract 0 1).toList == (⟨#[c]⟩ : ByteArray).toList) = decide (bt s 0 = (c.toNat : Int)) := by
  have := preB_one s c hc
  unfold preB at this
  rw [show (⟨#[c]⟩ : ByteArray).size = 1 from rfl, decide_eq_true (show 1 ≤ s.size by omega), Bool.true_and] at this
  exact this
theorem sign_two {s : ByteArray} (h : 1 < s.size) {k : Nat} (hk : k < 7) (ht : twoB s k = true) : signB (bt s 0) (bt s 1) = 2 ∧ (twoTab.getD k ByteArray.empty).size = 2 := by
  have key : ∀ (c d : UInt8), 0 < d.toNat → ((s.extract 0 2).toList == (⟨#[c, d]⟩ : ByteArray).toList) = true → bt s 0 = (c.toNat : Int) ∧ bt s 1 = (d.toNat : Int) := fun c d hd e => by
    rw [twoB_is h c d hd, decide_eq_true_eq] at e
    exact e
  match k, hk with
  | 0, _ => obtain ⟨e1, e2⟩ := key 60 61 (by decide) ht; rw [e1, e2]; exact ⟨by decide, rfl⟩
  | 1, _ => obtain ⟨e1, e2⟩ := key 62 61 (by decide) ht; rw [e1, e2]; exact ⟨by decide, rfl⟩
  | 2, _ => obtain ⟨e1, e2⟩ := key 61 61 (by decide) ht; rw [e1, e2]; exact ⟨by decide, rfl⟩
  | 3, _ => obtain ⟨e1, e2⟩ := key 33 61 (by decide) ht; rw [e1, e2]; exact ⟨by decide, rfl⟩
  | 4, _ => obtain ⟨e1, e2⟩ := key 38 38 (by decide) ht; rw [e1, e2]; exact ⟨by decide, rfl⟩
  | 5, _ => obtain ⟨e1, e2⟩ := key 124 124 (by decide) ht; rw [e1, e2]; exact ⟨by decide, rfl⟩
  | 6, _ => obtain ⟨e1, e2⟩ := key 45 62 (by decide) ht; rw [e1, e2]; exact ⟨by decide, rfl⟩
theorem not_two {s : ByteArray} (h : ∀ k, k < 7 → 1 < s.size → twoB s k = false) : ¬ ((bt s 0 = 60 ∧ bt s 1 = 61) ∨ (bt s 0 = 62 ∧ bt s 1 = 61) ∨ (bt s 0 = 61 ∧ bt s 1 = 61) ∨ (bt s 0 = 33 ∧ bt s 1 = 61) ∨ (bt s 0 = 38 ∧ bt s 1 = 38) ∨ (bt s 0 = 124 ∧ bt s 1 = 124) ∨ (bt s 0 = 45 ∧ bt s 1 = 62)) := fun q => by
  rcases Nat.lt_or_ge 1 s.size with hs | hs
  · have key : ∀ (k : Nat) (c d : UInt8), k < 7 → twoTab.getD k ByteArray.empty = ⟨#[c, d]⟩ → 0 < d.toNat → ¬ (bt s 0 = (c.toNat : Int) ∧ bt s 1 = (d.toNat : Int)) := fun k c d hk e hd => by
      have h1 := h k hk hs
      unfold twoB at h1
      rw [e, twoB_is hs c d hd, decide_eq_false_iff_not] at h1
      exact h1
    rcases q with q | q | q | q | q | q | q
    · exact key 0 60 61 (by decide) rfl (by decide) q
    · exact key 1 62 61 (by decide) rfl (by decide) q
    · exact key 2 61 61 (by decide) rfl (by decide) q
    · exact key 3 33 61 (by decide) rfl (by decide) q
    · exact key 4 38 38 (by decide) rfl (by decide) q
    · exact key 5 124 124 (by decide) rfl (by decide) q
    · exact key 6 45 62 (by decide) rfl (by decide) q
  · have := bt_end s (k := 1) hs
    omega
theorem oneStr_get : ∀ k, k < 13 → oneStr.extract k (k + 1) = ⟨#[oneStr.data.toList.getD k 0]⟩ := by decide +kernel
theorem oneStr_pos : ∀ k, k < 13 → 0 < (oneStr.data.toList.getD k 0).toNat := by decide +kernel
theorem sign_one {s : ByteArray} (h0 : 0 < s.size) (h : ∀ k, k < 7 → 1 < s.size → twoB s k = false) {k : Nat} (hk : k < 13) (ht : oneB s k = true) : signB (bt s 0) (bt s 1) = 1 := by
  have h2 := not_two h
  unfold oneB at ht
  rw [oneStr_get k hk, oneB_is h0 _ (oneStr_pos k hk), decide_eq_true_eq] at ht
  have hv : ∀ k, k < 13 → ((((oneStr.data.toList.getD k 0).toNat : Nat) : Int) = 40 ∨ (((oneStr.data.toList.getD k 0).toNat : Nat) : Int) = 41 ∨ (((oneStr.data.toList.getD k 0).toNat : Nat) : Int) = 91 ∨ (((oneStr.data.toList.getD k 0).toNat : Nat) : Int) = 93 ∨ (((oneStr.data.toList.getD k 0).toNat : Nat) : Int) = 43 ∨ (((oneStr.data.toList.getD k 0).toNat : Nat) : Int) = 45 ∨ (((oneStr.data.toList.getD k 0).toNat : Nat) : Int) = 42 ∨ (((oneStr.data.toList.getD k 0).toNat : Nat) : Int) = 60 ∨ (((oneStr.data.toList.getD k 0).toNat : Nat) : Int) = 62 ∨ (((oneStr.data.toList.getD k 0).toNat : Nat) : Int) = 33 ∨ (((oneStr.data.toList.getD k 0).toNat : Nat) : Int) = 64 ∨ (((oneStr.data.toList.getD k 0).toNat : Nat) : Int) = 59 ∨ (((oneStr.data.toList.getD k 0).toNat : Nat) : Int) = 61) := by decide +kernel
  have hk' := hv k hk
  rw [← ht] at hk'
  unfold signB
  rw [if_neg h2, if_pos hk']
theorem sign_none {s : ByteArray} (h0 : 0 < s.size) (h : ∀ k, k < 7 → 1 < s.size → twoB s k = false) (h1 : ∀ k, k < 13 → oneB s k = false) : signB (bt s 0) (bt s 1) = 0 := by
  have h2 := not_two h
  have key : ∀ (k : Nat) (c : UInt8), k < 13 → oneStr.data.toList.getD k 0 = c → ¬ bt s 0 = (c.toNat : Int) := fun k c hk e => by
    have h3 := h1 k hk
    unfold oneB at h3
    rw [oneStr_get k hk, oneB_is h0 _ (oneStr_pos k hk), decide_eq_false_iff_not, e] at h3
    exact h3
  unfold signB
  rw [if_neg h2, if_neg (fun q => by
    rcases q with q | q | q | q | q | q | q | q | q | q | q | q | q
    · exact key 0 40 (by decide) rfl q
    · exact key 1 41 (by decide) rfl q
    · exact key 2 91 (by decide) rfl q
    · exact key 3 93 (by decide) rfl q
    · exact key 4 43 (by decide) rfl q
    · exact key 5 45 (by decide) rfl q
    · exact key 6 42 (by decide) rfl q
    · exact key 7 60 (by decide) rfl q
    · exact key 8 62 (by decide) rfl q
    · exact key 9 33 (by decide) rfl q
    · exact key 10 64 (by decide) rfl q
    · exact key 11 59 (by decide) rfl q
    · exact key 12 61 (by decide) rfl q)]
end Go.Proofs.YtdfodmnjgpgojaaDoor
