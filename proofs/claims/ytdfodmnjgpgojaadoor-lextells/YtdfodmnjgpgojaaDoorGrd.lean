/- The contracts of the feed's guard and small; what a text of raw numbers is. -/
import Derived.Test.YtdfodmnjgpgojaaDoorFd
namespace Go.Proofs.YtdfodmnjgpgojaaDoor
open Go.RowKit Go.PlainAid
set_option maxRecDepth 100000

/-- A text that a feed told: so long at most, by so many numbers at most. -/
def Told (w0 : World) (f : Nat) (a : Option Addr) (n c k m sz : Nat) (e : Ending) (w' : World) : Prop := ∃ (s : ByteArray) (k' : Nat), e = .returned (.string s) ∧ s.size ≤ sz ∧ k' ≤ k + m ∧ Feed w0 f a n c k' w'
/-- One of some texts. -/
theorem one_of (l : List ByteArray) (b : Nat) (h : ∀ s ∈ l, s.size ≤ b) (x : Nat) : (l.getD x ByteArray.empty).size ≤ b := by
  rcases Nat.lt_or_ge x l.length with q | q
  · rw [List.getD_eq_getElem?_getD, List.getElem?_eq_getElem q]
    exact h _ (List.getElem_mem q)
  · rw [List.getD_eq_getElem?_getD, List.getElem?_eq_none q]
    exact Nat.zero_le _
theorem app_le {x y : ByteArray} {a b : Nat} (hx : x.size ≤ a) (hy : y.size ≤ b) : (x ++ y).size ≤ a + b := by
  rw [ByteArray.size_append]
  omega
theorem var_size (x : Nat) : (varTab.getD x ByteArray.empty).size ≤ 1 := one_of _ _ (by decide) x
theorem proc_size (x : Nat) : (procTab.getD x ByteArray.empty).size ≤ 1 := one_of _ _ (by decide) x
theorem loc_size (x : Nat) : (locTab.getD x ByteArray.empty).size ≤ 1 := one_of _ _ (by decide) x

set_option maxHeartbeats 3200000 in
theorem guard_any {w0 : World} {f n c k : Nat} {a : Option Addr} (hk : k ≤ 900000) (w : World) (h : Feed w0 f a n c k w) :
    Calls Tryd.prog 36 #[.pointer (some ⟨f, 0, none⟩)] w (Told w0 f a n c k 2 8) := by
  have HH := Lib.hid h
  have HK := Lib.hid hk
  have HN := Lib.hid (nexts w0 f a n c)
  clear h hk
  go_enter Tryd.func36, Tryd.ntmps36
  go_wp2_with (first
    | (go_at_call_of 35 (Value.int .i64 2); refine (HN.out 2 2 k _ rfl (by decide) (by decide) (by have := HK.out; omega) HH.out).mono ?_; rintro e w1 ⟨x, k1, rfl, hx, hk1, F1⟩
       have hv := F1.grd'.vars x (by simpa [varTab] using (by omega : x < 3))
       have hx3 : (x : Int) < 3 := by omega
       obtain ⟨v, hve⟩ : ∃ v, varTab.getD x ByteArray.empty = v := ⟨_, rfl⟩
       have hvs : v.size ≤ 1 := by rw [← hve]; exact var_size x
       rw [hve] at hv
       have HF1 := Lib.hid F1
       have HK1 := Lib.hid hk1
       clear F1 hve))
  refine (HN.out 9 9 k1 _ rfl (by decide) (by decide) (by have := HK.out; have := HK1.out; omega) HF1.out).mono ?_
  rintro e w2 ⟨y, k2, rfl, hy, hk2, F2⟩
  have hix : ∀ w, (Instr.index 61 (.agg #[.string (⟨#[49]⟩), .string (⟨#[49]⟩), .string (v ++ (⟨#[60, 49]⟩ : ByteArray)), .string (v ++ (⟨#[62, 48]⟩ : ByteArray)), .string (v ++ (⟨#[61, 61, 49]⟩ : ByteArray)), .string (⟨#[120, 33, 61, 121]⟩), .string (⟨#[112, 64, 97, 124, 124, 120, 60, 50]⟩), .string (⟨#[33, 40, 113, 64, 98, 41]⟩), .string (v ++ (⟨#[60, 50]⟩ : ByteArray))]) (.int .i64 (y : Int))).run Tryd.prog w = .ok (.string (([(⟨#[49]⟩ : ByteArray), (⟨#[49]⟩ : ByteArray), v ++ (⟨#[60, 49]⟩ : ByteArray), v ++ (⟨#[62, 48]⟩ : ByteArray), v ++ (⟨#[61, 61, 49]⟩ : ByteArray), (⟨#[120, 33, 61, 121]⟩ : ByteArray), (⟨#[112, 64, 97, 124, 124, 120, 60, 50]⟩ : ByteArray), (⟨#[33, 40, 113, 64, 98, 41]⟩ : ByteArray), v ++ (⟨#[60, 50]⟩ : ByteArray)] : List ByteArray).getD y ByteArray.empty)) w := fun w => run_index_strs Tryd.underlying61 [(⟨#[49]⟩ : ByteArray), (⟨#[49]⟩ : ByteArray), v ++ (⟨#[60, 49]⟩ : ByteArray), v ++ (⟨#[62, 48]⟩ : ByteArray), v ++ (⟨#[61, 61, 49]⟩ : ByteArray), (⟨#[120, 33, 61, 121]⟩ : ByteArray), (⟨#[112, 64, 97, 124, 124, 120, 60, 50]⟩ : ByteArray), (⟨#[33, 40, 113, 64, 98, 41]⟩ : ByteArray), v ++ (⟨#[60, 50]⟩ : ByteArray)] y hy rfl w
  have hsz : (([(⟨#[49]⟩ : ByteArray), (⟨#[49]⟩ : ByteArray), v ++ (⟨#[60, 49]⟩ : ByteArray), v ++ (⟨#[62, 48]⟩ : ByteArray), v ++ (⟨#[61, 61, 49]⟩ : ByteArray), (⟨#[120, 33, 61, 121]⟩ : ByteArray), (⟨#[112, 64, 97, 124, 124, 120, 60, 50]⟩ : ByteArray), (⟨#[33, 40, 113, 64, 98, 41]⟩ : ByteArray), v ++ (⟨#[60, 50]⟩ : ByteArray)] : List ByteArray).getD y ByteArray.empty).size ≤ 8 := one_of _ _ (by
    intro s hs
    simp only [List.mem_cons, List.not_mem_nil, or_false] at hs
    rcases hs with rfl | rfl | rfl | rfl | rfl | rfl | rfl | rfl | rfl <;> first
      | decide
      | exact Nat.le_trans (app_le hvs (Nat.le_refl _)) (by decide)) y
  generalize ([(⟨#[49]⟩ : ByteArray), (⟨#[49]⟩ : ByteArray), v ++ (⟨#[60, 49]⟩ : ByteArray), v ++ (⟨#[62, 48]⟩ : ByteArray), v ++ (⟨#[61, 61, 49]⟩ : ByteArray), (⟨#[120, 33, 61, 121]⟩ : ByteArray), (⟨#[112, 64, 97, 124, 124, 120, 60, 50]⟩ : ByteArray), (⟨#[33, 40, 113, 64, 98, 41]⟩ : ByteArray), v ++ (⟨#[60, 50]⟩ : ByteArray)] : List ByteArray).getD y ByteArray.empty = S at *
  have HF2 := Lib.hid F2
  clear F2
  go_wp2_with fail
  go_ret
  exact ⟨S, k2, rfl, hsz, by have := HK1.out; omega, HF2.out⟩
end Go.Proofs.YtdfodmnjgpgojaaDoor
