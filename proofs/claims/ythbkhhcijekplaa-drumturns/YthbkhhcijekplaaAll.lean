/- Contracts of lariatlaw4.all and of a drum's Afloat. -/
import Derived.Test.YthbkhhcijekplaaLook
import Derived.Deep.WholeRow
namespace Go.Proofs.Ythbkhhcijekplaa
open Go.RowKit

def intOf : Value → Int | .int _ q => q | _ => 0

/-- A track of one byte. -/
def same (c : Nat) : List Nat := List.replicate 96 c
theorem same_trk {c : Nat} (h : c < 256) : Trk (same c) := ⟨fun x hx => by rw [(List.mem_replicate.1 hx).2]; exact h, by simp [same]⟩
/-- The first t places are c. -/
def upTo (c t : Nat) : List Nat := List.replicate t c ++ List.replicate (96 - t) 0
theorem upTo_set (c t : Nat) (h : t < 96) : (upTo c t).set t c = upTo c (t + 1) := by
  unfold upTo
  rw [List.set_append_right _ _ (by simp), show 96 - t = (96 - (t + 1)) + 1 by omega, List.replicate_succ, List.length_replicate, Nat.sub_self, List.set_cons_zero, List.replicate_succ' (n := t)]
  simp
theorem cells_set (xs : List Nat) (i x : Nat) : (cells xs).set i (.int .u8 (x : Int)) = cells (xs.set i x) := by simp [cells, List.map_set]
/-- A number's byte. -/
def byteOf (c : Int) : Nat := (c % 256).toNat
theorem byteOf_lt (c : Int) : byteOf c < 256 := by unfold byteOf; omega

set_option maxRecDepth 100000 in
theorem all_any (c : Int) (w : World) :
    Calls Try.prog 11 #[.int .i64 c] w fun e w' => e = .returned (.slice (some ⟨w.heap.size, 0, none⟩) 96 96) ∧ Blk w' w.heap.size 5 (cells (same (byteOf c))) ∧ Old w w' := by
  have hmk : (Instr.makeSlice 28 (.int .i64 96) (.int .i64 96)).run Try.prog w = .ok (.slice (some ⟨w.heap.size, 0, none⟩) 96 96) (w.alloc (.cells (cells (zeros 96)).toArray 5)) := make_bytes 96 (by decide) w
  have K0 := Blk.new w 5 (cells (zeros 96))
  have T0 : Hid (Old w (w.alloc (.cells (cells (zeros 96)).toArray 5))) := (Touch.refl _ _).alloc _
  have HK0 : Hid (Blk (w.alloc (.cells (cells (zeros 96)).toArray 5)) w.heap.size 5 (cells (upTo (byteOf c) 0))) := by rw [show upTo (byteOf c) 0 = zeros 96 from rfl]; exact K0
  clear K0
  generalize w.alloc (.cells (cells (zeros 96)).toArray 5) = w0 at *
  have hb : c % 256 = (byteOf c : Int) := by unfold byteOf; omega
  have hbl := byteOf_lt c
  go_enter Try.func11, Try.ntmps11
  go_wp2_with fail
  go_loopw [8] (fun i wx => ∃ t : Nat, t ≤ 96 ∧ i = .int .i64 t ∧ Hid (Blk wx w.heap.size 5 (cells (upTo (byteOf c) t))) ∧ Hid (Old w wx)) (fun i _ => 96 - (intOf i).toNat)
  case atStart => exact ⟨0, by omega, rfl, HK0, T0⟩
  case round =>
    obtain ⟨t, ht, rfl, HK, HT⟩ := hrel
    clear HK0 T0 hmk
    by_cases hlt : t < 96
    · have hc := HK.out.cell t
      have hlen : (upTo (byteOf c) t).length = 96 := by simp [upTo]; omega
      rw [cells_get _ _ (by omega)] at hc
      have hf := HK.out.frozen t
      have HN := Lib.hid (HK.out.set t (.int .u8 (byteOf c : Int)))
      rw [cells_set, upTo_set _ _ hlt] at HN
      have HO := Lib.hid (HT.out.setCell (p := ⟨w.heap.size, t, none⟩) (.inr (Nat.le_refl _)) (.int .u8 (byteOf c : Int)))
      have h0 : (0 : Int) ≤ (t : Int) := by omega
      have h1 : (t : Int) < 96 := by omega
      clear HK HT hlen
      generalize byteOf c = q at *
      go_wp2_with fail
      refine ⟨⟨t + 1, by omega, by go_num, HN, HO⟩, by simp [intOf]; omega⟩
    · obtain rfl : t = 96 := by omega
      go_wp2_with fail
      go_ret
      exact ⟨rfl, by have := HK.out; rwa [show upTo (byteOf c) 96 = same (byteOf c) from by unfold upTo same; rw [Nat.sub_self, List.replicate_zero, List.append_nil]] at this, HT.out⟩
end Go.Proofs.Ythbkhhcijekplaa
