/- Contracts of lariatlaw5's page and found. -/
import Derived.Test.YtmingbgohdhajaaGreatOpenW
namespace Go.Proofs.YtmingbgohdhajaaGreat
open Go.RowKit
set_option maxRecDepth 100000

/-- The bytes of a page. -/
def pageAt (c : Int) (i : Nat) : Nat := ((c / 256 ^ (i % 3) % 256 + (i % 3 : Nat)) % 256).toNat
def pageOf (c : Int) : List Nat := (List.range 96).map (pageAt c)
theorem pageAt_lt (c : Int) (i : Nat) : pageAt c i < 256 := by unfold pageAt; omega
theorem pageOf_trk (c : Int) : Trk (pageOf c) := ⟨fun x hx => by
  obtain ⟨i, _, rfl⟩ := List.mem_map.1 hx
  exact pageAt_lt c i, by simp [pageOf]⟩
/-- The first t places. -/
def pageTo (c : Int) (t : Nat) : List Nat := (List.range t).map (pageAt c) ++ List.replicate (96 - t) 0
theorem pageTo_set (c : Int) (t : Nat) (h : t < 96) : (pageTo c t).set t (pageAt c t) = pageTo c (t + 1) := by
  unfold pageTo
  rw [List.set_append_right _ _ (by simp), show 96 - t = (96 - (t + 1)) + 1 by omega, List.replicate_succ, List.length_map, List.length_range, Nat.sub_self, List.set_cons_zero, List.range_succ, List.map_append]
  simp
theorem pageTo_length (c : Int) (t : Nat) (h : t ≤ 96) : (pageTo c t).length = 96 := by simp [pageTo]; omega

set_option maxHeartbeats 1600000 in
theorem page_any (c : Int) (w : World) :
    Calls Tryz.prog 37 #[.int .i64 c] w fun e w' => e = .returned (.slice (some ⟨w.heap.size, 0, none⟩) 96 96) ∧ Blk w' w.heap.size 5 (cells (pageOf c)) ∧ Old w w' := by
  have hmk : (Instr.makeSlice 61 (.int .i64 96) (.int .i64 96)).run Tryz.prog w = .ok (.slice (some ⟨w.heap.size, 0, none⟩) 96 96) (w.alloc (.cells (cells (zeros 96)).toArray 5)) := make_bytes 96 (by decide) w
  have T0 : Hid (Old w (w.alloc (.cells (cells (zeros 96)).toArray 5))) := (Touch.refl _ _).alloc _
  have HK0 : Hid (Blk (w.alloc (.cells (cells (zeros 96)).toArray 5)) w.heap.size 5 (cells (pageTo c 0))) := by rw [show pageTo c 0 = zeros 96 from rfl]; exact Blk.new w 5 (cells (zeros 96))
  generalize w.alloc (.cells (cells (zeros 96)).toArray 5) = w0 at *
  go_enter Tryz.func37, Tryz.ntmps37
  go_wp2_with fail
  go_loopw [8] (fun i wx => ∃ t : Nat, t ≤ 96 ∧ i = .int .i64 t ∧ Hid (Blk wx w.heap.size 5 (cells (pageTo c t))) ∧ Hid (Old w wx)) (fun i _ => 96 - (intOf i).toNat)
  case atStart => exact ⟨0, by omega, rfl, HK0, T0⟩
  case round =>
    obtain ⟨t, ht, rfl, HK, HT⟩ := hrel
    clear HK0 T0 hmk
    by_cases hlt : t < 96
    · have hc := HK.out.cell t
      rw [cells_get _ _ (by rw [pageTo_length c t ht]; exact hlt)] at hc
      have hf := HK.out.frozen t
      have HN := Lib.hid (HK.out.set t (.int .u8 (pageAt c t : Int)))
      rw [cells_set, pageTo_set _ _ hlt] at HN
      have HO := Lib.hid (HT.out.setCell (p := ⟨w.heap.size, t, none⟩) (.inr (Nat.le_refl _)) (.int .u8 (pageAt c t : Int)))
      have h0 : (0 : Int) ≤ (t : Int) := by omega
      have h1 : (t : Int) < 96 := by omega
      have e2 : (t : Int).tmod 3 = ((t % 3 : Nat) : Int) := by rw [Int.tmod_eq_emod_of_nonneg (by omega)]; omega
      have hpa : (pageAt c t : Int) = (c / 256 ^ (t % 3) % 256 + (t % 3 : Nat)) % 256 := by unfold pageAt; omega
      clear HK HT
      generalize pageAt c t = q at *
      have h3 : t % 3 = 0 ∨ t % 3 = 1 ∨ t % 3 = 2 := by omega
      rcases h3 with h3 | h3 | h3
      · rw [h3] at e2 hpa
        have hv : (q : Int) = c % 256 := by rw [hpa]; simp <;> omega
        rw [hv] at HN HO
        clear hpa hv h3
        simp only [Int.cast_ofNat_Int] at e2
        go_wp2_with fail
        exact ⟨⟨t + 1, by omega, by go_num, HN, HO⟩, by simp [intOf]; omega⟩
      · rw [h3] at e2 hpa
        have hv : (q : Int) = (c / 256 + 1) % 256 := by rw [hpa]; simp <;> omega
        rw [hv] at HN HO
        clear hpa hv h3
        simp only [Int.cast_ofNat_Int] at e2
        go_wp2_with fail
        exact ⟨⟨t + 1, by omega, by go_num, HN, HO⟩, by simp [intOf]; omega⟩
      · rw [h3] at e2 hpa
        have hv : (q : Int) = (c / 65536 + 2) % 256 := by rw [hpa]; simp <;> omega
        rw [hv] at HN HO
        clear hpa hv h3
        simp only [Int.cast_ofNat_Int] at e2
        go_wp2_with fail
        exact ⟨⟨t + 1, by omega, by go_num, HN, HO⟩, by simp [intOf]; omega⟩
    · obtain rfl : t = 96 := by omega
      go_wp2_with fail
      go_ret
      exact ⟨rfl, by have := HK.out; rwa [show pageTo c 96 = pageOf c from by unfold pageTo pageOf; simp] at this, HT.out⟩
end Go.Proofs.YtmingbgohdhajaaGreat
