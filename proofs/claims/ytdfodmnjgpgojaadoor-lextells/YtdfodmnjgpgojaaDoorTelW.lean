/- The law LexTells's walk. -/
import Derived.Test.YtdfodmnjgpgojaaDoorStnW
import Derived.Test.YtdfodmnjgpgojaaDoorRLx
import Derived.Test.YtdfodmnjgpgojaaDoorRWd
namespace Go.Proofs.YtdfodmnjgpgojaaDoor
open Go.RowKit Go.PlainAid
set_option maxRecDepth 100000

set_option maxHeartbeats 12800000 in
theorem tells_law (a : Option Addr) (n c : Nat) (b : Option Addr) (nb cb : Nat) (raw : ByteArray) (how : Int) (w : World) (h : Src w a n b nb raw) :
    Calls Tryd.prog 4 #[.slice a n c, .slice b nb cb, .string raw, .int .i64 how] w fun e w' => e = .returned (.bool true) ∧ Below w.heap.size w w' := by
  have HT := Lib.hid h.signs
  have HS : Hid (∀ w1, Old w w1 → Calls Tryd.prog 10 #[.slice a n c, .slice b nb cb, .string raw, .int .i64 how] w1 (Made w1 maxLen)) := fun w1 O => by
    obtain ⟨ys, y1, y2⟩ := h.bent
    exact text_any a n c b nb cb raw how w1 (h.grd.old O) ⟨ys, y1, y2.old O⟩ h.le h.raw
  have HP : Hid (Old w w) := Touch.refl _ _
  clear h
  go_enter Tryd.func4, Tryd.ntmps4
  go_upto_region 6 with (first
    | (go_at_call 7; refine (known_any _ (HT.out.old HP.out (fun q => q))).mono ?_; rintro e w1 ⟨rfl, O⟩
       have HP : Hid (Old w w1) := HP.out.trans O
       clear O)
    | (go_at_call 10; refine (HS.out _ HP.out).mono ?_; rintro e w1 ⟨s, rfl, hs, O⟩
       have HP : Hid (Old w w1) := HP.out.trans O
       have HSz := Lib.hid hs
       clear O hs HS)
    | (go_at_call 8; refine (lex_any s HSz.out _ (HT.out.old HP.out (fun q => q))).mono ?_; rintro e w2 ⟨p, cp, rfl, hcp, hT, O⟩
       have HP : Hid (Old w w2) := HP.out.trans O
       have HL := Lib.hid hT
       obtain ⟨E, hE⟩ : ∃ E, lexE s = E := ⟨_, rfl⟩
       have HE := Lib.hid hE
       rw [hE]
       obtain ⟨A, hA⟩ : ∃ A, lexA s = A := ⟨_, rfl⟩
       have HA := Lib.hid hA
       rw [hA]
       obtain ⟨L, hL⟩ : ∃ L, lexL s = L := ⟨_, rfl⟩
       have HLs := Lib.hid hL
       rw [hL] at HL hcp ⊢
       obtain ⟨N, hN⟩ : ∃ N, L.length = N := ⟨_, rfl⟩
       have HN := Lib.hid hN
       rw [hN] at hcp ⊢
       clear O hT hE hA hL hN)
    | (go_at_call 11; refine (refLex_any s _).mono ?_; rintro e w3 ⟨p3, c3, rfl, hc3, hT3, O⟩
       have HP : Hid (Old w w3) := HP.out.trans O
       have HL := Lib.hid (HL.out.old O)
       have HL3 := Lib.hid hT3
       rw [HE.out, HA.out]
       rw [HLs.out] at HL3 hc3 ⊢
       rw [HN.out] at hc3 ⊢
       clear O hT3 HE HA))
  have HW1 : Hid (∀ w1, Old w w1 → Calls Tryd.prog 9 #[.string s] w1 fun e w' => e = .returned (.bool (isWordB s)) ∧ w1 = w') := fun w1 O => (isWord_any s HSz.out w1 (HT.out.old O (fun q => q))).mono fun _ _ ⟨x, y⟩ => ⟨x, y.symm⟩
  have HW2 : Hid (∀ w1, Calls Tryd.prog 12 #[.string s] w1 fun e w' => e = .returned (.bool (isWordB s)) ∧ w1 = w') := fun w1 => (refIsWord_any s HSz.out w1).mono fun _ _ ⟨x, y⟩ => ⟨x, y.symm⟩
  generalize isWordB s = bw at *
  have hNb : N ≤ 60002 := by rw [← HN.out, ← HLs.out]; exact lexL_length s
  clear HLs
  go_wp2_with (first
    | (go_at_call 9; refine (HW1.out _ HP.out).mono ?_; rintro e w' ⟨rfl, rfl⟩)
    | (go_at_call 12; refine (HW2.out _).mono ?_; rintro e w' ⟨rfl, rfl⟩))
  go_loopw [16, 60] (fun _ iv wx => ∃ i : Nat, i ≤ N ∧ iv = .int .i64 (i : Int) ∧ Hid (HasT wx p L ∧ HasT wx p3 L ∧ Old w wx)) (fun _ iv _ => N - (intOf iv).toNat)
  case atStart => exact ⟨0, Nat.zero_le _, rfl, HL.out, HL3.out, HP.out⟩
  case round =>
    obtain ⟨i, hi, rfl, HW⟩ := hrel
    clear HL HL3 HP
    by_cases q : i < N
    · have q' : (i : Int) < (N : Int) := by omega
      obtain ⟨t, ht⟩ : ∃ t, L[i]? = some t := ⟨_, List.getElem?_eq_getElem (by rw [HN.out]; exact q)⟩
      obtain ⟨g, rfl, c0, c1, c2, c3'⟩ := HW.out.1.cell i t ht
      obtain ⟨g', rfl, d0, d1, d2, d3⟩ := HW.out.2.1.cell i t ht
      obtain ⟨K, X, nn, A'⟩ := t
      simp only at c0 c1 c2 c3' d0 d1 d2 d3
      go_upto_region 11 with fail
      have a0 : ∀ nd, (wr.drewN nd).cell? ⟨g, i * 4, none⟩ = some (.int .i64 (K : Int)) := fun nd => c0
      have a1 : ∀ nd, (wr.drewN nd).cell? ⟨g, i * 4 + 1, none⟩ = some (.string X) := fun nd => c1
      have a2 : ∀ nd, (wr.drewN nd).cell? ⟨g, i * 4 + 2, none⟩ = some (.int .i64 nn) := fun nd => c2
      have a3 : ∀ nd, (wr.drewN nd).cell? ⟨g, i * 4 + 3, none⟩ = some (.int .i64 (A' : Int)) := fun nd => c3'
      have b0 : ∀ nd, (wr.drewN nd).cell? ⟨g', i * 4, none⟩ = some (.int .i64 (K : Int)) := fun nd => d0
      have b1 : ∀ nd, (wr.drewN nd).cell? ⟨g', i * 4 + 1, none⟩ = some (.string X) := fun nd => d1
      have b2 : ∀ nd, (wr.drewN nd).cell? ⟨g', i * 4 + 2, none⟩ = some (.int .i64 nn) := fun nd => d2
      have b3 : ∀ nd, (wr.drewN nd).cell? ⟨g', i * 4 + 3, none⟩ = some (.int .i64 (A' : Int)) := fun nd => d3
      clear c0 c1 c2 c3' d0 d1 d2 d3
      go_quiet (fail)
      go_wp2_with fail
      exact ⟨⟨i + 1, by omega, by rw [Int.natCast_add]; rfl, HW.out.1.old ((Touch.refl _ _).drewN _), HW.out.2.1.old ((Touch.refl _ _).drewN _), HW.out.2.2.drewN _⟩, by simp only [intOf]; omega⟩
    · have q' : ¬ (i : Int) < (N : Int) := by omega
      go_wp2_with (first
        | (go_at_call 7; refine (known_any _ (HT.out.old HW.out.2.2 (fun q => q))).mono ?_; rintro e w1 ⟨rfl, O⟩
           have HP : Hid (Old w w1) := HW.out.2.2.trans O
           clear O))
      go_ret
      exact ⟨rfl, HP.out.below (Nat.le_refl _) (fun _ _ q => q)⟩
end Go.Proofs.YtdfodmnjgpgojaaDoor
