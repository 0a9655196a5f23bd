/- The walk of lariatlaw5.LedgerLives. -/
import Derived.Test.YtmingbgohdhajaaSail
import Derived.Deep.RegionHeld3
import Derived.Deep.RegionWith
import Derived.Deep.DeepCutAuto
namespace Go.Proofs.Ytmingbgohdhajaa
open Go.RowKit
set_option maxRecDepth 100000

/-- A ledger of 16 leaves and 14 home tracks, no break being set. -/
def Lvs (w : World) (lp d t : Nat) (wx : World) : Prop := ∃ P N, Sail w lp d 16 14 t true P N wx
theorem Lvs.old {w wx wy : World} {lp d t : Nat} (h : Lvs w lp d t wx) (m : Old wx wy) : Lvs w lp d t wy := by
  obtain ⟨P, N, S⟩ := h
  exact ⟨P, N, S.old m⟩
theorem Lvs.old0 {w wx : World} {lp d t : Nat} (h : Lvs w lp d t wx) : Old w wx := by
  obtain ⟨P, N, S⟩ := h
  exact S.old0
theorem lvs_size {w wx : World} {lp d t : Nat} (h : Lvs w lp d t wx) : Calls Try.prog 40 #[.pointer (some ⟨lp, 0, none⟩)] wx fun y w' => y = .returned (.int .i64 14) ∧ wx = w' := by
  obtain ⟨P, N, S⟩ := h
  exact sail_size S
theorem lvs_write {w wx : World} {lp d t : Nat} (h : Lvs w lp d t wx) (ht : t ≤ 200) (a : Option Addr) (k : Nat) (bs : List Nat) (cap : Nat) (En : Ents wx a [(k, bs)]) (hk : (k : Int) < 14) (hT : Trk bs) : Calls Try.prog 14 #[.pointer (some ⟨lp, 0, none⟩), .slice a 1 cap] wx fun y w' => y = .returned (.int .i64 0) ∧ Lvs w lp d (t + 1) w' := by
  obtain ⟨P, N, S⟩ := h
  refine (sail_write1 S ht (by omega) (by omega) a k bs cap En (by omega) hT).mono ?_
  rintro y w' ⟨rfl, _, S'⟩
  exact ⟨rfl, _, _, S'⟩

set_option maxHeartbeats 6400000 in
theorem lives_law (aa : Option Addr) (len cap : Nat) (w : World) (HA0 : HasA w aa len) :
    Calls Try.prog 8 #[.slice aa len cap] w fun e w' => e = .returned (.bool true) ∧ Below w.heap.size w w' := by
  have HA := Lib.hid HA0
  clear HA0
  go_enter Try.func8, Try.ntmps8
  go_wp2_with fail
  refine (known_any w).mono ?_
  rintro x w1 ⟨rfl, O1⟩
  have HO1 := Lib.hid O1
  clear O1
  go_wp2_with fail
  refine (sail_found (l := 16) (h := 14) HO1.out rfl (by omega) (by omega) (by omega)).mono ?_
  rintro x w2 ⟨lp0, d, rfl, S2, _⟩
  have HS2 := Lib.hid S2
  clear S2 HO1
  go_wp2_with fail
  refine (known_any w2).mono ?_
  rintro x w3 ⟨rfl, O3⟩
  have H0 : Hid (Lvs w lp0 d (0 * 9) w3) := ⟨_, _, HS2.out.old O3⟩
  clear O3 HS2
  go_wp2_with fail
  go_loopw [3, 5] (fun v i wx => ∃ t lp : Nat, t ≤ len ∧ t ≤ 9 ∧ v = .pointer (some ⟨lp, 0, none⟩) ∧ i = .int .i64 t ∧ Hid (Lvs w lp d (t * 9) wx)) (fun _ i _ => 9 - (intOf i).toNat)
  case atStart => exact ⟨0, lp0, by omega, by omega, rfl, rfl, H0⟩
  case round =>
    obtain ⟨t, lp, ht1, ht2, rfl, rfl, HL⟩ := hrel
    clear H0
    by_cases hin : t < len ∧ t < 9
    · have i0 : (0 : Int) ≤ (t : Int) := by omega
      have i1 : (t : Int) < (len : Int) := by omega
      have i2 : (t : Int) < 9 := by omega
      obtain ⟨ba, oa, r, rfl, hx⟩ := HA.out t hin.1
      have HX := Lib.hid hx
      clear hx
      go_wp2_with fail
      go_loopw [6] (fun i wx => ∃ k : Nat, k ≤ 5 ∧ i = .int .i64 k ∧ Hid (Lvs w lp d (t * 9 + k) wx)) (fun i _ => 5 - (intOf i).toNat)
      case atStart => exact ⟨0, by omega, rfl, HL⟩
      case round =>
        obtain ⟨k, hk, rfl, HK⟩ := hrel
        clear HL
        by_cases hlt : k < 5
        · have j0 : (0 : Int) ≤ (k : Int) := by omega
          have j1 : (k : Int) < 5 := by omega
          have HC : Hid (∀ w', Old w w' → w'.cell? ⟨ba, oa + t * 6 + 1, none⟩ = some (.int .i64 r.n)) := fun w' m => (HX.out.old m).c1
          have HKd := Lib.hid (HK.out.old ((Touch.refl (fun _ => False) wr).drew))
          clear HK
          go_wp2_with fail
          go_region_held3 (fun w' => w'.cell? ⟨ba, oa + t * 6 + 1, none⟩ = some (.int .i64 r.n)) (first | exact HC.out _ HKd.out.old0 | exact HC.out _ HK7.out.old0 | exact HC.out _ HK8.out.old0 | exact HC.out _ HK9.out.old0) (first
            | (go_at_call 40; refine (lvs_size HKd.out).mono ?_; rintro x w' ⟨rfl, rfl⟩)
            | (go_at_call 32; refine (pick_big _ 14 (by omega) (by omega) _).mono ?_; rintro x w' ⟨at7, hat7, rfl, rfl⟩)
            | (go_at_call 15; refine (page_ex _ _).mono ?_; rintro x w7 ⟨P7, rfl, hP7, B7, O7⟩
               have HK7 := Lib.hid (HKd.out.old O7)
               have T8 : Old w7 (w7.alloc (.cells #[.int .i64 (at7 : Int), .slice (some ⟨wr.drew.heap.size, 0, none⟩) 96 96] 37)) := (Touch.refl _ _).alloc _
               have HE8 := Lib.hid (Ents.one (k := at7) hP7.len (Blk.new w7 37 [.int .i64 (at7 : Int), .slice (some ⟨wr.drew.heap.size, 0, none⟩) 96 96]) (Nat.le_refl 96) (B7.old T8))
               have HK8 := Lib.hid (HK7.out.old T8)
               have HP8 := Lib.hid hP7
               clear T8 B7 O7 hP7)
            | (go_at_call 14; refine (lvs_write HK8.out (by omega) _ at7 P7 _ HE8.out hat7 HP8.out).mono ?_; rintro x w9 ⟨rfl, L9⟩
               have HK9 := Lib.hid L9
               clear L9))
          all_goals
            rename_i hHeld
            clear hHeld
            go_wp2_with fail
            exact ⟨⟨k + 1, by omega, by go_num, HK9⟩, by simp [intOf]; omega⟩
        · obtain rfl : k = 5 := by omega
          have HC : Hid (∀ w', Old w w' → w'.cell? ⟨ba, oa + t * 6 + 5, none⟩ = some (.slice r.ka r.kl r.kc) ∧ w'.cell? ⟨ba, oa + t * 6 + 2, none⟩ = some (.int .i64 r.torn) ∧ w'.cell? ⟨ba, oa + t * 6 + 3, none⟩ = some (.int .i64 r.cut) ∧ HasI w' r.ka r.ks) := fun w' m => ⟨(HX.out.old m).c5, (HX.out.old m).c2, (HX.out.old m).c3, (HX.out.old m).keep⟩
          have HKd := Lib.hid (HK.out.old ((Touch.refl (fun _ => False) wr).drew))
          clear HK
          go_wp2_with fail
          go_region_held3 (fun w' => w'.cell? ⟨ba, oa + t * 6 + 5, none⟩ = some (.slice r.ka r.kl r.kc) ∧ w'.cell? ⟨ba, oa + t * 6 + 2, none⟩ = some (.int .i64 r.torn) ∧ w'.cell? ⟨ba, oa + t * 6 + 3, none⟩ = some (.int .i64 r.cut) ∧ HasI w' r.ka r.ks) (first | exact HC.out _ HKd.out.old0 | exact HC.out _ HK7.out.old0 | exact HC.out _ HF8.out.old0) (first
            | (go_at_call 44; refine (few_any r.ka r.ks r.kl r.kc 14 _ (HC.out _ HKd.out.old0).2.2.2 HX.out.klen (by omega) (by omega)).mono ?_; rintro x w7 ⟨bk, mk, ck, yk, rfl, hmk, hmk20, I7, O7⟩
               have HK7 := Lib.hid (HKd.out.old O7)
               have HI7 := Lib.hid I7
               have HM7 := Lib.hid hmk
               clear O7 I7 hmk)
            | (go_at_call 32; with_reducible refine (pick_big _ 14 (by omega) (by omega) _).mono ?_; rintro x w' ⟨to7, hto7, rfl, rfl⟩)
            | (go_at_call 32; with_reducible refine (pick_big _ 97 (by omega) (by omega) _).mono ?_; rintro x w' ⟨cu7, hcu7, rfl, rfl⟩)
            | (go_at_call 20; obtain ⟨P7, N7, S7⟩ := HK7.out; refine (wreck_fall S7.wreck (by omega) bk yk mk ck _ _ HI7.out HM7.out (by omega)).mono ?_; rintro x w8 ⟨rfl, _, F8⟩
               have HF8 : Hid (Fell w d 16 14 (t * 9 + 5) true (fun _ => True) w8) := F8.mono (fun _ _ => trivial) (Nat.le_refl _)
               clear F8 S7))
          all_goals
            rename_i hHeld
            clear hHeld HC HKd HK7 HI7 HM7
            go_wp2_with fail
            refine (fell_open HF8.out (by omega) (by omega)).mono ?_
            rintro x w9 ⟨mp, N9, rfl, _, S9, _⟩
            have HS9 := Lib.hid S9
            have HNl := Lib.hid S9.len
            have HNt := Lib.hid S9.trk
            have HC : Hid (∀ w', Old w w' → w'.cell? ⟨ba, oa + t * 6 + 1, none⟩ = some (.int .i64 r.n)) := fun w' m => (HX.out.old m).c1
            have HSd := Lib.hid (HS9.out.old ((Touch.refl (fun _ => False) w9).drew))
            clear S9 HF8 HS9
            go_wp2_with fail
            go_region_held3 (fun w' => w'.cell? ⟨ba, oa + t * 6 + 1, none⟩ = some (.int .i64 r.n)) (first | exact HC.out _ HSd.out.old0) (first
              | (go_at_call 40; refine (sail_size HSd.out).mono ?_; rintro x w' ⟨rfl, rfl⟩)
              | (go_at_call 32; refine (pick_big _ 14 (by omega) (by omega) _).mono ?_; rintro x w' ⟨k9, hk9, rfl, rfl⟩))
            all_goals
              rename_i hHeld
              clear hHeld HC
              have hw : IntKind.i64.wrap ((k9 : Int) * 96) = ((k9 * 96 : Nat) : Int) := by rw [wrap_fits ⟨by omega, by omega⟩]; omega
              rw [hw]
              obtain ⟨n9, hn9⟩ : ∃ n9 : Nat, k9 * 96 = n9 := ⟨_, rfl⟩
              rw [hn9]
              clear hw
              go_wp2_with fail
              refine (sail_home HSd.out (by omega) (by omega)).mono ?_
              rintro x w10 ⟨rfl, O10⟩
              have HS10 := Lib.hid (HSd.out.old (O10.drew))
              have hsz : (txt N9).size = 1344 := by rw [txt_size (fun b hb => (HNt.out b hb).len), HNl.out]
              have Htx := Lib.hid (fun b (hb : b.length = 96) => txt_set (H := N9) (fun b hb => (HNt.out b hb).len) (k := k9) (by rw [HNl.out]; omega) b hb)
              rw [HNl.out, hn9] at Htx
              generalize hsN : txt N9 = sN at *
              have HsN := Lib.hid hsN
              clear O10 HSd hsN
              have m0 : (0 : Int) ≤ (n9 : Int) := by omega
              have m1 : (n9 : Int) ≤ 1248 := by omega
              have m2 : (n9 : Int) + 96 ≤ 1344 := by omega
              obtain ⟨PG, HPG⟩ : ∃ PG, Hid (Trk PG ∧ ∀ w, Calls Try.prog 15 #[.int .i64 (200 + (t : Int))] w fun x w' => x = .returned (.slice (some ⟨w.heap.size, 0, none⟩) 96 96) ∧ Byt w' (some ⟨w.heap.size, 0, none⟩) PG ∧ Old w w') := ⟨pageOf (200 + (t : Int)), pageOf_trk _, fun w => (page_any _ w).mono fun _ _ ⟨hx, K, O⟩ => ⟨hx, K.byt (pageOf_trk _), O⟩⟩
              have HT2 := Lib.hid (Htx.out PG HPG.out.1.len)
              have hwt : IntKind.i64.wrap (200 + (t : Int)) = 200 + (t : Int) := wrap_fits ⟨by omega, by omega⟩
              have hwn : IntKind.i64.wrap ((n9 : Int) + 96) = (n9 : Int) + 96 := wrap_fits ⟨by omega, by omega⟩
              have hsP : (strOf PG).size = 96 := by rw [strOf_size]; exact HPG.out.1.len
              generalize hsPe : strOf PG = sP at *
              have HsP := Lib.hid hsPe
              clear hsPe Htx
              obtain ⟨sA, hsA⟩ : ∃ sA, sN.extract 0 n9 = sA := ⟨_, rfl⟩
              obtain ⟨sB, hsB⟩ : ∃ sB, sN.extract (n9 + 96) 1344 = sB := ⟨_, rfl⟩
              obtain ⟨sC, hsC⟩ : ∃ sC, sA ++ sP = sC := ⟨_, rfl⟩
              obtain ⟨sD, hsD⟩ : ∃ sD, sC ++ sB = sD := ⟨_, rfl⟩
              have hz1 : ¬ 9223372036854775807 < sA.size + sP.size := by rw [← hsA, ByteArray.size_extract, hsP, hsz]; omega
              have hz2 : ¬ 9223372036854775807 < sC.size + sB.size := by rw [← hsC, ← hsB, ← hsA, ByteArray.size_append, ByteArray.size_extract, ByteArray.size_extract, hsP, hsz]; omega
              have HD : Hid (sD = txt (N9.set k9 PG)) := by rw [← hsD, ← hsC, ← hsA, ← hsB]; exact HT2.out
              clear HT2 hsP
              go_wp2_with fail
              have m3 : (0 : Int) ≤ (n9 : Int) + 96 := by omega
              have m4 : (n9 : Int) ≤ 1344 := by omega
              have m5 : ((n9 : Int) + 96).toNat = n9 + 96 := by omega
              go_region_with (first
                | (go_at_call 15; (try rw [hwt]); refine (HPG.out.2 _).mono ?_; rintro x w11 ⟨rfl, B11, O11⟩
                   have hs11 : (convert 34 9 (.slice (some ⟨w10.heap.size, 0, none⟩) 96 96)).run Try.prog w11 = .ok (.string sP) w11 := by rw [← HsP.out]; exact str_any w11 _ PG 96 96 B11.has HPG.out.1.len
                   have HS11 := Lib.hid (HS10.out.old O11)
                   clear B11 O11))
              all_goals
                clear hs11
                simp only [Act.put]
                go_wp2_with fail
                have hq9 : (n9 : Int) / 96 = (k9 : Int) := by omega
                rw [hq9]
                clear hq9
                refine (HPG.out.2 _).mono ?_
                rintro x w12 ⟨rfl, B12, O12⟩
                have HS12 := Lib.hid (HS11.out.old O12)
                have T13 : Old w12 (w12.alloc (.cells #[.int .i64 (k9 : Int), .slice (some ⟨w11.heap.size, 0, none⟩) 96 96] 37)) := (Touch.refl _ _).alloc _
                have HE13 := Lib.hid (Ents.one (k := k9) HPG.out.1.len (Blk.new w12 37 [.int .i64 (k9 : Int), .slice (some ⟨w11.heap.size, 0, none⟩) 96 96]) (Nat.le_refl 96) (B12.old T13))
                have HS13 := Lib.hid (HS12.out.old T13)
                clear T13 B12 O12 HS11 HS12
                go_wp2_with fail
                refine (sail_write1 HS13.out (by omega) (by omega) (by omega) _ k9 PG _ HE13.out (by omega) HPG.out.1).mono ?_
                rintro x w14 ⟨rfl, _, S14⟩
                have HS14 := Lib.hid S14
                clear S14 HS13 HE13
                go_wp2_with fail
                refine (sail_settle HS14.out (by omega)).mono ?_
                rintro x w15 ⟨_, ⟨rfl, S15⟩ | ⟨_, hqq, _⟩⟩
                · have HS15 := Lib.hid S15
                  clear S15 HS14
                  go_wp2_with fail
                  refine (wreck_fall HS15.out.wreck (by omega) none [] 0 0 (-1) 0 (HasI.nil _ _) rfl (by omega)).mono ?_
                  rintro x w16 ⟨rfl, _, F16⟩
                  have HF16 := Lib.hid F16
                  clear F16 HS15
                  go_wp2_with fail
                  refine (fell_open HF16.out (by omega) (by omega)).mono ?_
                  rintro x w17 ⟨op, N17, rfl, hN17, S17, _⟩
                  have HS17 := Lib.hid S17
                  have HN17 := Lib.hid hN17
                  clear S17 HF16 hN17
                  go_wp2_with fail
                  refine (sail_home HS17.out (by omega) (by omega)).mono ?_
                  rintro x w18 ⟨rfl, O18⟩
                  have HS18 := Lib.hid (HS17.out.old O18)
                  have hfin : txt N17 = sD := by rw [HN17.out, HD.out]
                  clear O18 HS17
                  rw [hfin]
                  clear hfin
                  go_wp2_with fail
                  refine ⟨⟨t + 1, op, by omega, by omega, rfl, by go_num, ?_⟩, by simp [intOf]; omega⟩
                  exact ⟨_, _, HS18.out.mono (fun _ h => h) (by omega)⟩
                · cases hqq
    · by_cases hlt : (t : Int) < (len : Int)
      · have i2 : ¬ (t : Int) < 9 := by omega
        go_wp2_with fail
        go_ret
        exact ⟨rfl, HL.out.old0.below (Nat.le_refl _) (fun _ _ h => h)⟩
      · go_wp2_with fail
        go_ret
        exact ⟨rfl, HL.out.old0.below (Nat.le_refl _) (fun _ _ h => h)⟩
end Go.Proofs.Ytmingbgohdhajaa
