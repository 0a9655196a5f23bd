/- The law LexStands's walk. -/
import Derived.Test.YtdfodmnjgpgojaaDoorStn
import Derived.Test.YtdfodmnjgpgojaaDoorTxL
import Derived.Test.YtdfodmnjgpgojaaDoorKn
namespace Go.Proofs.YtdfodmnjgpgojaaDoor
open Go.RowKit Go.PlainAid
set_option maxRecDepth 100000

/-- What a law of a text comes from. -/
structure Src (w : World) (a : Option Addr) (n : Nat) (b : Option Addr) (nb : Nat) (raw : ByteArray) : Prop where
  grd : Grd w a n
  bent : ∃ ys : List Int, ys.length = nb ∧ HasI w b ys
  le : nb ≤ maxLen
  raw : raw.size ≤ maxLen
  signs : Tbl w 3 sgTab
theorem blank_is {c : Int} (h : blankB c = true) : c = 32 ∨ c = 9 ∨ c = 10 := by
  unfold blankB at h
  rwa [decide_eq_true_eq] at h
theorem StandsP.at {s : ByteArray} : ∀ {l : List Tok} {e i : Nat} {t : Tok}, l[i]? = some t → StandsP s e (l.drop i) → e ≤ t.at_ ∧ t.at_ + t.text.size ≤ s.size ∧ s.extract t.at_ (t.at_ + t.text.size) = t.text ∧ (t.kind = 5 ↔ i + 1 = l.length) ∧ (∀ k, e ≤ k → k < t.at_ → blankB (bt s k) = true) ∧ Alone t ∧ StandsP s (t.at_ + t.text.size) (l.drop (i + 1)) := fun {l e i t} h hs => by
  have hi := lt_of_get h
  have e1 : l.drop i = t :: l.drop (i + 1) := by
    rw [List.drop_eq_getElem_cons hi]
    rw [List.getElem?_eq_getElem hi] at h
    cases h
    rfl
  rw [e1] at hs
  obtain ⟨h1, h2, h3, h4, h5, h6, h7⟩ := hs
  refine ⟨h1, h2, h3, ?_, h5, h6, h7⟩
  rw [h4, List.drop_eq_nil_iff]
  omega

set_option maxHeartbeats 12800000 in
theorem stands_law (a : Option Addr) (n c : Nat) (b : Option Addr) (nb cb : Nat) (raw : ByteArray) (how : Int) (w : World) (h : Src w a n b nb raw) :
    Calls Tryd.prog 5 #[.slice a n c, .slice b nb cb, .string raw, .int .i64 how] w fun e w' => e = .returned (.bool true) ∧ Below w.heap.size w w' := by
  have HT := Lib.hid h.signs
  have HS : Hid (∀ w1, Old w w1 → Calls Tryd.prog 10 #[.slice a n c, .slice b nb cb, .string raw, .int .i64 how] w1 (Made w1 maxLen)) := fun w1 O => by
    obtain ⟨ys, y1, y2⟩ := h.bent
    exact text_any a n c b nb cb raw how w1 (h.grd.old O) ⟨ys, y1, y2.old O⟩ h.le h.raw
  have HP : Hid (Old w w) := Touch.refl _ _
  clear h
  go_enter Tryd.func5, Tryd.ntmps5
  go_upto_region 5 with (first
    | (go_at_call 7; refine (known_any _ (HT.out.old HP.out (fun q => q))).mono ?_; rintro e w1 ⟨rfl, O⟩
       have HP : Hid (Old w w1) := HP.out.trans O
       clear O)
    | (go_at_call 10; refine (HS.out _ HP.out).mono ?_; rintro e w1 ⟨s, rfl, hs, O⟩
       have HP : Hid (Old w w1) := HP.out.trans O
       have HSz := Lib.hid hs
       clear O hs HS)
    | (go_at_call 8; refine (lex_any s HSz.out _ (HT.out.old HP.out (fun q => q))).mono ?_; rintro e w2 ⟨p, cp, rfl, hcp, hT, O⟩
       have HP : Hid (Old w w2) := HP.out.trans O
       have HL := Lib.hid hT
       obtain ⟨E, hE⟩ : ∃ E, lexE s = E := ⟨_, rfl⟩
       have HE := Lib.hid hE
       rw [hE]
       clear O hT hE))
  obtain ⟨N, hN⟩ : ∃ N, (lexL s).length = N := ⟨_, rfl⟩
  rw [hN] at hcp ⊢
  have HN := Lib.hid hN
  clear hN
  by_cases hE : E = 0
  · have hst := stands_lex (s := s) (by rw [HE.out, hE])
    subst hE
    have H0 := Lib.hid hst.1
    have hpos : 0 < N := by
      rw [← HN.out]
      exact List.length_pos_iff.2 hst.2
    have hNb : N ≤ 60002 := by rw [← HN.out]; exact lexL_length s
    have hmb := lexE_size HE.out
    obtain ⟨L, hL⟩ : ∃ L, lexL s = L := ⟨_, rfl⟩
    rw [hL] at HL HN H0
    obtain ⟨m, hm⟩ : ∃ m, s.size = m := ⟨_, rfl⟩
    have hb := get_bt s
    rw [hm] at hmb
    clear hst hL
    go_wp2_with (first
      | (go_at_call 7; refine (known_any _ (HT.out.old HP.out (fun q => q))).mono ?_; rintro e w1 ⟨rfl, O⟩
         have HL := Lib.hid (HL.out.old O)
         have HP : Hid (Old w w1) := HP.out.trans O
         clear O))
    clear HE
    go_loopw [13, 14, 15, 16, 17, 18, 19, 42] (fun ev _ _ _ _ _ _ iv wx => ∃ i e : Nat, i ≤ N ∧ iv = .int .i64 (i : Int) ∧ ev = .int .i64 (e : Int) ∧ e ≤ m ∧ Hid (StandsP s e (L.drop i)) ∧ Hid (HasT wx p L ∧ Old w wx)) (fun _ _ _ _ _ _ _ iv _ => N - (intOf iv).toNat)
    case atStart => exact ⟨0, 0, Nat.zero_le _, rfl, rfl, Nat.zero_le _, H0, HL.out, HP.out⟩
    case round =>
      obtain ⟨i, e, hi, rfl, rfl, he, HSt, HW⟩ := hrel
      clear H0 HL HP
      by_cases q : i < N
      · have q' : (i : Int) < (N : Int) := by omega
        obtain ⟨t, ht⟩ : ∃ t, L[i]? = some t := ⟨_, List.getElem?_eq_getElem (by rw [HN.out]; exact q)⟩
        obtain ⟨g, rfl, c0, c1, c2, c3⟩ := HW.out.1.cell i t ht
        obtain ⟨t1, t2, t3, t4, t5, t6, t7⟩ := HSt.out.at ht
        rw [HN.out] at t4
        obtain ⟨K, X, nn, A⟩ := t
        simp only at c0 c1 c2 c3 t1 t2 t3 t4 t5 t6 t7
        have H5 := Lib.hid t5
        have H6 := Lib.hid t6
        have H7 := Lib.hid t7
        obtain ⟨x, hx⟩ : ∃ x, X.size = x := ⟨_, rfl⟩
        rw [hx, hm] at t2
        rw [hx] at t3
        clear HSt t5 t6 t7
        go_upto_region 12 with fail
        have KB : Blk (wr.alloc (.cells #[.int .i64 (K : Int), .string X, .int .i64 nn, .int .i64 (A : Int)] 29)) wr.heap.size 29 [.int .i64 (K : Int), .string X, .int .i64 nn, .int .i64 (A : Int)] := Blk.new wr 29 [.int .i64 (K : Int), .string X, .int .i64 nn, .int .i64 (A : Int)]
        have HW2 : Hid (HasT (wr.alloc (.cells #[.int .i64 (K : Int), .string X, .int .i64 nn, .int .i64 (A : Int)] 29)) (some ⟨g, 0, none⟩) L ∧ Old w (wr.alloc (.cells #[.int .i64 (K : Int), .string X, .int .i64 nn, .int .i64 (A : Int)] 29))) := ⟨HW.out.1.old ((Touch.refl _ _).alloc _), HW.out.2.alloc _⟩
        clear c0 c1 c2 c3 HW
        generalize wr.alloc (.cells #[.int .i64 (K : Int), .string X, .int .i64 nn, .int .i64 (A : Int)] 29) = w4 at *
        generalize wr.heap.size = h at *
        have HKB := Lib.hid KB
        have b0 : ∀ nd, (w4.drewN nd).cell? ⟨h, 0, none⟩ = some (.int .i64 (K : Int)) := fun nd => KB.cell 0
        have b1 : ∀ nd, (w4.drewN nd).cell? ⟨h, 1, none⟩ = some (.string X) := fun nd => KB.cell 1
        have b3 : ∀ nd, (w4.drewN nd).cell? ⟨h, 3, none⟩ = some (.int .i64 (A : Int)) := fun nd => KB.cell 3
        clear KB
        obtain ⟨bK, hbK⟩ : ∃ bK, decide (K = 5) = bK := ⟨_, rfl⟩
        have d4 : ((K : Int) == 5) = bK := by
          rw [← hbK, Bool.eq_iff_iff, beq_iff_eq, decide_eq_true_eq]
          omega
        have d5 : ((i : Int) == (N : Int) - 1) = bK := by
          rw [← hbK, Bool.eq_iff_iff, beq_iff_eq, decide_eq_true_eq, t4]
          omega
        have d1 : decide (A < e) = false := decide_eq_false (by omega)
        have ew : IntKind.i64.wrap ((A : Int) + (x : Int)) = (A : Int) + (x : Int) := wrap_fits ⟨by omega, by omega⟩
        have d2 : decide ((m : Int) < (A : Int) + (x : Int)) = false := decide_eq_false (by omega)
        have hlo : (A : Int) ≤ (A : Int) + (x : Int) := by omega
        have hhi : (A : Int) + (x : Int) ≤ (m : Int) := by omega
        have hlo' : A ≤ A + x := by omega
        go_quiet (fail)
        go_wp2_with fail
        have HK5 : Hid (Blk (w4.drewN nq) h 29 [.int .i64 (K : Int), .string X, .int .i64 nn, .int .i64 (A : Int)]) := HKB.out
        have HW5 : Hid (HasT (w4.drewN nq) (some ⟨g, 0, none⟩) L ∧ Old w (w4.drewN nq)) := ⟨HW2.out.1.old ((Touch.refl _ _).drewN _), HW2.out.2.drewN _⟩
        clear b0 b1 b3 HKB HW2 d1 d2 d4 d5 ew hlo hhi hlo'
        generalize w4.drewN nq = w5 at *
        have b0 := HK5.out.cell 0
        have b1 := HK5.out.cell 1
        have b2 := HK5.out.cell 2
        have b3 := HK5.out.cell 3
        go_loopw [16] (fun kv wx => ∃ k : Nat, e ≤ k ∧ k ≤ A ∧ kv = .int .i64 (k : Int) ∧ w5 = wx) (fun kv _ => A - (intOf kv).toNat)
        case atStart => exact ⟨e, Nat.le_refl _, t1, rfl, rfl⟩
        case round =>
          obtain ⟨k, hek, hkA, rfl, rfl⟩ := hrel
          by_cases qk : k < A
          · have qk' : (k : Int) < (A : Int) := by omega
            have hkm : (k : Int) < (m : Int) := by omega
            have hbk := blank_is (H5.out k hek qk)
            rcases hbk with z | z | z
            all_goals (
              go_wp2_with fail
              exact ⟨⟨k + 1, by omega, by omega, by rw [Int.natCast_add]; rfl, trivial⟩, by simp only [intOf]; omega⟩)
          · have qk' : ¬ (k : Int) < (A : Int) := by omega
            obtain rfl : A = k := by omega
            obtain ⟨a1, ⟨bk, bx, bn, ba⟩, r, a2, a3, a4, a5⟩ := H6.out
            simp only at a1 a2 a3 a4 a5
            subst a3 a4 a5
            have ew : IntKind.i64.wrap ((A : Int) + (bx.size : Int)) = (A : Int) + (bx.size : Int) := wrap_fits ⟨by omega, by omega⟩
            have HA1 := Lib.hid a1
            have HA2 := Lib.hid a2
            have HXm : Hid (bx.size ≤ maxLen) := by
              show _ ≤ _
              have : maxLen = 9223372036854775807 := by decide
              omega
            clear a1 a2 H5 H6
            rw [hx] at ew
            go_upto_region 21 with (first
              | (go_at_call 8; refine (lex_any bx HXm.out _ (HT.out.old HW5.out.2 (fun q => q))).mono ?_; rintro y w6 ⟨p6, c6, rfl, hc6, hT6, O6⟩
                 have HK6 := Lib.hid (HK5.out.touch O6 (fun q => q))
                 have HW6 : Hid (HasT w6 (some ⟨g, 0, none⟩) L ∧ Old w w6) := ⟨HW5.out.1.old O6, HW5.out.2.trans O6⟩
                 rw [HA2.out] at hT6 hc6
                 obtain ⟨g6, rfl, f0, f1, f2, _⟩ := hT6.cell 0 _ rfl
                 have HF0 := Lib.hid f0
                 have HF1 := Lib.hid f1
                 have HF2 := Lib.hid f2
                 rw [HA1.out, HA2.out]
                 obtain ⟨l6, hl6⟩ : ∃ l6, (⟨bk, bx, bn, ba⟩ :: r : List Tok).length = l6 := ⟨_, rfl⟩
                 rw [hl6] at hc6 ⊢
                 have hl6' : 1 ≤ l6 := by rw [← hl6]; simp
                 clear hT6 O6 f0 f1 f2 hl6 b0 b1 b2 b3))
            have c0 : ∀ nd, (w6.drewN nd).cell? ⟨h, 0, none⟩ = some (.int .i64 (bk : Int)) := fun nd => HK6.out.cell 0
            have c1 : ∀ nd, (w6.drewN nd).cell? ⟨h, 1, none⟩ = some (.string bx) := fun nd => HK6.out.cell 1
            have c2 : ∀ nd, (w6.drewN nd).cell? ⟨h, 2, none⟩ = some (.int .i64 bn) := fun nd => HK6.out.cell 2
            have e0 : ∀ nd, (w6.drewN nd).cell? ⟨g6, 0, none⟩ = some (.int .i64 (bk : Int)) := fun nd => HF0.out
            have e1 : ∀ nd, (w6.drewN nd).cell? ⟨g6, 1, none⟩ = some (.string bx) := fun nd => HF1.out
            have e2 : ∀ nd, (w6.drewN nd).cell? ⟨g6, 2, none⟩ = some (.int .i64 bn) := fun nd => HF2.out
            have d1 : decide ((l6 : Int) < 1) = false := decide_eq_false (by omega)
            have d1' : decide (l6 < 1) = false := decide_eq_false (by omega)
            have d2 : (0 : Int) < (l6 : Int) := by omega
            go_quiet (fail)
            go_wp2_with fail
            refine ⟨⟨i + 1, A + x, by omega, by rw [Int.natCast_add]; rfl, by rw [Int.natCast_add], by omega, ?_, HW6.out.1.old ((Touch.refl _ _).drewN _), HW6.out.2.drewN _⟩, by simp only [intOf]; omega⟩
            show StandsP s (A + x) _
            rw [← hx]
            exact H7.out
      · have q' : ¬ (i : Int) < (N : Int) := by omega
        obtain rfl : N = i := by omega
        have e1 : e = m := by
          have h := HSt.out
          rw [List.drop_eq_nil_of_le (by rw [HN.out]; exact Nat.le_refl _)] at h
          have h : e = s.size := h
          omega
        subst e1
        have hp' : (0 : Int) < (N : Int) := by omega
        go_wp2_with fail
        go_ret
        exact ⟨rfl, HW.out.2.below (Nat.le_refl _) (fun _ _ q => q)⟩
  · go_wp2_with (first
      | (go_at_call 7; refine (known_any _ (HT.out.old HP.out (fun q => q))).mono ?_; rintro e w1 ⟨rfl, O⟩
         have HL := Lib.hid (HL.out.old O)
         have HP : Hid (Old w w1) := HP.out.trans O
         clear O))
    go_ret
    exact ⟨rfl, HP.out.below (Nat.le_refl _) (fun _ _ q => q)⟩
end Go.Proofs.YtdfodmnjgpgojaaDoor
