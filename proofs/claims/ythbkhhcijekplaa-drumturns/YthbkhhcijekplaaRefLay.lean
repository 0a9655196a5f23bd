/- The reference's Lay, Settle, New. -/
import Derived.Test.YthbkhhcijekplaaRefLook
import Derived.Deep.RegionHeld3
import Derived.Deep.RegionLaw
namespace Go.Proofs.Ythbkhhcijekplaa
open Go.RowKit

theorem info50 : (Try.prog.info? 50).map (fun i => (i.zero, i.size, i.bytes)) = some (some (.agg #[.int .i64 0, .string ⟨#[]⟩]), 2, 24) := by kernel_rfl
theorem rlain_one (x : Nat × List Nat) : ∀ v ∈ rlain x, v.oneCell' = true := fun v hv => by
  simp only [rlain, List.mem_cons, List.not_mem_nil, or_false] at hv
  rcases hv with rfl | rfl <;> rfl

theorem rlay_arg {w0 w : World} {r : Nat} {D : DS} (h : Rs w0 r D w) (k : Int) (a : Option Addr) (len cap : Nat) (hk : k < 0 ∨ (D.T.length : Int) ≤ k) :
    Calls Try.prog 26 #[.pointer (some ⟨r, 0, none⟩), .int .i64 k, .slice a len cap] w fun e w' => e = .returned (.int .i64 1) ∧ w = w' := by
  obtain ⟨vt, va, ha⟩ := h.ex
  obtain ⟨at_, c, rfl⟩ := str_form ha.tr
  have hc0 : w.cell? ⟨r, 0, none⟩ = some (.slice at_ D.T.length c) := ha.head.cell 0
  clear h ha
  generalize D.T.length = n at *
  by_cases h0 : k < 0
  · clear hk
    go_enter Try.func26, Try.ntmps26
    go_wp2
    go_ret
    exact ⟨rfl, rfl⟩
  · have h1 : (n : Int) ≤ k := by omega
    clear hk
    go_enter Try.func26, Try.ntmps26
    go_wp2
    go_ret
    exact ⟨rfl, rfl⟩
theorem rlay_len {w0 w : World} {r : Nat} {D : DS} (h : Rs w0 r D w) (k : Nat) (a : Option Addr) (len cap : Nat) (hk : k < D.T.length) (hl : len ≠ 96) :
    Calls Try.prog 26 #[.pointer (some ⟨r, 0, none⟩), .int .i64 k, .slice a len cap] w fun e w' => e = .returned (.int .i64 1) ∧ w = w' := by
  obtain ⟨vt, va, ha⟩ := h.ex
  obtain ⟨at_, c, rfl⟩ := str_form ha.tr
  have hc0 : w.cell? ⟨r, 0, none⟩ = some (.slice at_ D.T.length c) := ha.head.cell 0
  have h0 : ¬ (k : Int) < 0 := by omega
  have h1 : ¬ (D.T.length : Int) ≤ (k : Int) := by omega
  have hn : ¬ (len : Int) = 96 := by omega
  clear h ha hk hl
  generalize D.T.length = n at *
  go_enter Try.func26, Try.ntmps26
  go_wp2
  go_ret
  exact ⟨rfl, rfl⟩

theorem has_rstay {w0 w w' : World} {g : Nat} {xs : List Nat} {t : TypeId} {cs : List Value} (hb : Blk w g t cs) (h : Has w (some ⟨g, 0, none⟩) xs) (m : Touch (rmine w0 w) w w') (h1 : t ≠ 48 ∧ t ≠ 9 ∧ t ≠ 50) : Has w' (some ⟨g, 0, none⟩) xs := by
  have hb' := hb.rstay m h1
  exact ⟨h.byte, fun i hi => by
    obtain ⟨b, off, e, hc⟩ := h.cell i hi
    cases e
    refine ⟨g, 0, rfl, ?_⟩
    rw [hb'.cell, ← hb.cell]
    exact hc⟩

set_option maxRecDepth 100000 in
set_option maxHeartbeats 3200000 in
theorem rlay_any {w0 w : World} {r : Nat} {D : DS} (h : Rs w0 r D w) (ok : D.Ok) (ht : D.turns ≤ 99999) (h0w : w0.heap.size ≤ w.heap.size) (k g : Nat) (xs : List Nat) (cap : Nat) (hk : k < D.T.length) (hl : xs.length = 96) (t5 : TypeId) (cs5 : List Value) (ht5 : t5 ≠ 48 ∧ t5 ≠ 9 ∧ t5 ≠ 50) (hB : Blk w g t5 cs5) (hH : Has w (some ⟨g, 0, none⟩) xs) :
    Calls Try.prog 26 #[.pointer (some ⟨r, 0, none⟩), .int .i64 k, .slice (some ⟨g, 0, none⟩) 96 cap] w fun e w' => e = .returned (.int .i64 D.err) ∧ RNext w0 r (D.lay k xs) w w' := by
  have HTn := Lib.hid (rturn_any h (by omega) ok.left)
  obtain ⟨vt, va, ha⟩ := h.ex
  obtain ⟨at_, c, rfl⟩ := str_form ha.tr
  have hc0 : w.cell? ⟨r, 0, none⟩ = some (.slice at_ D.T.length c) := ha.head.cell 0
  have h0 : ¬ (k : Int) < 0 := by omega
  have h1 : ¬ (D.T.length : Int) ≤ (k : Int) := by omega
  have HB := Lib.hid hB
  have HH := Lib.hid hH
  have HL := Lib.hid hl
  have hA : D.A.length ≤ 99999 := Nat.le_trans ok.long ht
  clear h ha hk hB hH hl ok ht
  generalize D.T.length = n at *
  cases hg : D.goes with
  | false =>
    have e2 : D.err = 4 := by unfold DS.err; rw [hg]; rfl
    have e3 : D.lay k xs = D.turned := by unfold DS.lay; rw [hg]; rfl
    rw [e2] at HTn ⊢
    rw [e3]
    clear e2 e3 hg
    go_enter Try.func26, Try.ntmps26
    go_wp2_with fail
    refine HTn.out.mono ?_
    rintro e w1 ⟨rfl, N1⟩
    have HN := Lib.hid N1
    clear N1
    go_wp2_with fail
    go_ret
    exact ⟨rfl, HN.out⟩
  | true =>
    have e2 : D.err = 0 := by unfold DS.err; rw [hg]; rfl
    have HE3 : Hid (D.lay k xs = { D.turned with A := D.turned.A ++ [(k, xs)] }) := by show _ = _; unfold DS.lay; rw [hg, DS.turned_A]; rfl
    rw [e2] at HTn ⊢
    clear e2 hg
    go_enter Try.func26, Try.ntmps26
    go_wp2_with fail
    refine HTn.out.mono ?_
    rintro e w1 ⟨rfl, N1⟩
    obtain ⟨R1, T1⟩ := N1
    obtain ⟨vt, va, ha⟩ := R1.ex
    have lo := R1.lo
    obtain ⟨aa, ca, rfl⟩ := rlain_form ha.af
    have hs := str_any w1.drew _ xs 96 cap ((has_rstay HB.out HH.out T1 ht5).old ((Touch.refl _ _).drew)) HL.out
    have a1 := ha.old (w' := w1.drew) ((Touch.refl _ _).drew) lo
    have hc1 : w1.drew.cell? ⟨r, 1, none⟩ = some (.slice aa D.turned.A.length ca) := a1.head.cell 1
    have T2 : Old w1.drew (w1.alloc (.cells #[.int .i64 (k : Int), .string (strOf xs)] 50)).drew := (Touch.refl (fun _ => False) w1.drew).alloc (.cells #[.int .i64 (k : Int), .string (strOf xs)] 50)
    have a2 := a1.old T2 lo
    have hc2 : (w1.alloc (.cells #[.int .i64 (k : Int), .string (strOf xs)] 50)).cell? ⟨r, 1, none⟩ = some (.slice aa D.turned.A.length ca) := a2.head.cell 1
    have hs2 := str_any (w1.alloc (.cells #[.int .i64 (k : Int), .string (strOf xs)] 50)).drew _ xs 96 cap (((has_rstay HB.out HH.out T1 ht5).old ((Touch.refl _ _).drew)).old T2) HL.out
    have K2 : Blk (w1.alloc (.cells #[.int .i64 (k : Int), .string (strOf xs)] 50)).drew w1.heap.size 50 (rlain (k, xs)) := Blk.new w1 50 (rlain (k, xs))
    obtain ⟨i0, hi0, hz0, hz1, hz2⟩ := info_parts info50
    have hA1 : D.turned.A.length ≤ 99999 := by rw [DS.turned_A]; exact hA
    obtain ⟨v3, w3, hap, own3, gr3, _, blk3⟩ := run_append_own_at (P := Try.prog) _ w0.heap.size 46 46 50 i0 _ 2 24 Try.underlying46 hi0 hz0 hz1 hz2 rfl (by omega) _ _ _ a2.af ⟨w1.heap.size, 0, none⟩ 1 1 (rlain (k, xs)) rfl (World.news_of_block K2) (rlain_one _) (by simp only [maxLen]; omega) (by omega) (Nat.le_trans (Nat.le_trans h0w T1.size) T2.size)
    obtain ⟨a3, c3, rfl⟩ := rlain_form own3
    have T3 : Touch (fun q => (Value.slice aa D.turned.A.length ca).ownBlock = some q) _ w3 := Touch.grown gr3 (fun q hq => hq)
    have B3 := a2.head.touch T3 (own_blk a2.af a2.head (by decide))
    have hc3 : w3.cell? ⟨r, 1, none⟩ = some (.slice aa D.turned.A.length ca) := B3.cell 1
    have hf3 : w3.frozen? ⟨r, 1, none⟩ = false := B3.frozen 1
    have T4 : Touch (fun q => q = r) w3 (w3.setCell ⟨r, 1, none⟩ (.slice a3 (D.turned.A.length + 1) c3)) := Touch.one ⟨r, 1, none⟩ _
    have HE : Hid (RNext w0 r (D.lay k xs) w (w3.setCell ⟨r, 1, none⟩ (.slice a3 (D.turned.A.length + 1) c3))) := by
      have hnb : ∀ (q : Nat) (t : TypeId) (cs : List Value), Blk (w1.alloc (.cells #[.int .i64 (k : Int), .string (strOf xs)] 50)).drew q t cs → t ≠ 50 → ¬ (Value.slice aa D.turned.A.length ca).ownBlock = some q := fun q t cs hb hne => own_blk a2.af hb (fun e => hne e.symm)
      have tr3 : w3.ownsRow w0.heap.size 9 1 vt D.turned.T.length (strs D.turned.T) := owns_touch a2.tr T3 (fun q hq hq2 => by
        rcases a2.tr.2 with ⟨e, _⟩ | ⟨g', cap', cur, e, _, hg', _⟩
        · rw [e] at hq; cases hq
        · rw [e] at hq
          have : g' = q := by simpa [Value.ownBlock] using hq
          subst this
          exact hnb g' 9 cur.toList hg' (by decide) hq2)
      refine ⟨?_, ?_⟩
      · rw [HE3.out]
        refine ⟨lo, vt, .slice a3 (D.turned.A.length + 1) c3, ⟨B3.set 1 _, owns_touch tr3 T4 (fun q hq e => own_blk tr3 B3 (by decide) (by rw [hq, e])), ?_⟩⟩
        have := owns_touch own3 T4 (fun q hq e => own_blk own3 B3 (by decide) (by rw [hq, e]))
        simpa [rlains_snoc] using this
      · have m1 : Touch (rmine w0 w1) w1 (w3.setCell ⟨r, 1, none⟩ (.slice a3 (D.turned.A.length + 1) c3)) := by
          have m2 : Old w1 (w1.alloc (.cells #[.int .i64 (k : Int), .string (strOf xs)] 50)).drew := ((Touch.refl _ _).drew).trans T2
          refine ⟨T4.os.trans (T3.os.trans m2.os), T4.tape.trans (T3.tape.trans m2.tape), T4.output.trans (T3.output.trans m2.output), Nat.le_trans m2.size (Nat.le_trans T3.size T4.size), fun q hq hn => ?_⟩
          have e1 := m2.block q hq (fun x => x)
          have e2 := T3.block q (Nat.lt_of_lt_of_le hq m2.size) (fun hq2 => hn (by
            rcases ha.af.2 with ⟨e, _⟩ | ⟨g', cap', cur, e, hb', hg', _⟩
            · rw [e] at hq2; cases hq2
            · rw [e] at hq2
              have : g' = q := by simpa [Value.ownBlock] using hq2
              subst this
              exact ⟨hb', 50, cur.toList, .inr (.inr rfl), hg'⟩))
          have e3 := T4.block q (Nat.lt_of_lt_of_le hq (Nat.le_trans m2.size T3.size)) (fun e => hn (by rw [e]; exact rmine_r ha lo))
          rw [e3, e2, e1]
        exact T1.rtrans m1
    clear a1 T2 a2 K2 hi0 hz0 hz1 hz2 own3 gr3 blk3 T3 B3 T4 ha R1 T1 lo hA1 hA HTn hc0
    generalize strOf xs = s at *
    generalize D.turned.A.length = m at *
    go_wp2_with fail
    go_region_law (first | (refine step_append rfl (.tmp 33) (.tmp 38) 46 46 rfl (.slice aa m ca) (.slice (some ⟨w1.heap.size, 0, none⟩) 1 1) rfl rfl _ _ hap ?_))
    all_goals
      go_wp2_with fail
      go_ret
      exact ⟨rfl, HE.out⟩
end Go.Proofs.Ythbkhhcijekplaa
