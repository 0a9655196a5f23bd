/- The contract of the reference's OpenLedger. -/
import Derived.Test.YtmingbgohdhajaaGreatRefH
import Derived.Test.YtmingbgohdhajaaGreatOpenW
namespace Go.Proofs.YtmingbgohdhajaaGreat
open Go.RowKit
set_option maxRecDepth 100000
set_option linter.unusedSimpArgs false

/-- The best cover of the first k tracks: its round, its leaves. -/
def bestR (D : DS) : Nat → Nat × Nat
  | 0 => (0, 0)
  | k + 1 => if (bestR D k).1 < (readR (D.seen.getD k []) k D.T.length).1 then readR (D.seen.getD k []) k D.T.length else bestR D k
theorem rreadC {b : List Nat} {k n : Nat} (h : readC b k n = true) : 0 < roundC b ∧ roundC b % 2 = k ∧ fits (leavesC b) n = true := by
  unfold readC at h
  simp only [Bool.and_eq_true, decide_eq_true_eq] at h
  exact ⟨h.1, h.2.1, h.2.2.1⟩
theorem best_none {D : DS} (h : coverK D = none) : bestR D 2 = (0, 0) := by
  unfold coverK at h
  simp only at h
  cases hb : readC (D.seen.getD 1 []) 1 D.T.length with
  | true =>
    rw [hb] at h
    simp only [if_true] at h
    split at h
    · split at h <;> cases h
    · cases h
  | false =>
    rw [hb] at h
    cases ha : readC (D.seen.getD 0 []) 0 D.T.length with
    | true => rw [ha] at h; simp at h
    | false => simp only [bestR, readR, ha, hb, Bool.false_eq_true, if_false, Nat.lt_irrefl]
theorem best_some {D : DS} {k : Nat} (h : coverK D = some k) : bestR D 2 = (roundC (D.seen.getD k []), leavesC (D.seen.getD k [])) ∧ 0 < roundC (D.seen.getD k []) ∧ fits (leavesC (D.seen.getD k [])) D.T.length = true := by
  unfold coverK at h
  simp only at h
  cases hb : readC (D.seen.getD 1 []) 1 D.T.length with
  | true =>
    have rb := rreadC hb
    rw [hb] at h
    simp only [if_true] at h
    cases ha : readC (D.seen.getD 0 []) 0 D.T.length with
    | true =>
      have ra := rreadC ha
      rw [ha] at h
      simp only [if_true] at h
      split at h
      · rename_i hq
        injection h with h
        subst h
        refine ⟨?_, ra.1, ra.2.2⟩
        have h0 : (0 : Nat) < roundC (D.seen.getD 0 []) := ra.1
        simp only [bestR, readR, ha, hb, if_true, if_pos h0]
        rw [if_neg (by omega)]
      · rename_i hq
        injection h with h
        subst h
        refine ⟨?_, rb.1, rb.2.2⟩
        have h0 : (0 : Nat) < roundC (D.seen.getD 0 []) := ra.1
        simp only [bestR, readR, ha, hb, if_true, if_pos h0]
        rw [if_pos (by omega)]
    | false =>
      rw [ha] at h
      simp at h
      subst h
      refine ⟨?_, rb.1, rb.2.2⟩
      simp only [bestR, readR, ha, hb, if_true, Bool.false_eq_true, if_false, Nat.lt_irrefl]
      rw [if_pos rb.1]
  | false =>
    rw [hb] at h
    cases ha : readC (D.seen.getD 0 []) 0 D.T.length with
    | true =>
      have ra := rreadC ha
      rw [ha] at h
      simp at h
      subst h
      refine ⟨?_, ra.1, ra.2.2⟩
      simp only [bestR, readR, ha, hb, if_true, Bool.false_eq_true, if_false]
      rw [if_pos ra.1, if_neg (by omega)]
    | false => rw [ha] at h; simp at h

theorem RMap.blank {m n h : Nat} {w : World} (M : RMap m n [] w) : RMap m n (List.replicate h none) w := by
  obtain ⟨D, ho, hD⟩ := M
  refine ⟨D, ho, fun k => ?_⟩
  have e1 : (List.replicate h (none : Option (List Nat))).getD k none = none := by
    rw [List.getD_eq_getElem?_getD, List.getElem?_replicate]
    split <;> rfl
  have e2 : ([] : Wri).getD k none = none := by simp
  have := hD k
  rw [e2] at this
  rw [e1]
  exact this

/-- The ledger while its cover is sought. -/
def seekL (D : DS) (x : Nat × Nat) : LS := { D := D, leaves := x.2, round := x.1, posts := 0, laid := 0, ws := [], lost := false }

/-- What OpenLedger answers. -/
def ROpens (w0 : World) (r : Nat) (D : DS) (w : World) (x : Ending) (w' : World) : Prop := match coverK D with
  | none => x = .returned (.tuple #[.pointer none, .int .i64 11]) ∧ Old w w'
  | some k => Touch (lmine w0 w) w w' ∧ (((openL D k).D.down = true ∧ x = .returned (.tuple #[.pointer none, .int .i64 4]) ∧ Rs w0 r (openL D k).D w' ∧ (openL D k).D.Ok) ∨ ((openL D k).D.down = false ∧ ∃ lp m, x = .returned (.tuple #[.pointer (some ⟨lp, 0, none⟩), .int .i64 0]) ∧ w.heap.size ≤ lp ∧ RL w0 lp r m 0 (openL D k) w'))

theorem ropen_down {w0 w : World} {r : Nat} {D : DS} (h : Rs w0 r D w) (ok : D.Ok) (hd : D.down = true) :
    Calls Tryz.prog 9 #[.pointer (some ⟨r, 0, none⟩)] w fun x w' => x = .returned (.tuple #[.pointer none, .int .i64 4]) ∧ Old w w' := by
  have O1 : Old w (w.alloc (.map #[] 0)) := (Touch.refl _ _).alloc _
  have O2 : Old w ((w.alloc (.map #[] 0)).alloc (.cells #[.pointer (some ⟨r, 0, none⟩), .int .i64 0, .int .i64 0, .int .i64 0, .int .i64 0, .map (some w.heap.size), .bool false] 55)) := O1.alloc _
  have HR := Lib.hid (rread_down (h.old O2) 0 (by have := ok.few; omega) hd)
  have HO := Lib.hid O2
  clear h ok hd O1 O2
  have hmm := @run_makeMap Tryz.prog
  go_enter Tryz.func9, Tryz.ntmps9
  go_wp2_with fail
  generalize (w.alloc (.map #[] 0)).alloc (.cells #[.pointer (some ⟨r, 0, none⟩), .int .i64 0, .int .i64 0, .int .i64 0, .int .i64 0, .map (some w.heap.size), .bool false] 55) = w2 at *
  go_loopw [5] (fun i wx => i = .int .i64 0 ∧ wx = w2) (fun _ _ => 0)
  case atStart => exact ⟨rfl, rfl⟩
  case round =>
    obtain ⟨rfl, rfl⟩ := hrel
    go_wp2_with fail
    refine HR.out.mono ?_
    rintro x w' ⟨rfl, rfl⟩
    go_wp2_with fail
    go_ret2
    exact ⟨rfl, HO.out⟩

structure RSeek (w0 w : World) (lp r m : Nat) (D : DS) (x : Nat × Nat) (wx : World) : Prop where
  rl : RL w0 lp r m 0 (seekL D x) wx
  old : Old w wx

theorem RSeek.set {w0 w wx : World} {lp r m : Nat} {D : DS} {x : Nat × Nat} (h : RSeek w0 w lp r m D x wx) (hw : w.heap.size ≤ lp) (y : Nat × Nat) : RSeek w0 w lp r m D y ((wx.setCell ⟨lp, 2, none⟩ (.int .i64 (y.1 : Int))).setCell ⟨lp, 1, none⟩ (.int .i64 (y.2 : Int))) := by
  have T : Touch (fun q => q = lp) wx ((wx.setCell ⟨lp, 2, none⟩ (.int .i64 (y.1 : Int))).setCell ⟨lp, 1, none⟩ (.int .i64 (y.2 : Int))) := (Touch.one ⟨lp, 2, none⟩ _).trans (Touch.one ⟨lp, 1, none⟩ _)
  exact ⟨h.rl.set rfl rfl ((h.rl.head.set 2 (.int .i64 (y.1 : Int))).set 1 (.int .i64 (y.2 : Int))) T, h.old.own T hw⟩

/-- The ledger while it reads. -/
structure RReads (w0 w : World) (lp r m : Nat) (L : LS) (W : Wri) (pos n : Nat) (ws : Wri) (nn : Nat) (wx : World) : Prop where
  rl : RL w0 lp r m nn { L with laid := pos, ws := ws } wx
  old : Old w wx
  going : Going L W (L.pages.drop pos) n ws
  le : nn ≤ pos
  trk : ∀ (k : Nat) (b : List Nat), ws[k]? = some (some b) → Trk b

theorem next_laid (L : LS) (p : Nat) : ({ L with laid := p } : LS).next.D = L.next.D ∧ (L.next.D.down = false → ({ L with laid := p } : LS).next = L.next) := by
  unfold LS.next LS.nextT
  simp only
  split
  · rename_i h
    exact ⟨rfl, fun q => by rw [h] at q; cases q⟩
  · exact ⟨rfl, fun _ => rfl⟩

set_option maxHeartbeats 12800000 in
theorem ropen_any {w0 w : World} {r : Nat} {D : DS} (h : Rs w0 r D w) (ok : D.Ok) (ht : D.turns ≤ 80000) (h0 : w0.heap.size ≤ w.heap.size) (hd : D.down = false) (hT : D.T.length ≤ 1000) :
    Calls Tryz.prog 9 #[.pointer (some ⟨r, 0, none⟩)] w (ROpens w0 r D w) := by
  have O1 : Old w (w.alloc (.map #[] 0)) := (Touch.refl _ _).alloc _
  have O2' : Old (w.alloc (.map #[] 0)) ((w.alloc (.map #[] 0)).alloc (.cells #[.pointer (some ⟨r, 0, none⟩), .int .i64 0, .int .i64 0, .int .i64 0, .int .i64 0, .map (some w.heap.size), .bool false] 55)) := (Touch.refl _ _).alloc _
  have B2 := Blk.new (w.alloc (.map #[] 0)) 55 [.pointer (some ⟨r, 0, none⟩), .int .i64 0, .int .i64 0, .int .i64 0, .int .i64 0, .map (some w.heap.size), .bool false]
  rw [World.size_alloc] at B2
  have HS0 : Hid (RSeek w0 w (w.heap.size + 1) r w.heap.size D (bestR D 0) ((w.alloc (.map #[] 0)).alloc (.cells #[.pointer (some ⟨r, 0, none⟩), .int .i64 0, .int .i64 0, .int .i64 0, .int .i64 0, .map (some w.heap.size), .bool false] 55))) :=
    ⟨⟨h.old (O1.trans O2'), ok, B2, (RMap.made w 0).old O2', by omega, h0, Nat.le_trans h0 (O1.trans O2').size⟩, O1.trans O2'⟩
  have HRd : Hid (∀ (k : Nat), k < 2 → ∀ w', Rs w0 r D w' → Calls Tryz.prog 44 #[.pointer (some ⟨r, 0, none⟩), .int .i64 (k : Int)] w' fun e w'' => e = .returned (.tuple #[.int .i64 ((readR (D.seen.getD k []) k D.T.length).1 : Nat), .int .i64 ((readR (D.seen.getD k []) k D.T.length).2 : Nat), .int .i64 0]) ∧ Old w' w'') := fun k hk w' hw' => rread_any hw' ok (by omega) k hk hd
  have HBs : Hid (∀ k, bestR D (k + 1) = if (bestR D k).1 < (readR (D.seen.getD k []) k D.T.length).1 then readR (D.seen.getD k []) k D.T.length else bestR D k) := fun k => rfl
  have HOk := Lib.hid ok
  have HTn := Lib.hid ht
  have Hdn := Lib.hid hd
  have HTl := Lib.hid hT
  clear h ok ht hd O1 O2' B2 hT h0
  have hmm := @run_makeMap Tryz.prog
  go_enter Tryz.func9, Tryz.ntmps9
  go_wp2_with fail
  clear hmm
  generalize (w.alloc (.map #[] 0)).alloc (.cells #[.pointer (some ⟨r, 0, none⟩), .int .i64 0, .int .i64 0, .int .i64 0, .int .i64 0, .map (some w.heap.size), .bool false] 55) = w2 at *
  obtain ⟨lp, hlp⟩ : ∃ lp, w.heap.size + 1 = lp := ⟨_, rfl⟩
  have hwl : w.heap.size ≤ lp := by omega
  rw [hlp] at HS0 ⊢
  have HWl := Lib.hid hwl
  clear hlp hwl
  have hS1 := HS0.out.rl.nm
  obtain ⟨m, hm⟩ : ∃ m, w.heap.size = m := ⟨_, rfl⟩
  have HWm := Lib.hid hm
  rw [hm] at HS0 ⊢
  clear hm hS1
  go_loopw [5] (fun i wx => ∃ k : Nat, k ≤ 2 ∧ i = .int .i64 k ∧ Hid (RSeek w0 w lp r m D (bestR D k) wx)) (fun i _ => 2 - (intOf i).toNat)
  case atStart => exact ⟨0, by omega, rfl, HS0⟩
  case round =>
    obtain ⟨k, hk, rfl, HS⟩ := hrel
    clear HS0
    by_cases hlt : k < 2
    · as_aux_lemma =>
        have i1 : (k : Int) < 2 := by omega
        have HR1 := Lib.hid (HRd.out k hlt wr HS.out.rl.rs)
        have HB1 := Lib.hid (HBs.out k)
        generalize readR (D.seen.getD k []) k D.T.length = x at *
        obtain ⟨y, hy⟩ : ∃ y, bestR D k = y := ⟨_, rfl⟩
        rw [hy] at HS HB1
        clear hy
        go_wp2_with fail
        refine HR1.out.mono ?_
        rintro e w3 ⟨rfl, O3⟩
        have HS3 : Hid (RSeek w0 w lp r m D y w3) := ⟨HS.out.rl.old O3, HS.out.old.trans O3⟩
        clear HR1 O3 HS
        have c2 : w3.cell? ⟨lp, 2, none⟩ = some (.int .i64 (y.1 : Int)) := HS3.out.rl.head.cell 2
        have c1 : w3.cell? ⟨lp, 1, none⟩ = some (.int .i64 (y.2 : Int)) := HS3.out.rl.head.cell 1
        have g2 := HS3.out.rl.head.frozen 2
        have g1 := HS3.out.rl.head.frozen 1
        by_cases hb : y.1 < x.1
        · have HN := Lib.hid (HS3.out.set HWl.out x)
          have HE : Hid (bestR D (k + 1) = x) := by show _ = _; rw [HB1.out, if_pos hb]
          have q1 : (y.1 : Int) < (x.1 : Int) := by omega
          generalize x.1 = x1 at *
          generalize x.2 = x2 at *
          generalize y.1 = y1 at *
          generalize y.2 = y2 at *
          clear HS3 hb
          go_wp2_with fail
          exact ⟨⟨k + 1, by omega, by go_num, by rw [HE.out]; exact HN⟩, by simp [intOf]; omega⟩
        · have HE : Hid (bestR D (k + 1) = y) := by show _ = _; rw [HB1.out, if_neg hb]
          have q1 : ¬ (y.1 : Int) < (x.1 : Int) := by omega
          generalize x.1 = x1 at *
          generalize x.2 = x2 at *
          generalize hy1 : y.1 = y1 at *
          generalize hy2 : y.2 = y2 at *
          clear hb hy1 hy2
          go_wp2_with fail
          exact ⟨⟨k + 1, by omega, by go_num, by rw [HE.out]; exact HS3⟩, by simp [intOf]; omega⟩
    · obtain rfl : k = 2 := by omega
      have i1 : ¬ ((2 : Nat) : Int) < 2 := by omega
      have c2 : wr.cell? ⟨lp, 2, none⟩ = some (.int .i64 ((bestR D 2).1 : Int)) := HS.out.rl.head.cell 2
      clear HRd HBs
      cases hC : coverK D with
      | none =>
        rw [best_none hC] at c2
        have HF : Hid (ROpens w0 r D w (.returned (.tuple #[.pointer none, .int .i64 11])) wr) := by
          show ROpens _ _ _ _ _ _
          unfold ROpens
          rw [hC]
          exact ⟨rfl, HS.out.old⟩
        have c2' : wr.cell? ⟨lp, 2, none⟩ = some (.int .i64 0) := c2
        clear hC c2 HS
        go_wp2_with fail
        go_ret2
        exact HF.out
      | some kk =>
        obtain ⟨hBe, hBr, hBf⟩ := best_some hC
        have hfit : 5 ≤ leavesC (D.seen.getD kk []) ∧ leavesC (D.seen.getD kk []) + 4 ≤ D.T.length := by unfold fits at hBf; exact of_decide_eq_true hBf
        have hrb : roundC (D.seen.getD kk []) < 4294967296 := by
          have hkk : kk < D.seen.length := by
            rw [DS.seen_length]
            have := HOk.out.few
            have : kk ≤ 1 := by
              unfold coverK at hC
              simp only at hC
              split at hC
              · split at hC
                · split at hC <;> (injection hC with hC; omega)
                · injection hC with hC; omega
              · split at hC
                · injection hC with hC; omega
                · cases hC
            omega
          obtain ⟨o, ho⟩ := get_of_lt hkk
          rw [getD_of ho]
          have := num_lt (DS.seen_trk HOk.out o (mem_of_get ho)).byte 4
          simpa [roundC] using this
        obtain ⟨L, hL⟩ : ∃ L, LS.counted D kk = L := ⟨_, rfl⟩
        have hLD : L.D = D := by rw [← hL]; rfl
        have hLl : L.leaves = (bestR D 2).2 := by rw [← hL, hBe]; rfl
        have hLr : L.round = (bestR D 2).1 := by rw [← hL, hBe]; rfl
        have hLp : L.posts = 0 := by rw [← hL]; rfl
        have hLa : L.laid = 0 := by rw [← hL]; rfl
        have hLo : L.lost = false := by rw [← hL]; rfl
        have hLw : L.ws = List.replicate L.ws.length none := by rw [← hL]; simp [LS.counted]
        have hLn : L.D.T.length = 2 + L.leaves + L.ws.length := by rw [← hL]; simp only [LS.counted, List.length_replicate]; omega
        have hL5 : 5 ≤ L.leaves := by rw [← hL]; exact hfit.1
        have hLh : 2 ≤ L.ws.length := by rw [← hL]; simp only [LS.counted, List.length_replicate]; omega
        have hLr0 : 0 < L.round := by rw [← hL]; exact hBr
        have hLrb : L.round < 4294967296 := by rw [← hL]; exact hrb
        have hLv : L.leaves ≤ 1000 := by have := HTl.out; rw [← hLD] at this; omega
        have hLm : L.ws.length ≤ 1000 := by have := HTl.out; rw [← hLD] at this; omega
        obtain ⟨W, hW⟩ : ∃ W, L.reads.ws = W := ⟨_, rfl⟩
        have HWd : Hid (readAll L.pages.length L.pages L.round 1 L.ws.length L.ws = W) := hW
        have HOp : Hid (openL D kk = ({ L with ws := W } : LS).next) := by show _ = _; unfold openL; rw [hL, ← hW]; rfl
        have HF0 : Hid (RReads w0 w lp r m L W 0 1 L.ws 0 wr) := by
          refine ⟨⟨by show Rs w0 r L.D wr; rw [hLD]; exact HS.out.rl.rs, by show L.D.Ok; rw [hLD]; exact HOk.out, ?_, by show RMap m 0 L.ws wr; rw [hLw]; exact HS.out.rl.map.blank, HS.out.rl.nl, HS.out.rl.nm, HS.out.rl.n0⟩, HS.out.old, ⟨⟨_, Nat.le_refl _, ?_⟩, ?_, rfl⟩, Nat.le_refl _, ?_⟩
          · have e : rlhead r m ({ L with laid := 0, ws := L.ws } : LS) = rlhead r m (seekL D (bestR D 2)) := by unfold rlhead seekL; simp only; rw [hLl, hLr, hLp, hLo]
            rw [e]
            exact HS.out.rl.head
          · rw [List.drop_zero]; exact HWd.out
          · rw [pages_length hLn]; omega
          · rw [hLw]; exact none_trk _
        have hTn : L.D.turns ≤ 80000 := by rw [hLD]; exact HTn.out
        have hdn : L.D.down = false := by rw [hLD]; exact Hdn.out
        rw [← hLr] at c2
        have HC := Lib.hid hC
        have HLn := Lib.hid hLn
        have HTn2 := Lib.hid hTn
        have Hdn2 := Lib.hid hdn
        have HPl : Hid (∀ pos, (L.pages.drop pos).length = L.leaves - pos) := fun pos => pages_length hLn pos
        clear hBe hBr hBf hfit hrb hL hLD hLl hLr hLp hLa hLo hLw hLn hW HWd hTn hdn hC HS HTn Hdn HTl
        obtain ⟨rd, hrd⟩ : ∃ rd, L.round = rd := ⟨_, rfl⟩
        have HRd := Lib.hid hrd
        rw [hrd] at c2 hLr0 hLrb
        clear hrd
        obtain ⟨lv, hlv⟩ : ∃ lv, L.leaves = lv := ⟨_, rfl⟩
        have HLv := Lib.hid hlv
        rw [hlv] at hLv hL5
        clear hlv
        obtain ⟨hh, hhh⟩ : ∃ hh, L.ws.length = hh := ⟨_, rfl⟩
        have HHh := Lib.hid hhh
        rw [hhh] at hLm hLh
        clear hhh
        have q0 : ((rd : Int) == 0) = false := by simp; omega
        have q0' : ¬ (rd : Int) = 0 := by omega
        have HJ0 : Hid (∃ pos nn ws, 0 ≤ pos ∧ pos ≤ lv ∧ RReads w0 w lp r m L W pos (0 + 1) ws nn wr) := ⟨0, 0, L.ws, Nat.le_refl _, Nat.zero_le _, HF0.out⟩
        clear HF0
        go_wp2_with fail
        clear q0 q0' c2
        go_loopw [9] (fun i wx => ∃ j : Nat, j ≤ lv ∧ i = .int .i64 ((j : Int) + 1) ∧ Hid (∃ pos nn ws, j ≤ pos ∧ pos ≤ lv ∧ RReads w0 w lp r m L W pos (j + 1) ws nn wx)) (fun i _ => lv + 1 - (intOf i).toNat)
        case atStart => exact ⟨0, Nat.zero_le _, rfl, HJ0⟩
        case round =>
          obtain ⟨j, hj, rfl, HJ⟩ := hrel
          clear HJ0
          obtain ⟨pos, nn, ws, hjp, hpl, RR⟩ := HJ.out
          have HRR := Lib.hid RR
          have c4 : wr.cell? ⟨lp, 4, none⟩ = some (.int .i64 (pos : Int)) := RR.rl.head.cell 4
          have hwsl : ws.length = L.ws.length := RR.going.len
          have HNx := Lib.hid (rnext_any RR.rl Hdn2.out (by have := HTn2.out; show L.D.turns ≤ _; omega) (by show L.D.T.length = 2 + L.leaves + ws.length; rw [hwsl]; exact HLn.out) (by show L.leaves ≤ 1000; rw [HLv.out]; exact hLv) (by show 2 ≤ ws.length; rw [hwsl, HHh.out]; exact hLh) (by show L.round ≤ _; rw [HRd.out]; omega) pos (j + 1) (by show pos ≤ L.leaves; rw [HLv.out]; exact hpl) (by omega))
          have HWl2 := Lib.hid hwsl
          clear RR HJ hwsl
          go_wp2_with fail
          rw [show (j : Int) + 1 = ((j + 1 : Nat) : Int) by omega]
          refine HNx.out.mono ?_
          rintro x w3 ⟨O3, hq⟩
          have HP3 : Hid (readP (L.pages.drop pos) L.round (j + 1) L.ws.length = readP (({ L with laid := pos, ws := ws } : LS).pages.drop pos) ({ L with laid := pos, ws := ws } : LS).round (j + 1) ({ L with laid := pos, ws := ws } : LS).ws.length) := by show readP _ _ _ L.ws.length = readP _ _ _ ws.length; rw [HWl2.out]; rfl
          obtain ⟨o, ho⟩ : ∃ o, readP (({ L with laid := pos, ws := ws } : LS).pages.drop pos) ({ L with laid := pos, ws := ws } : LS).round (j + 1) ({ L with laid := pos, ws := ws } : LS).ws.length = o := ⟨_, rfl⟩
          rw [ho] at hq HP3
          clear ho HNx
          have HR3 : Hid (RReads w0 w lp r m L W pos (j + 1) ws nn w3) := ⟨HRR.out.rl.old O3, HRR.out.old.trans O3, HRR.out.going, HRR.out.le, HRR.out.trk⟩
          clear HRR
          cases o with
          | none =>
            obtain rfl : x = .returned (.tuple #[.slice none 0 0, .int .i64 0]) := hq
            have HE : Hid (ws = W) := HR3.out.going.stop HP3.out
            have HA : Hid (RL w0 lp r m nn { L with laid := pos, ws := W } w3 ∧ Old w w3 ∧ (∀ (k : Nat) (b : List Nat), W[k]? = some (some b) → Trk b)) := by
              have := HR3.out
              rw [HE.out] at this
              exact ⟨this.rl, this.old, this.trk⟩
            have HWn : Hid (W.length = hh) := by show _ = _; rw [← HE.out, HWl2.out, HHh.out]
            clear HR3 HP3 HE HWl2 O3 c4
            rw [show ((j + 1 : Nat) : Int) = (j : Int) + 1 by omega]
            go_wp2_with fail
            refine (rlhome_all HA.out.1 (by show L.D.T.length = 2 + L.leaves + W.length; rw [HWn.out, ← HHh.out]; exact HLn.out) (by show 5 ≤ L.leaves; rw [HLv.out]; exact hL5) (by show L.round ≤ _; rw [HRd.out]; omega) (by show pos ≤ _; omega) (by show L.D.turns ≤ _; have := HTn2.out; omega) (fun x hx b hb => by
              subst hb
              obtain ⟨i, hi⟩ := List.mem_iff_getElem?.1 hx
              exact HA.out.2.2 i b hi)).mono ?_
            rintro x w4 ⟨rfl, ⟨m', n', RL4, _, hn0⟩, T4⟩
            have hnl := next_laid ({ L with ws := W } : LS) pos
            have HT4 : Hid (Touch (lmine w0 w) w w4) := Touch.ltrans (Touch.of_old HA.out.2.1) T4
            have RL4' : RL w0 lp r m' n' (({ L with laid := pos, ws := W } : LS).next) w4 := RL4
            rw [show ({ L with laid := pos, ws := W } : LS) = ({ ({ L with ws := W } : LS) with laid := pos } : LS) from rfl] at RL4' ⊢
            rw [hnl.1]
            rw [← HOp.out] at hnl
            rw [← HOp.out]
            cases hdd : (openL D kk).D.down with
            | true =>
              have HFn : Hid (ROpens w0 r D w (.returned (.tuple #[.pointer none, .int .i64 4])) w4) := by
                show ROpens _ _ _ _ _ _
                unfold ROpens
                rw [HC.out]
                refine ⟨HT4.out, .inl ⟨hdd, rfl, ?_, ?_⟩⟩
                · rw [← hnl.1]; exact RL4'.rs
                · rw [← hnl.1]; exact RL4'.ok
              clear hdd RL4 RL4' hnl T4 HA hn0
              go_wp2_with fail
              go_ret2
              exact HFn.out
            | false =>
              have HFn : Hid (ROpens w0 r D w (.returned (.tuple #[.pointer (some ⟨lp, 0, none⟩), .int .i64 0])) w4) := by
                show ROpens _ _ _ _ _ _
                unfold ROpens
                rw [HC.out]
                refine ⟨HT4.out, .inr ⟨hdd, lp, m', rfl, HWl.out, ?_⟩⟩
                have hz : n' = 0 := hn0 (by rw [show ({ L with laid := pos, ws := W } : LS) = ({ ({ L with ws := W } : LS) with laid := pos } : LS) from rfl, hnl.1]; exact hdd)
                rw [← hnl.2 hdd, ← hz]
                exact RL4'
              clear hdd RL4 RL4' hnl T4 HA hn0
              go_wp2_with fail
              go_ret2
              exact HFn.out
          | some e =>
            obtain ⟨v, rfl, Mv⟩ := hq
            obtain ⟨hg, hle⟩ := readP_some HP3.out
            have hl2 := leavesOf_two hg.2.2
            have hle2 : leavesOf e.length ≤ lv - pos := by rw [HPl.out, HLv.out] at hle; exact hle
            have hel : e.length ≤ leavesOf e.length := by unfold leavesOf; split <;> omega
            have HG5 := Lib.hid (HR3.out.going.next HP3.out)
            have HEt : Hid (∀ x ∈ e, Trk x.2) := by
              have hp0 : ∃ p, (L.pages.drop pos)[0]? = some p := get_of_lt (by rw [HPl.out, HLv.out]; omega)
              obtain ⟨p, hp0⟩ := hp0
              have hr := HP3.out
              rw [readP_eq hp0] at hr
              have hpt := pages_trk HR3.out.rl.ok pos
              split at hr
              · cases hr
              · split at hr
                · split at hr
                  · rename_i hl hgo hpo
                    injection hr with hr
                    subst hr
                    intro x hx
                    have hc0 : 0 < countOf p := by have := hgo.2.2; rwa [entsOf_length] at this
                    have := entsOf_all (ps := L.pages.drop pos) (fun y hy => (hpt y hy).len) (fun y hy => (hpt y hy).byte) hc0 (by omega) x hx
                    exact ⟨this.2.2, this.1⟩
                  · cases hr
                · cases hr
            obtain ⟨ae, ce, rfl, hce, HRe⟩ := Mv.form
            have ham : ∀ g, ae = some ⟨g, 0, none⟩ → g ≠ m := fun g hg => by
              subst hg
              obtain ⟨cs, hb⟩ := Mv.typed g rfl
              exact HR3.out.rl.map.ne hb
            have HTk := Lib.hid (rtake_any HR3.out.rl (by have := HR3.out.le; omega) ae e e.length ce HRe ham rfl (by omega) (fun x hx => by show x.1 < ws.length ∧ _; rw [HWl2.out]; exact hg.1 x hx) (by show ws.length ≤ 5000; rw [HWl2.out, HHh.out]; omega))
            obtain ⟨el, hel1⟩ : ∃ el, e.length = el := ⟨_, rfl⟩
            obtain ⟨lf, hlf⟩ : ∃ lf, leavesOf e.length = lf := ⟨_, rfl⟩
            rw [hlf] at hl2 hle2 hel HG5 ⊢
            rw [hel1] at HTk hel ⊢
            have Hel := Lib.hid hel1
            clear hel1 hlf HRe ham Mv hg hle O3
            have q1 : ((lf : Int) == 0) = false := by simp; omega
            have q2 : ¬ (lf : Int) = 0 := by omega
            rw [show ((j + 1 : Nat) : Int) = (j : Int) + 1 by omega]
            go_wp2_with fail
            refine HTk.out.mono ?_
            rintro x w5 ⟨rfl, R5, T5⟩
            have c5 : w5.cell? ⟨lp, 4, none⟩ = some (.int .i64 (pos : Int)) := R5.head.cell 4
            have g5 := R5.head.frozen 4
            have T6 : Touch (fun q => q = lp) w5 (w5.setCell ⟨lp, 4, none⟩ (.int .i64 ((pos : Int) + (lf : Int)))) := Touch.one ⟨lp, 4, none⟩ _
            have hdr : ((L.pages.drop pos).drop lf) = L.pages.drop (pos + lf) := by rw [List.drop_drop]
            rw [hdr] at HG5
            have HN6 : Hid (∃ p2 n2 s2, j + 1 ≤ p2 ∧ p2 ≤ lv ∧ RReads w0 w lp r m L W p2 (j + 1 + 1) s2 n2 (w5.setCell ⟨lp, 4, none⟩ (.int .i64 ((pos : Int) + (lf : Int))))) := by
              refine ⟨pos + lf, nn + el, took ws e, by omega, by omega, ⟨R5.set rfl rfl ?_ T6, (HR3.out.old.own T5 (by have := HR3.out.rl.nm; rw [← HWm.out]; exact Nat.le_refl _)).own T6 HWl.out, HG5.out, by have := HR3.out.le; omega, took_trk HR3.out.trk HEt.out⟩⟩
              have := R5.head.set 4 (.int .i64 ((pos : Int) + (lf : Int)))
              have e1 : ((pos + lf : Nat) : Int) = (pos : Int) + (lf : Int) := by omega
              unfold rlhead at this ⊢
              simp only [e1]
              exact this
            clear R5 T5 T6 hdr HG5 HTk HR3
            go_wp2_with fail
            exact ⟨⟨j + 1, by omega, by go_num, HN6⟩, by simp [intOf]; omega⟩
end Go.Proofs.YtmingbgohdhajaaGreat
