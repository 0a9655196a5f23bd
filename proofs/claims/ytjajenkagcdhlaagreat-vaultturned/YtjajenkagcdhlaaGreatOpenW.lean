/- The contracts of a ledger's read and of Open. -/
import Derived.Test.YtjajenkagcdhlaaGreatCounted
namespace Go.Proofs.YtjajenkagcdhlaaGreat
open Go.RowKit
set_option maxRecDepth 100000

/-- Reading goes on. -/
structure Going (L : LS) (W : Wri) (ps : List (List Nat)) (n : Nat) (ws : Wri) : Prop where
  all : ∃ f, ps.length ≤ f ∧ readAll f ps L.round n L.ws.length ws = W
  num : n + ps.length ≤ 5000
  len : ws.length = L.ws.length
theorem readAll_none {ps : List (List Nat)} {r n home : Nat} {ws : Wri} (f : Nat) (h : readP ps r n home = none) : readAll f ps r n home ws = ws := by
  cases f with
  | zero => rfl
  | succ f => unfold readAll; rw [h]
theorem Going.stop {L : LS} {W ws : Wri} {ps : List (List Nat)} {n : Nat} (h : Going L W ps n ws) (hr : readP ps L.round n L.ws.length = none) : ws = W := by
  obtain ⟨f, _, e⟩ := h.all
  rw [← e, readAll_none f hr]
theorem readP_some {ps : List (List Nat)} {r n home : Nat} {e : List Ent} (h : readP ps r n home = some e) : Goes e home ∧ leavesOf e.length ≤ ps.length := by
  cases ps with
  | nil => cases h
  | cons p q =>
    rw [readP_eq (p := p) rfl] at h
    split at h
    · cases h
    · split at h
      · rename_i hl hg
        split at h
        · injection h with h
          subst h
          refine ⟨hg, ?_⟩
          simp only [entsOf, List.length_map, List.length_range]
          omega
        · cases h
      · cases h
theorem Going.next {L : LS} {W ws : Wri} {ps : List (List Nat)} {n : Nat} {e : List Ent} (h : Going L W ps n ws) (hr : readP ps L.round n L.ws.length = some e) : Going L W (ps.drop (leavesOf e.length)) (n + 1) (took ws e) := by
  obtain ⟨hg, hl⟩ := readP_some hr
  have h2 := leavesOf_two hg.2.2
  obtain ⟨f, hf, e1⟩ := h.all
  have hn := h.num
  cases f with
  | zero => omega
  | succ f =>
    refine ⟨⟨f, by rw [List.length_drop]; omega, ?_⟩, by rw [List.length_drop]; omega, by rw [took_length]; exact h.len⟩
    rw [← e1]
    conv => rhs; unfold readAll
    rw [hr]

def sliceLen : Value → Nat | .slice _ n _ => n | _ => 0
/-- The entries that readPosting hands over. -/
def resV : Option (List Ent) → Nat → Value
  | none, _ => .slice none 0 0
  | some e, g => .slice (some ⟨g, 0, none⟩) e.length e.length
theorem Reads.form {ps : List (List Nat)} {r n home : Nat} {w w' : World} {x : Ending} (h : Reads ps r n home w x w') : ∃ q g, x = .returned (.tuple #[resV q g, .bool q.isSome]) ∧ readP ps r n home = q ∧ Old w w' ∧ ∀ e, q = some e → Ents w' (some ⟨g, 0, none⟩) e := by
  obtain ⟨O, ⟨hq, rfl⟩ | ⟨e, g, hq, rfl, _, En⟩⟩ := h
  · exact ⟨none, 0, rfl, hq, O, (fun _ h => by cases h)⟩
  · exact ⟨some e, g, rfl, hq, O, fun e' h => by injection h with h; subst h; exact En⟩
theorem readPosting_all (a : Option Addr) (ps : List (List Nat)) (cap r n home : Nat) (w : World) (h : Pgs w a ps) (hcap : ps.length ≤ cap) (hm : ps.length ≤ 5000) (hh : home ≤ 5000) (hr : r ≤ 140737488355328) (hn : n ≤ 140737488355328) :
    Calls Tryz.prog 101 #[.slice a ps.length cap, .int .i64 r, .int .i64 n, .int .i64 home] w fun x w' => ∃ q g, x = .returned (.tuple #[resV q g, .bool q.isSome]) ∧ readP ps r n home = q ∧ Old w w' ∧ ∀ e, q = some e → Ents w' (some ⟨g, 0, none⟩) e := by
  cases ps with
  | nil => exact (readPosting_none a cap r n home w).mono fun _ _ h => h.form
  | cons p q => exact (readPosting_any a (p :: q) _ cap r n home w h rfl (Nat.succ_pos _) hcap hm hh hr hn).mono fun _ _ h => h.form

set_option maxHeartbeats 6400000 in
theorem read_any {w0 : Fr} {w : World} {l d g : Nat} {b : Bl} {L : LS} (h : LAt w0 l d b g L w) (ok : L.Ok) (hd : L.D.down = false) : Calls Tryz.prog 77 #[.pointer (some ⟨l, 0, none⟩)] w fun x w' => x = .returned (.int .i64 0) ∧ NextL w0 l d g L.reads w w' := by
  have hmany := h.st.dr.ok.many
  have hlen := ok.len
  have hround := ok.round
  have hlv := ok.leaves
  have hhome := ok.home
  have hc1 : w.cell? ⟨l, 1, none⟩ = some (.int .i64 (L.leaves : Int)) := h.head.cell 1
  have H := Lib.hid h
  have Hd := Lib.hid hd
  have HLen := Lib.hid hlen
  obtain ⟨W, hW⟩ : ∃ W, readAll L.pages.length L.pages L.round 1 L.ws.length L.ws = W := ⟨_, rfl⟩
  have HW := Lib.hid hW
  have HR : Hid (L.reads = { L with ws := W }) := by show _ = _; unfold LS.reads; rw [hW]
  generalize L.reads = LR at *
  obtain ⟨m, hm⟩ : ∃ m, L.leaves = m := ⟨_, rfl⟩
  rw [hm] at hc1 hlen hlv
  have HM := Lib.hid hm
  have hmk := make_pages m (by omega) w
  have T1 : Old w (w.alloc (.cells (nils m).toArray 30)) := (Touch.refl _ _).alloc _
  have H0 : Hid (PgTo (w.alloc (.cells (nils m).toArray 30)) w.heap.size m (fun i => L.D.seen.getD (2 + i) []) 0 ∧ Old w (w.alloc (.cells (nils m).toArray 30))) := ⟨⟨nils m, Blk.new w 30 (nils m), by simp [nils], (fun i hi => absurd hi (Nat.not_lt_zero _))⟩, T1⟩
  clear h hd T1 hW hm ok
  go_enter Tryz.func77, Tryz.ntmps77
  go_wp2_with fail
  clear hmk hc1
  go_loopw [17] (fun i wx => ∃ k : Nat, k ≤ m ∧ i = .int .i64 k ∧ Hid (PgTo wx w.heap.size m (fun i => L.D.seen.getD (2 + i) []) k ∧ Old w wx)) (fun i _ => m - (intOf i).toNat)
  case atStart => exact ⟨0, by omega, rfl, H0⟩
  case round =>
    obtain ⟨k, hk, rfl, HC⟩ := hrel
    clear H0
    by_cases hlt : k < m
    · have i0 : (0 : Int) ≤ (k : Int) := by omega
      have i1 : (k : Int) < (m : Int) := by omega
      have HA := Lib.hid (H.out.step HC.out.2)
      have hc0 : wr.cell? ⟨l, 0, none⟩ = some (.pointer (some ⟨d, 0, none⟩)) := HA.out.head.cell 0
      have HL := Lib.hid (look_st HA.out.st (2 + k) (by rw [HLen.out]; have := HM.out; omega) Hd.out)
      have hcast : ((2 + k : Nat) : Int) = 2 + (k : Int) := by omega
      rw [hcast] at HL
      clear hcast
      go_wp2_with fail
      refine HL.out.mono ?_
      rintro x w1 ⟨g1, rfl, hg1, K1, O1⟩
      have hTr : Trk (L.D.seen.getD (2 + k) []) := by
        obtain ⟨y, hy⟩ := get_of_lt (l := L.D.seen) (n := 2 + k) (by rw [DS.seen_length, HLen.out]; have := HM.out; omega)
        rw [getD_of hy]
        exact DS.seen_trk HA.out.st.dr.ok y (mem_of_get hy)
      have hP1 := HC.out.1.old O1
      obtain ⟨z, hz, hfz⟩ := hP1.cell hlt
      have HN : Hid (PgTo (w1.setCell ⟨w.heap.size, k, none⟩ (.slice (some ⟨g1, 0, none⟩) 96 96)) w.heap.size m (fun i => L.D.seen.getD (2 + i) []) (k + 1) ∧ Old w (w1.setCell ⟨w.heap.size, k, none⟩ (.slice (some ⟨g1, 0, none⟩) 96 96))) :=
        ⟨hP1.next hlt (Own.of_blk hTr.byte K1), (HC.out.2.trans O1).setCell (.inr (Nat.le_refl _)) _⟩
      clear K1 O1 hg1 HC HL hTr hP1 hc0 HA
      go_wp2_with fail
      exact ⟨⟨k + 1, by omega, by go_num, HN⟩, by simp [intOf]; omega⟩
    · obtain rfl : k = m := by omega
      have HP : Hid (Pgs wr (some ⟨w.heap.size, 0, none⟩) L.pages ∧ L.pages.length = k) := by
        have hp := HC.out.1.pgs (fun i hi => by
          obtain ⟨y, hy⟩ := get_of_lt (l := L.D.seen) (n := 2 + i) (by rw [DS.seen_length, HLen.out]; have := HM.out; omega)
          show (L.D.seen.getD (2 + i) []).length = 96
          rw [getD_of hy]
          exact (DS.seen_trk H.out.st.dr.ok y (mem_of_get hy)).len)
        have e : (List.range k).map (fun i => L.D.seen.getD (2 + i) []) = L.pages := by
          unfold LS.pages
          apply List.ext_getElem?
          intro i
          rcases Nat.lt_or_ge i k with q | q
          · rw [List.getElem?_map, List.getElem?_range q, List.getElem?_take_of_lt (by rw [HM.out]; exact q), List.getElem?_drop]
            obtain ⟨y, hy⟩ := get_of_lt (l := L.D.seen) (n := 2 + i) (by rw [DS.seen_length, HLen.out]; have := HM.out; omega)
            rw [hy, Option.map_some, getD_of hy]
          · rw [List.getElem?_eq_none (by simp; exact q), List.getElem?_eq_none (by rw [List.length_take, HM.out]; omega)]
        rw [e] at hp
        refine ⟨hp, ?_⟩
        rw [← e]; simp
      have HG0 : Hid (Going L W L.pages 1 L.ws) := ⟨⟨L.pages.length, Nat.le_refl _, HW.out⟩, by rw [HP.out.2]; omega, rfl⟩
      have HN0 : Hid (NextL w0 l d g { L with ws := L.ws } w wr) := H.out.old HC.out.2
      have hpl := HP.out.2
      clear HC HW
      go_wp2_with fail
      go_loopw [3, 7] (fun v i wx => ∃ ps : List (List Nat), ∃ (n o c : Nat) (ws : Wri), v = .slice (some ⟨w.heap.size, o, none⟩) ps.length c ∧ i = .int .i64 (n : Int) ∧ Hid (ps.length ≤ c ∧ Going L W ps n ws ∧ Pgs wx (some ⟨w.heap.size, o, none⟩) ps ∧ NextL w0 l d g { L with ws := ws } w wx)) (fun v _ _ => sliceLen v)
      case atStart => exact ⟨L.pages, 1, 0, k, L.ws, by rw [hpl], rfl, by rw [hpl]; exact Nat.le_refl _, HG0.out, HP.out.1, HN0.out⟩
      case round =>
        obtain ⟨ps, n, o, c, ws, rfl, rfl, HC⟩ := hrel
        clear HG0 HN0 HP hpl
        have hnum := HC.out.2.1.num
        have hpc := HC.out.1
        have HD : Hid (Old wr wr.drew) := (Touch.refl _ _).drew
        obtain ⟨b1, A1⟩ := HC.out.2.2.2.1
        have HA := Lib.hid (A1.step HD.out)
        have Hhd : Hid (Blk wr.drew l 129 (lhead d g { L with ws := ws })) := HA.out.head
        have HNd : Hid (NextL w0 l d g { L with ws := ws } w wr.drew) := HC.out.2.2.2.trans (A1.old HD.out)
        have HPd := Lib.hid (HC.out.2.2.1.old HD.out)
        have HG := Lib.hid HC.out.2.1
        have hS : Hid (wr.drew.cell? ⟨l, 2, none⟩ = some (.int .i64 (L.round : Int))) := Hhd.out.cell 2
        have Hm := Lib.hid (home_any Hhd.out)
        have hwl : ws.length = L.ws.length := HG.out.len
        rw [show ({ L with ws := ws } : LS).ws.length = L.ws.length from hwl] at Hm
        have HRd := Lib.hid (readPosting_all _ ps c L.round n L.ws.length wr.drew HPd.out hpc (by omega) (by omega) (by omega) (by omega))
        clear A1 HC
        have HDo : Hid (Old wr.drew wr.drew) := Touch.refl _ _
        go_wp2_with fail
        go_cut [8, 9] (fun v f wx => ∃ (q : Option (List Ent)) (ge : Nat), v = resV q ge ∧ f = .bool q.isSome ∧ Hid (readP ps L.round n L.ws.length = q ∧ Old wr.drew wx ∧ ∀ e, q = some e → Ents wx (some ⟨ge, 0, none⟩) e))
        case first =>
          go_region_held3 (fun w' => w'.cell? ⟨l, 2, none⟩ = some (.int .i64 (L.round : Int))) (first | exact hS.out | exact hS2.out)
            (first | (go_at_call 48; refine Hm.out.mono ?_; rintro x w' ⟨rfl, rfl⟩)
                   | (go_at_call 101; refine HRd.out.mono ?_; rintro x w2 ⟨q, ge, rfl, hq, O2, En⟩
                      have hS2 : Hid (w2.cell? ⟨l, 2, none⟩ = some (.int .i64 (L.round : Int))) := (Hhd.out.touch O2 (fun q => q)).cell 2
                      have HQ : Hid (readP ps L.round n L.ws.length = q ∧ Old wr.drew w2 ∧ ∀ e, q = some e → Ents w2 (some ⟨ge, 0, none⟩) e) := ⟨hq, O2, En⟩
                      clear hq O2 En))
          all_goals
            rename_i hHeld
            clear hHeld
            go_wp2_with fail
            go_meet
            exact ⟨_, _, rfl, rfl, HQ⟩
        case rest =>
          obtain ⟨q, ge, rfl, rfl, HQ⟩ := hcut
          have HN2 : Hid (NextL w0 l d g { L with ws := ws } w wc) := HNd.out.trans (HA.out.old HQ.out.2.1)
          have HP2 := Lib.hid (HPd.out.old HQ.out.2.1)
          have HA2 := Lib.hid (HA.out.step HQ.out.2.1)
          clear HD HA Hhd HNd HPd hS Hm HRd HDo
          cases q with
          | none =>
            have HE : Hid (ws = W) := HG.out.stop HQ.out.1
            simp only [resV, Option.isSome_none]
            clear HQ
            go_wp2_with fail
            go_ret
            refine ⟨rfl, ?_⟩
            rw [HR.out, ← HE.out]
            exact HN2.out
          | some e =>
            obtain ⟨hgo, hle⟩ := readP_some HQ.out.1
            have h2 := leavesOf_two hgo.2.2
            have hpos := leavesOf_pos hgo.2.2
            have HGn := Lib.hid (HG.out.next HQ.out.1)
            have HEn := Lib.hid (HQ.out.2.2 e rfl)
            have HGo := Lib.hid hgo
            have HLv := Lib.hid (fun w => leaves_any e.length w (by omega))
            simp only [resV, Option.isSome_some]
            clear HQ HG hgo
            have Hlm : Hid (e.length ≤ 5000) := by show _ ≤ _; omega
            clear hpos
            obtain ⟨el, hel⟩ : ∃ el, e.length = el := ⟨_, rfl⟩
            have Hel := Lib.hid hel
            rw [hel] at HLv HGn hle h2 ⊢
            obtain ⟨lv, hlv'⟩ : ∃ lv, leavesOf el = lv := ⟨_, rfl⟩
            rw [hlv'] at HLv HGn hle h2
            clear hel hlv'
            go_wp2_with fail
            refine (take_any l d g { L with ws := ws } _ e el el wc HA2.out.head HA2.out.wri HEn.out Hel.out (by have := Hlm.out; have := Hel.out; omega) (fun x hx => by show x.1 < ws.length ∧ _; rw [hwl]; exact HGo.out.1 x hx) (by show ws.length ≤ 5000; omega)).mono ?_
            rintro x w3 ⟨rfl, W3, T3⟩
            have hgl : g < w.heap.size := by
              obtain ⟨cs, hb⟩ := H.out.wri.blk
              exact hb.lt
            obtain ⟨cs3, hb3⟩ := HA2.out.wri.blk
            have hk5 : ∀ k cs, Blk wc k 5 cs → Blk w3 k 5 cs := fun k cs hk => hk.touch T3 (hk.ne hb3 (by decide))
            have HP3 : Hid (Pgs w3 (some ⟨w.heap.size, o, none⟩) ps) := HP2.out.keep hk5 (fun k o' cs e' hk => hk.touch T3 (by cases e'; omega))
            obtain ⟨b2, A2⟩ := HN2.out.1
            have HN3 : Hid (NextL w0 l d g { L with ws := took ws e } w w3) := ⟨⟨b2, A2.wri_set rfl (by unfold lhead; simp [took_length]) W3 T3⟩, HN2.out.2.1.trans (KeptL.of_touch hb3 (.inr rfl) T3), Nat.le_trans HN2.out.2.2 T3.size⟩
            have HP4 : Hid (Pgs w3 (some ⟨w.heap.size, if c = lv then o else o + lv, none⟩) (ps.drop lv)) := by
              show Pgs _ _ _
              by_cases hcl : c = lv
              · rw [if_pos hcl, List.drop_eq_nil_of_le (by omega)]
                exact ⟨(fun i x hx => by cases hx), HP3.out.blk⟩
              rw [if_neg hcl]
              have := HP3.out.part lv (ps.length - lv)
              rw [List.take_of_length_le (by rw [List.length_drop]; exact Nat.le_refl _)] at this
              exact this
            clear W3 T3 hgl hb3 hk5 A2 HN2 HP2 HA2 HEn HP3
            have i0 : (0 : Int) ≤ (lv : Int) := by omega
            have i1 : (lv : Int) ≤ (ps.length : Int) := by omega
            have i2 : (lv : Int) ≤ (c : Int) := by omega
            have hdl : (ps.drop lv).length = ps.length - lv := List.length_drop
            have Hdl := Lib.hid hdl
            have j1 : IntKind.i64.wrap ((n : Int) + 1) = (n : Int) + 1 := wrap_fits ⟨by omega, by omega⟩
            clear hdl
            go_wp2_with fail
            refine (HLv.out _).mono ?_
            rintro x w' ⟨rfl, rfl⟩
            clear HLv
            go_wp2_with fail
            refine ⟨⟨ps.drop lv, n + 1, if c = lv then o else o + lv, c - lv, took ws e, ?_, by go_num, by rw [Hdl.out]; omega, HGn.out, HP4.out, HN3.out⟩, ?_⟩
            · rw [Hdl.out]; split <;> rfl
            · simp only [sliceLen]; omega

theorem reads_D (L : LS) : L.reads.D = L.D := rfl
theorem readAll_length : ∀ (f : Nat) (ps : List (List Nat)) (r n home : Nat) (ws : Wri), (readAll f ps r n home ws).length = ws.length
  | 0, _, _, _, _, _ => rfl
  | f + 1, ps, r, n, home, ws => by
    unfold readAll
    split
    · rfl
    · rw [readAll_length f, took_length]
theorem LS.Ok.reads {L : LS} (h : L.Ok) : L.reads.Ok := ⟨h.leaves, by show 2 ≤ (readAll _ _ _ _ _ _).length; rw [readAll_length]; exact h.home, by show L.D.T.length = 2 + L.leaves + (readAll _ _ _ _ _ _).length; rw [readAll_length]; exact h.len, h.laid, h.round, h.posts⟩
theorem counted_ok {D : DS} {k : Nat} (h : coverK D = some k) (ok : D.Ok) : (LS.counted D k).Ok := by
  obtain ⟨_, hrd, _⟩ := pick_some h
  have hf := readC_fits hrd
  unfold fits at hf
  have hl := of_decide_eq_true hf
  have hr : roundC (D.seen.getD k []) < 4294967296 := by
    refine num_lt (fun x hx => ?_) 4
    rcases Nat.lt_or_ge k D.seen.length with q | q
    · obtain ⟨y, hy⟩ := get_of_lt q
      rw [getD_of hy] at hx
      exact (DS.seen_trk ok y (mem_of_get hy)).byte x hx
    · rw [List.getD_eq_getElem?_getD, List.getElem?_eq_none q] at hx
      cases hx
  refine ⟨hl.1, ?_, ?_, Nat.zero_le _, ?_, Nat.zero_le _⟩
  · show 2 ≤ (List.replicate _ none).length; rw [List.length_replicate]; omega
  · show D.T.length = 2 + leavesC _ + (List.replicate _ none).length; rw [List.length_replicate]; omega
  · show roundC _ ≤ _; omega

/-- What Open answers. -/
def Opens (w0 : Fr) (d : Nat) (D : DS) (w : World) (x : Ending) (w' : World) : Prop :=
  KeptL w w' ∧ w.heap.size ≤ w'.heap.size ∧ ((∃ b, x = .returned (.tuple #[.pointer none, .int .i64 (openE D : Int)]) ∧ openE D ≠ 0 ∧ St w0 d b (openD D) w') ∨
    ∃ k l g b, coverK D = some k ∧ openE D = 0 ∧ D.down = false ∧ x = .returned (.tuple #[.pointer (some ⟨l, 0, none⟩), .int .i64 0]) ∧ LAt w0 l d b g (openL D k) w')

theorem open_nil (w : World) : Calls Tryz.prog 47 #[.pointer none] w fun x w' => x = .returned (.tuple #[.pointer none, .int .i64 1]) ∧ w = w' := by
  go_enter Tryz.func47, Tryz.ntmps47
  go_wp2_with fail
  go_ret2
  exact ⟨rfl, rfl⟩

set_option maxHeartbeats 1600000 in
theorem open_any {w0 : Fr} {w : World} {d : Nat} {b : Bl} {D : DS} (h : St w0 d b D w) (ht : D.turns ≤ 90000) : Calls Tryz.prog 47 #[.pointer (some ⟨d, 0, none⟩)] w (Opens w0 d D w) := by
  have H := Lib.hid h
  have HT := Lib.hid ht
  cases hd : D.down with
  | true =>
    have HC := Lib.hid (counted_down h hd)
    have HE : Hid (openE D = 4 ∧ openD D = D) := by
      constructor
      · unfold openE; rw [hd]; rfl
      · unfold openD; rw [hd]; rfl
    clear h ht hd
    go_enter Tryz.func47, Tryz.ntmps47
    go_wp2_with fail
    refine HC.out.mono ?_
    rintro x w1 ⟨rfl, O1⟩
    have HO := Lib.hid O1
    clear O1 HC
    go_wp2_with fail
    go_ret2
    refine ⟨.of_old HO.out, HO.out.size, .inl ⟨b, ?_, ?_, ?_⟩⟩
    · rw [HE.out.1]; rfl
    · rw [HE.out.1]; decide
    · rw [HE.out.2]; exact H.out.step HO.out
  | false =>
    have HC := Lib.hid (counted_any h hd)
    have Hd := Lib.hid hd
    clear h ht hd
    cases hK : coverK D with
    | none =>
      have HE : Hid (openE D = 11 ∧ openD D = D) := by
        constructor
        · unfold openE; rw [Hd.out, hK]; rfl
        · unfold openD; rw [Hd.out, hK]; rfl
      have HK := Lib.hid hK
      clear hK
      go_enter Tryz.func47, Tryz.ntmps47
      go_wp2_with fail
      refine HC.out.mono ?_
      rintro x w1 ⟨O1, ⟨_, rfl⟩ | ⟨k, l, g, b1, hk, _⟩⟩
      · have HO := Lib.hid O1
        clear O1 HC
        go_wp2_with fail
        go_ret2
        refine ⟨.of_old HO.out, HO.out.size, .inl ⟨b, ?_, ?_, ?_⟩⟩
        · rw [HE.out.1]; rfl
        · rw [HE.out.1]; decide
        · rw [HE.out.2]; exact H.out.step HO.out
      · rw [HK.out] at hk; cases hk
    | some k =>
      have HK := Lib.hid hK
      have HOk := Lib.hid (counted_ok hK H.out.dr.ok)
      have HE : Hid (openE D = (openL D k).D.bad ∧ openD D = (openL D k).D) := by
        constructor
        · unfold openE; rw [Hd.out, hK]; rfl
        · unfold openD; rw [Hd.out, hK]; rfl
      clear hK
      go_enter Tryz.func47, Tryz.ntmps47
      go_wp2_with fail
      refine HC.out.mono ?_
      rintro x w1 ⟨O1, ⟨hk, _⟩ | ⟨k', l, g, b1, hk, rfl, A1⟩⟩
      · rw [HK.out] at hk; cases hk
      · obtain rfl : k = k' := by rw [HK.out] at hk; injection hk
        have HA := Lib.hid A1
        have HN1 : Hid (KeptL w w1 ∧ w.heap.size ≤ w1.heap.size) := ⟨.of_old O1, O1.size⟩
        have HRd := Lib.hid (read_any A1 HOk.out Hd.out)
        clear O1 A1 HC hk
        go_wp2_with fail
        refine HRd.out.mono ?_
        rintro x w2 ⟨rfl, N2⟩
        obtain ⟨b2, A2⟩ := N2.1
        have HN2 : Hid (KeptL w w2 ∧ w.heap.size ≤ w2.heap.size) := ⟨HN1.out.1.trans N2.2.1, Nat.le_trans HN1.out.2 N2.2.2⟩
        have HNx := Lib.hid (nextRound_any A2 HOk.out.reads (by have := HT.out; show D.turns ≤ _; omega))
        clear N2 A2 HRd HN1
        go_wp2_with fail
        refine HNx.out.mono ?_
        rintro x w3 ⟨rfl, N3⟩
        rw [show (LS.counted D k).reads.next = openL D k from rfl] at N3 ⊢
        have HN3 : Hid (KeptL w w3 ∧ w.heap.size ≤ w3.heap.size) := ⟨HN2.out.1.trans N3.2.1, Nat.le_trans HN2.out.2 N3.2.2⟩
        have HL3 := Lib.hid N3.1
        clear N3 HNx HN2
        cases hd3 : (openL D k).D.down with
        | true =>
          rw [bad_down hd3]
          have HB := Lib.hid (bad_down hd3)
          clear hd3
          go_wp2_with fail
          go_ret2
          obtain ⟨b3, A3⟩ := HL3.out
          refine ⟨HN3.out.1, HN3.out.2, .inl ⟨b3, ?_, ?_, ?_⟩⟩
          · rw [HE.out.1, HB.out]; rfl
          · rw [HE.out.1, HB.out]; decide
          · rw [HE.out.2]; exact A3.st
        | false =>
          rw [bad_up hd3]
          have HB := Lib.hid (bad_up hd3)
          clear hd3
          go_wp2_with fail
          go_ret2
          obtain ⟨b3, A3⟩ := HL3.out
          exact ⟨HN3.out.1, HN3.out.2, .inr ⟨k, l, g, b3, HK.out, by rw [HE.out.1, HB.out], Hd.out, rfl, A3⟩⟩

section
variable {w0 : Fr} {w : World} {l d g : Nat} {b : Bl} {L : LS}
theorem look_far (h : Blk w l 129 (lhead d g L)) (k : Int) (hk : k < 0 ∨ (L.ws.length : Int) ≤ k) : Calls Tryz.prog 49 #[.pointer (some ⟨l, 0, none⟩), .int .i64 k] w fun x w' => x = .returned (.tuple #[.slice none 0 0, .int .i64 1]) ∧ w = w' := by
  have Hm := Lib.hid (home_any h)
  clear h
  generalize L.ws.length = n at *
  by_cases h0 : k < 0
  · clear hk
    go_enter Tryz.func49, Tryz.ntmps49
    go_wp2_with fail
    go_ret2
    exact ⟨rfl, rfl⟩
  · have h1 : (n : Int) ≤ k := by omega
    clear hk
    go_enter Tryz.func49, Tryz.ntmps49
    go_wp2_with fail
    refine Hm.out.mono ?_
    rintro x w' ⟨rfl, rfl⟩
    go_wp2_with fail
    go_ret2
    exact ⟨rfl, rfl⟩
theorem look_lost (h : LAt w0 l d b g L w) (hl : L.lost = true) (k : Nat) (hk : k < L.ws.length) : Calls Tryz.prog 49 #[.pointer (some ⟨l, 0, none⟩), .int .i64 k] w fun x w' => x = .returned (.tuple #[.slice none 0 0, .int .i64 4]) ∧ w = w' := by
  have Hm := Lib.hid (home_any h.head)
  have hc6 : w.cell? ⟨l, 6, none⟩ = some (.bool L.lost) := h.head.cell 6
  rw [hl] at hc6
  clear h hl
  generalize L.ws.length = n at *
  have h0 : ¬ (k : Int) < 0 := by omega
  have h1 : ¬ (n : Int) ≤ (k : Int) := by omega
  go_enter Tryz.func49, Tryz.ntmps49
  go_wp2_with fail
  refine Hm.out.mono ?_
  rintro x w' ⟨rfl, rfl⟩
  go_wp2_with fail
  go_ret2
  exact ⟨rfl, rfl⟩

/-- What Look answers of a home track. -/
def LookedL (xs : List Nat) (w : World) (x : Ending) (w' : World) : Prop := ∃ h o c, x = .returned (.tuple #[.slice (some ⟨h, o, none⟩) 96 c, .int .i64 0]) ∧ xs.length = 96 ∧ Byt w' (some ⟨h, o, none⟩) xs ∧ Old w w' ∧ 96 ≤ c

set_option maxHeartbeats 1600000 in
theorem look_home (h : LAt w0 l d b g L w) (ok : L.Ok) (hl : L.lost = false) (hd : L.D.down = false) (k : Nat) (hk : k < L.ws.length) : Calls Tryz.prog 49 #[.pointer (some ⟨l, 0, none⟩), .int .i64 k] w (LookedL (L.homeAt k) w) := by
  have hmany := h.st.dr.ok.many
  have hlen := ok.len
  have Hm := Lib.hid (home_any h.head)
  have hc6 : w.cell? ⟨l, 6, none⟩ = some (.bool L.lost) := h.head.cell 6
  have hc5 : w.cell? ⟨l, 5, none⟩ = some (.slice (some ⟨g, 0, none⟩) L.ws.length L.ws.length) := h.head.cell 5
  rw [hl] at hc6
  obtain ⟨y, hy⟩ := get_of_lt (l := L.ws) (n := k) hk
  obtain ⟨v, hcv, hsv⟩ := h.wri.slot hy
  have H := Lib.hid h
  have h0 : ¬ (k : Int) < 0 := by omega
  have h0' : (0 : Int) ≤ (k : Int) := by omega
  cases y with
  | some bs =>
    have HA : Hid (L.homeAt k = bs) := by show _ = _; unfold LS.homeAt; rw [getD_of hy]
    obtain ⟨h1, o1, c1, rfl, ht1, hb1⟩ := hsv
    have HC := Lib.hid (clone_any ⟨h1, o1, none⟩ bs 96 c1 w hb1.has ht1.len (by omega))
    have HTr := Lib.hid ht1
    rw [HA.out]
    clear h hl hd hy hb1 ht1 HA ok
    generalize L.ws.length = n at *
    have h1' : ¬ (n : Int) ≤ (k : Int) := by omega
    have h2' : (k : Int) < (n : Int) := by omega
    have hq := neq_nil (some ⟨h1, o1, none⟩) 96 c1
    go_enter Tryz.func49, Tryz.ntmps49
    go_wp2_with fail
    refine Hm.out.mono ?_
    rintro x w' ⟨rfl, rfl⟩
    go_wp2_with fail
    refine HC.out.mono ?_
    rintro x w1 ⟨g1, d1, rfl, hg1, G1, O1⟩
    have HG := Lib.hid G1
    have HO := Lib.hid O1
    clear G1 O1 HC hg1
    go_wp2_with fail
    go_ret2
    exact ⟨g1, 0, d1, rfl, HTr.out.len, HG.out.own.byt, HO.out, by
      obtain ⟨rest, _, hrl⟩ := HG.out.row
      have := HTr.out.len
      omega⟩
  | none =>
    have HA : Hid (L.homeAt k = L.D.seen.getD (2 + L.leaves + k) []) := by show _ = _; unfold LS.homeAt; rw [getD_of hy]
    obtain rfl : v = .slice none 0 0 := hsv
    have hTr : Trk (L.D.seen.getD (2 + L.leaves + k) []) := by
      obtain ⟨z, hz⟩ := get_of_lt (l := L.D.seen) (n := 2 + L.leaves + k) (by rw [DS.seen_length]; omega)
      rw [getD_of hz]
      exact DS.seen_trk h.st.dr.ok z (mem_of_get hz)
    have HTr := Lib.hid hTr
    have HD : Hid (Old w w.drew) := (Touch.refl _ _).drew
    have HAd := Lib.hid (h.step HD.out)
    have HTk := Lib.hid (homeTrack_any HAd.out.head k (by omega) (by omega))
    have HLk := Lib.hid (look_st HAd.out.st (2 + L.leaves + k) (by omega) hd)
    have hS : Hid (w.drew.cell? ⟨l, 0, none⟩ = some (.pointer (some ⟨d, 0, none⟩))) := HAd.out.head.cell 0
    have hc0 : w.cell? ⟨l, 0, none⟩ = some (.pointer (some ⟨d, 0, none⟩)) := h.head.cell 0
    rw [HA.out]
    have hup := Lib.hid (heed_up (w := w) (l := l) 0 (by decide))
    clear h hl hd hy hTr HA ok
    generalize hbs : L.D.seen.getD (2 + L.leaves + k) [] = bs at *
    generalize hnn : L.ws.length = n at *
    have h1' : ¬ (n : Int) ≤ (k : Int) := by omega
    have h2' : (k : Int) < (n : Int) := by omega
    have hq := neq_nil none 0 0
    clear hbs
    go_enter Tryz.func49, Tryz.ntmps49
    go_wp2_with fail
    refine Hm.out.mono ?_
    rintro x w' ⟨rfl, rfl⟩
    go_wp2_with fail
    go_cut [7, 8] (fun v e wx => ∃ g1, v = .slice (some ⟨g1, 0, none⟩) 96 96 ∧ e = .int .i64 0 ∧ Hid (Byt wx (some ⟨g1, 0, none⟩) bs ∧ Old w wx))
    case first =>
      go_region_held3 (fun w' => w'.cell? ⟨l, 0, none⟩ = some (.pointer (some ⟨d, 0, none⟩))) (first | exact hS.out | exact hS2.out)
        (first | (go_at_call 79; refine HTk.out.mono ?_; rintro x w' ⟨rfl, rfl⟩)
               | (go_at_call 28; refine HLk.out.mono ?_; rintro x w2 ⟨g1, rfl, hg1, K1, O1⟩
                  have hS2 : Hid (w2.cell? ⟨l, 0, none⟩ = some (.pointer (some ⟨d, 0, none⟩))) := (HAd.out.head.touch O1 (fun q => q)).cell 0
                  have HQ : Hid (Byt w2 (some ⟨g1, 0, none⟩) bs ∧ Old w w2) := ⟨(Own.of_blk HTr.out.byte K1).byt, HD.out.trans O1⟩
                  clear K1 O1 hg1))
      all_goals
        rename_i hHeld
        clear hHeld
        go_wp2_with fail
        go_meet
        exact ⟨_, rfl, rfl, HQ⟩
    case rest =>
      obtain ⟨g1, rfl, rfl, HQ⟩ := hcut
      clear HD HAd HTk HLk hS hc0 hup hc5 hc6 hcv hq
      go_wp2_with fail
      refine (heed_up (l := l) 0 (by decide)).mono ?_
      rintro x w' ⟨rfl, rfl⟩
      go_wp2_with fail
      go_ret2
      exact ⟨g1, 0, 96, rfl, HTr.out.len, HQ.out.1, HQ.out.2, Nat.le_refl _⟩
end
end Go.Proofs.YtjajenkagcdhlaaGreat
