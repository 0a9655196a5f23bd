/- The walk of a drum's Fall. -/
import Derived.Test.YtjajenkagcdhlaaGreatFall
namespace Go.Proofs.YtjajenkagcdhlaaGreat
open Go.RowKit
set_option maxRecDepth 100000

theorem set_get {α : Type} {l : List α} {k : Nat} {x : α} (h : l[k]? = some x) : l.set k x = l := by
  obtain ⟨hl, rfl⟩ := List.getElem?_eq_some_iff.1 h
  exact List.set_getElem_self hl

/-- What the first rounds of Fall leave. -/
structure Mid1 (d : Nat) (b : Bl) (D : DS) (p : Nat → Nat) (f : Nat → Bool) (m mk : Nat) (w : World) (t : Nat) (wx : World) : Prop where
  at_ : At d b (D.fallen p t) D.seen wx
  mark : Blk wx mk 4 (flags f m)
  old : Touch (foot d b) w wx

/-- What the second rounds of Fall leave. -/
structure Mid2 (d : Nat) (b : Bl) (D E : DS) (w : World) (t : Nat) (wx : World) : Prop where
  ex : ∃ V, At d b E V wx ∧ V.length = E.T.length ∧ (∀ b ∈ V, Trk b) ∧ ∀ k, (∀ x ∈ D.A.drop t, x.1 ≠ k) → V[k]? = E.T[k]?
  old : Touch (foot d b) w wx

set_option maxRecDepth 100000 in
set_option maxHeartbeats 3200000 in
theorem fall_any (d : Nat) (b : Bl) (D : DS) (w : World) (a : Option Addr) (ys : List Int) (len cap : Nat) (torn cut : Int) (h : Dr d b D w) (ht : D.turns ≤ 100000) (hI : HasI w a ys) (hlen : ys.length = len) (hlm : len ≤ 9223372036854775806) :
    Calls Tryz.prog 26 #[.pointer (some ⟨d, 0, none⟩), .slice a len cap, .int .i64 torn, .int .i64 cut] w fun e w' => e = .returned (.tuple #[]) ∧ Done d b (D.fall (partOf ys torn cut)) w w' := by
  obtain ⟨a0, c0, hafl⟩ := lains_form h.at_.own
  have hm : D.A.length ≤ 100000 := Nat.le_trans h.ok.long ht
  have hc : w.cell? ⟨d, 2, none⟩ = some (.slice a0 D.A.length c0) := by rw [← hafl]; exact h.at_.head.cell 2
  have HMK := Lib.hid (marked_any a ys len cap D.A.length hm w hI hlen hlm)
  have H := Lib.hid h
  have Hafl := Lib.hid hafl
  have hcu : min (max cut 0) 96 = (cutOf cut : Int) := by unfold cutOf; omega
  have hcl := cutOf_le cut
  have Hp := Lib.hid (partOf_le ys torn cut)
  have HP := Lib.hid (partOf_le ys torn cut)
  have Hp1 : Hid (∀ i, among ys i = true → partOf ys torn cut i = 96) := fun i hi => if_pos hi
  have Hp2 : Hid (∀ i, among ys i = false → (i : Int) = torn → partOf ys torn cut i = cutOf cut) := fun i hi e => by unfold partOf; rw [hi, if_neg (by decide), if_pos e]
  have Hp3 : Hid (∀ i, among ys i = false → ¬ (i : Int) = torn → partOf ys torn cut i = 0) := fun i hi e => by unfold partOf; rw [hi, if_neg (by decide), if_neg e]
  clear h ht hI hlen hafl
  generalize partOf ys torn cut = p at *
  generalize among ys = f at *
  generalize cutOf cut = cc at *
  generalize hM : D.A.length = m at *
  have HM := Lib.hid hM
  clear hM
  go_enter Tryz.func26, Tryz.ntmps26
  go_wp2_with fail
  refine HMK.out.mono ?_
  rintro e w1 ⟨rfl, K1, T1⟩
  have A1 := H.out.at_.touch T1 (fun _ _ q => q)
  have hc1 : w1.cell? ⟨d, 2, none⟩ = some (.slice a0 m c0) := (T1.cell (p := ⟨d, 2, none⟩) H.out.at_.head.lt (fun q => q)).trans hc
  have HI0 : Hid (Mid1 d b D p f m w.heap.size w 0 w1) := ⟨A1, K1, Touch.of_old T1⟩
  have hw0 : Hid (∀ k, foot d b k → k < w.heap.size) := H.out.at_.lt
  clear A1 K1 T1 HMK hc
  go_wp2_with fail
  go_loopw [30] (fun i wx => ∃ t : Nat, t ≤ m ∧ i = .int .i64 t ∧ Hid (Mid1 d b D p f m w.heap.size w t wx)) (fun i _ => m - (intOf i).toNat)
  case atStart => exact ⟨0, by omega, rfl, HI0⟩
  case round =>
    obtain ⟨t, hle, rfl, HI⟩ := hrel
    clear HI0 hc1
    by_cases hlt : t < m
    · obtain ⟨x, hx⟩ := get_of_lt (l := D.A) (n := t) (by rw [HM.out]; exact hlt)
      have hx' := H.out.ok.lay x (mem_of_get hx)
      have own := HI.out.at_.own
      rw [Hafl.out] at own
      rw [show (D.fallen p t).A = D.A from rfl, HM.out] at own
      obtain ⟨g, rfl⟩ := lains_ptr own (by omega)
      have HR := Lib.hid (lains_at (fun x hx => (H.out.ok.lay x hx).2) HM.out own hx)
      have HX := Lib.hid hx'.2
      have HX1 := Lib.hid hx'.1
      have HXg := Lib.hid hx
      have h0 : (0 : Int) ≤ (t : Int) := by omega
      have h1 : (t : Int) < (m : Int) := by omega
      clear own hx' hx
      obtain ⟨o, ho⟩ := get_of_lt (l := (D.fallen p t).T) (n := x.1) (by rw [fallen_length]; exact HX1.out)
      have HO := Lib.hid ho
      have HS := Lib.hid (fallen_succ HXg.out ho)
      clear ho
      have HST : Hid (∀ w2 : World, Blk w2 wr.heap.size 107 (lain x) → Touch (fun k => k = wr.heap.size) (wr.alloc (.cells noLain.toArray 107)) w2 → At d b (D.fallen p t) D.seen w2 ∧ Blk w2 w.heap.size 4 (flags f m) ∧ Touch (foot d b) w w2) := fun w2 _ T2 => by
        have T3 : Old wr w2 := ((Touch.refl (fun _ => False) wr).alloc _).own T2 (Nat.le_refl _)
        exact ⟨HI.out.at_.touch T3 (fun _ _ q => q), HI.out.mark.touch T3 (fun q => q), HI.out.old.trans (Touch.of_old T3)⟩
      cases hft : f t with
      | true =>
        have HF := Lib.hid hft
        clear hft
        go_wp2_with (first
          | (with_reducible refine wpList_alloc_lain (op := ⟨some 10, _, _, _, _, _⟩) rfl rfl ?_)
          | (with_reducible refine wpList_load_lain (op := ⟨some 34, _, _, _, _, _⟩) rfl (.tmp 33) rfl g (t * 97) rfl x HX.out HR.out ?_)
          | ((with_reducible refine wpList_store_lain (op := ⟨none, .store 107 _ _, _, _, _, _⟩) rfl (.tmp 10) (.tmp 34) rfl _ x HX.out rfl rfl noLain noLain_length (Blk.new _ 107 noLain) ?_); intro w2 K2 T2
             obtain ⟨A2, M2, O2⟩ := HST.out w2 K2 T2
             have hmc : w2.cell? ⟨w.heap.size, t, none⟩ = some (.bool true) := by rw [M2.cell, flags_get _ _ _ hlt, HF.out]
             have HK2 := Lib.hid K2
             have HA2 := Lib.hid A2
             have HM2 := Lib.hid M2
             have HO2 := Lib.hid O2
             clear K2 T2 A2 M2 O2))
        have A3 := HA2.out.touch (Touch.refl (fun _ => False) w2).drew (fun _ _ q => q)
        have K3 : Blk w2.drew wr.heap.size 107 (lain x) := HK2.out
        have hTT := fallen_trk H.out.ok Hp.out (i := t) (by rw [HM.out]; exact hle)
        have hlen : x.1 < (D.fallen p t).T.length := by rw [fallen_length]; exact HX1.out
        have hgs : wr.heap.size ≠ b.s := by have := HI.out.at_.set.lt; omega
        have hms : w.heap.size ≠ b.s := by have := hw0.out b.s (.inr (.inl rfl)); omega
        have T4 : Touch (fun k => k = b.s) w2.drew (w2.drew.setCells b.s (x.1 * 96) (cells x.2)) := setCells_touch _ _ _ _
        have A4 := A3.set_set hTT hlen HX.out
        have K4 := K3.touch T4 hgs
        have M3 : Blk w2.drew w.heap.size 4 (flags f m) := HM2.out
        have hS0 : w2.drew.cell? ⟨d, 0, none⟩ = some (.slice (some ⟨b.s, 0, none⟩) (D.fallen p t).T.length (D.fallen p t).T.length) ∧ w2.drew.cell? ⟨wr.heap.size, 0, none⟩ = some (.int .i64 (x.1 : Int)) ∧ w2.drew.rangeAt wr.heap.size 1 (cells x.2) ∧ w2.drew.there b.s (x.1 * 96) 96 :=
          ⟨A3.head.cell 0, K3.cell 0, blk_range (xs := [.int .i64 (x.1 : Int)]) K3, rows_there hTT A3.set hlen⟩
        have hS1 : (w2.drew.setCells b.s (x.1 * 96) (cells x.2)).cell? ⟨d, 0, none⟩ = some (.slice (some ⟨b.s, 0, none⟩) (D.fallen p t).T.length (D.fallen p t).T.length) ∧ (w2.drew.setCells b.s (x.1 * 96) (cells x.2)).cell? ⟨wr.heap.size, 0, none⟩ = some (.int .i64 (x.1 : Int)) ∧ (w2.drew.setCells b.s (x.1 * 96) (cells x.2)).rangeAt wr.heap.size 1 (cells x.2) ∧ (w2.drew.setCells b.s (x.1 * 96) (cells x.2)).there b.s (x.1 * 96) 96 :=
          ⟨(T4.cell (p := ⟨d, 0, none⟩) A3.head.lt A3.ds).trans (A3.head.cell 0), K4.cell 0, blk_range (xs := [.int .i64 (x.1 : Int)]) K4, World.there_setCells hS0.2.2.2 _ _ _⟩
        have HS0 := Lib.hid hS0
        have HS1 := Lib.hid hS1
        have HI4 : Hid (Mid1 d b D p f m w.heap.size w (t + 1) (w2.drew.setCells b.s (x.1 * 96) (cells x.2))) := by
          refine ⟨?_, M3.touch T4 hms, (HO2.out.drew).trans (T4.mono (fun k _ hk => .inr (.inl hk)))⟩
          rw [HS.out, Hp1.out t HF.out, mix_all HX.out (hTT o (mem_of_get HO.out))]
          exact A4
        have hcl6 : (cells x.2).length = 96 := by rw [cells_length, HX.out.len]
        have hone := cells_one x.2
        have hu := Tryz.underlying105
        clear A3 K3 hTT hgs hms T4 A4 K4 M3 hS0 hS1 HR HX HX1 HS HI HST HO HXg hmc HK2 HA2 HM2 HO2
        generalize (D.fallen p t).T.length = n at *
        generalize cells x.2 = cs at *
        generalize x.1 = q at *
        have hk0 : (0 : Int) ≤ (q : Int) := by omega
        have hk1 : (q : Int) < (n : Int) := by omega
        clear hlen
        have hi : (Tryz.prog.info? 105).map (·.size) = some cs.length := by rw [size105, hcl6]
        generalize wr.heap.size = l at *
        go_region_held3 (fun w' => w'.cell? ⟨d, 0, none⟩ = some (.slice (some ⟨b.s, 0, none⟩) n n) ∧ w'.cell? ⟨l, 0, none⟩ = some (.int .i64 (q : Int)) ∧ w'.rangeAt l 1 cs ∧ w'.there b.s (q * 96) 96) (first | exact HS0.out | exact HS1.out) (fail)
        rename_i hHeld
        clear hHeld HS0 HS1 hu hi hcl6 hone hk0 hk1
        generalize w2.drew.setCells b.s (q * 96) cs = w5 at *
        go_wp2_with fail
        refine ⟨⟨t + 1, by omega, by go_num, HI4⟩, by simp [intOf]; omega⟩
      | false =>
        have HF := Lib.hid hft
        clear hft
        by_cases htorn : (t : Int) = torn
        · subst htorn
          have hnt : ((t : Int) == (t : Int)) = true := by simp
          go_wp2_with (first
            | (with_reducible refine wpList_alloc_lain (op := ⟨some 10, _, _, _, _, _⟩) rfl rfl ?_)
            | (with_reducible refine wpList_load_lain (op := ⟨some 34, _, _, _, _, _⟩) rfl (.tmp 33) rfl g (t * 97) rfl x HX.out HR.out ?_)
            | ((with_reducible refine wpList_store_lain (op := ⟨none, .store 107 _ _, _, _, _, _⟩) rfl (.tmp 10) (.tmp 34) rfl _ x HX.out rfl rfl noLain noLain_length (Blk.new _ 107 noLain) ?_); intro w2 K2 T2
               obtain ⟨A2, M2, O2⟩ := HST.out w2 K2 T2
               have hmc : w2.cell? ⟨w.heap.size, t, none⟩ = some (.bool false) := by rw [M2.cell, flags_get _ _ _ hlt, HF.out]
               have HK2 := Lib.hid K2
               have HA2 := Lib.hid A2
               have HM2 := Lib.hid M2
               have HO2 := Lib.hid O2
               clear K2 T2 A2 M2 O2))
          have A3 := HA2.out.touch (Touch.refl (fun _ => False) w2).drew (fun _ _ q => q)
          have K3 : Blk w2.drew wr.heap.size 107 (lain x) := HK2.out
          have hTT := fallen_trk H.out.ok Hp.out (i := t) (by rw [HM.out]; exact hle)
          have hlen : x.1 < (D.fallen p t).T.length := by rw [fallen_length]; exact HX1.out
          have hgs : wr.heap.size ≠ b.s := by have := HI.out.at_.set.lt; omega
          have hms : w.heap.size ≠ b.s := by have := hw0.out b.s (.inr (.inl rfl)); omega
          have hHas : Has w2.drew (some ⟨wr.heap.size, 1, none⟩) x.2 := ⟨HX.out.byte, fun i hi => ⟨wr.heap.size, 1, rfl, blk_range (xs := [.int .i64 (x.1 : Int)]) K3 i _ (cells_get _ _ hi)⟩⟩
          obtain ⟨w4, hcp, K4, T4⟩ := copy_at w2.drew b.s 105 _ (x.1 * 96) x.2 _ cc 96 96 96 A3.set hHas HX.out.len (by rw [rows_length hTT]; omega)
          have A4 := A3.set_mix hTT HX.out HO.out hcl T4 K4
          have L4 := K3.touch T4 hgs
          have M3 : Blk w2.drew w.heap.size 4 (flags f m) := HM2.out
          have HS0 : Hid (w2.drew.cell? ⟨d, 0, none⟩ = some (.slice (some ⟨b.s, 0, none⟩) (D.fallen p t).T.length (D.fallen p t).T.length) ∧ w2.drew.cell? ⟨wr.heap.size, 0, none⟩ = some (.int .i64 (x.1 : Int))) :=
            ⟨A3.head.cell 0, K3.cell 0⟩
          have HS1 : Hid (w4.cell? ⟨d, 0, none⟩ = some (.slice (some ⟨b.s, 0, none⟩) (D.fallen p t).T.length (D.fallen p t).T.length) ∧ w4.cell? ⟨wr.heap.size, 0, none⟩ = some (.int .i64 (x.1 : Int))) :=
            ⟨(T4.cell (p := ⟨d, 0, none⟩) A3.head.lt A3.ds).trans (A3.head.cell 0), L4.cell 0⟩
          have HI4 : Hid (Mid1 d b D p f m w.heap.size w (t + 1) w4) := by
            refine ⟨?_, M3.touch T4 hms, (HO2.out.drew).trans (T4.mono (fun k _ hk => .inr (.inl hk)))⟩
            rw [HS.out, Hp2.out t HF.out rfl]
            exact A4
          clear A3 K3 hTT hgs hms T4 A4 K4 M3 L4 hHas HR HX HX1 HS HI HST HO HXg hmc HK2 HA2 HM2 HO2 hnt
          generalize (D.fallen p t).T.length = n at *
          generalize x.1 = q at *
          have hk0 : (0 : Int) ≤ (q : Int) := by omega
          have hk1 : (q : Int) < (n : Int) := by omega
          have hc0 : (0 : Int) ≤ (cc : Int) := by omega
          have hc9 : (cc : Int) ≤ 96 := by omega
          clear hlen
          generalize wr.heap.size = l at *
          go_region_held3 (fun w' => w'.cell? ⟨d, 0, none⟩ = some (.slice (some ⟨b.s, 0, none⟩) n n) ∧ w'.cell? ⟨l, 0, none⟩ = some (.int .i64 (q : Int))) (first | exact HS0.out | exact HS1.out)
            (first | (refine step_copy rfl (.tmp 59) (.tmp 61) 30 30 rfl (.slice (some ⟨b.s, q * 96, none⟩) cc 96) (.slice (some ⟨l, 1, none⟩) 96 96) rfl rfl _ _ (hcp _) ?_))
          rename_i hHeld
          clear hHeld HS0 HS1 hcp hk0 hk1 hc0 hc9
          go_wp2_with fail
          refine ⟨⟨t + 1, by omega, by go_num, HI4⟩, by simp [intOf]; omega⟩
        · have hnt : ((t : Int) == torn) = false := by simpa using htorn
          go_wp2_with (first
            | (with_reducible refine wpList_alloc_lain (op := ⟨some 10, _, _, _, _, _⟩) rfl rfl ?_)
            | (with_reducible refine wpList_load_lain (op := ⟨some 34, _, _, _, _, _⟩) rfl (.tmp 33) rfl g (t * 97) rfl x HX.out HR.out ?_)
            | ((with_reducible refine wpList_store_lain (op := ⟨none, .store 107 _ _, _, _, _, _⟩) rfl (.tmp 10) (.tmp 34) rfl _ x HX.out rfl rfl noLain noLain_length (Blk.new _ 107 noLain) ?_); intro w2 K2 T2
               obtain ⟨A2, M2, O2⟩ := HST.out w2 K2 T2
               have hmc : w2.cell? ⟨w.heap.size, t, none⟩ = some (.bool false) := by rw [M2.cell, flags_get _ _ _ hlt, HF.out]
               have HK2 := Lib.hid K2
               have HA2 := Lib.hid A2
               have HM2 := Lib.hid M2
               have HO2 := Lib.hid O2
               clear K2 T2 A2 M2 O2))
          have HI4 : Hid (Mid1 d b D p f m w.heap.size w (t + 1) w2) := by
            refine ⟨?_, HM2.out, HO2.out⟩
            rw [HS.out, Hp3.out t HF.out htorn, mix_none, set_get HO.out]
            exact HA2.out
          refine ⟨⟨t + 1, by omega, by go_num, HI4⟩, by simp [intOf]; omega⟩
    · obtain rfl : t = m := by omega
      have HEk := Lib.hid (fallen_trk H.out.ok Hp.out (i := t) (by rw [HM.out]; exact Nat.le_refl _))
      have HEl := Lib.hid (fallen_length D p t)
      have HEo : Hid (∀ k, (∀ x ∈ D.A, x.1 ≠ k) → (D.fallen p t).T[k]? = D.T[k]?) := fun k hk => falls_other k hk t (by rw [HM.out]; exact Nat.le_refl _)
      have HEd : Hid (D.fall p = { D.fallen p t with A := [], left := none, down := false }) := by show D.fall p = _; unfold DS.fall DS.fallen; rw [HM.out]
      have HE0 : Hid (At d b (D.fallen p t) D.seen wr) := HI.out.at_
      have HT0 := Lib.hid HI.out.old
      have hc : wr.cell? ⟨d, 2, none⟩ = some (.slice a0 t c0) := by rw [← Hafl.out]; exact HE0.out.head.cell 2
      have HEA : Hid ((D.fallen p t).A = D.A) := rfl
      clear HI hlt hle Hp Hp1 Hp2 Hp3
      generalize D.fallen p t = E at *
      have HI0 : Hid (Mid2 d b D E w 0 wr) := ⟨⟨D.seen, HE0.out, by rw [DS.seen_length, HEl.out], DS.seen_trk H.out.ok, fun k hk => by
        rw [List.drop_zero] at hk
        rw [HEo.out k hk]
        exact over_other _ _ _ hk⟩, HT0.out⟩
      clear HE0 HT0 HEo
      go_wp2_with fail
      clear hc
      go_loopw [69] (fun i wx => ∃ s : Nat, s ≤ t ∧ i = .int .i64 s ∧ Hid (Mid2 d b D E w s wx)) (fun i _ => t - (intOf i).toNat)
      case atStart => exact ⟨0, by omega, rfl, HI0⟩
      case round =>
        obtain ⟨s, hle, rfl, HI⟩ := hrel
        clear HI0
        obtain ⟨⟨V, A0, hVl, hVt, hVk⟩, O0⟩ := HI.out
        have HA := Lib.hid A0
        have HVl := Lib.hid hVl
        have HVt := Lib.hid hVt
        have HVk := Lib.hid hVk
        have HO := Lib.hid O0
        clear HI A0 hVl hVt hVk O0
        by_cases hlt : s < t
        · obtain ⟨x, hx⟩ := get_of_lt (l := D.A) (n := s) (by rw [HM.out]; exact hlt)
          have hx' := H.out.ok.lay x (mem_of_get hx)
          have own := HA.out.own
          rw [Hafl.out, HEA.out, HM.out] at own
          obtain ⟨g, rfl⟩ := lains_ptr own (by omega)
          have HR := Lib.hid (lains_at (fun x hx => (H.out.ok.lay x hx).2) HM.out own hx)
          have HX := Lib.hid hx'.2
          have HX1 : Hid (x.1 < E.T.length) := by show x.1 < _; rw [HEl.out]; exact hx'.1
          have HD : Hid (D.A.drop s = x :: D.A.drop (s + 1)) := by
            have hl := lt_of_get hx
            show D.A.drop s = _
            rw [List.drop_eq_getElem_cons hl]
            congr 1
            rw [List.getElem?_eq_getElem hl] at hx
            injection hx
          have h0 : (0 : Int) ≤ (s : Int) := by omega
          have h1 : (s : Int) < (t : Int) := by omega
          obtain ⟨o, ho⟩ := get_of_lt (l := E.T) (n := x.1) HX1.out
          have HOo := Lib.hid ho
          clear own hx' hx ho
          go_wp2_with (first
            | (with_reducible refine wpList_alloc_lain (op := ⟨some 12, _, _, _, _, _⟩) rfl rfl ?_)
            | (with_reducible refine wpList_load_lain (op := ⟨some 72, _, _, _, _, _⟩) rfl (.tmp 71) rfl g (s * 97) rfl x HX.out HR.out ?_)
            | ((with_reducible refine wpList_store_lain (op := ⟨none, .store 107 _ _, _, _, _, _⟩) rfl (.tmp 12) (.tmp 72) rfl _ x HX.out rfl rfl noLain noLain_length (Blk.new _ 107 noLain) ?_); intro w2 K2 T2
               have HK2 := Lib.hid K2
               have HT2 := Lib.hid T2
               clear K2 T2))
          have T3 : Old wr w2.drew := (((Touch.refl (fun _ => False) wr).alloc _).own HT2.out (Nat.le_refl _)).drew
          have A3 := HA.out.touch T3 (fun _ _ q => q)
          have K3 : Blk w2.drew wr.heap.size 107 (lain x) := HK2.out
          have hlen : x.1 < E.T.length := HX1.out
          have hot : Trk o := HEk.out o (mem_of_get HOo.out)
          have hgv : wr.heap.size ≠ b.v := by have := HA.out.see.lt; omega
          have T4 : Touch (fun k => k = b.v) w2.drew (w2.drew.setCells b.v (x.1 * 96) (cells o)) := setCells_touch _ _ _ _
          have A4 := A3.see_set HVt.out (k := x.1) (by rw [HVl.out]; exact hlen) hot
          have K4 := K3.touch T4 hgv
          have hth := rows_there HVt.out A3.see (k := x.1) (by rw [HVl.out]; exact hlen)
          have HS0 : Hid (w2.drew.cell? ⟨d, 1, none⟩ = some (.slice (some ⟨b.v, 0, none⟩) E.T.length E.T.length) ∧ w2.drew.cell? ⟨wr.heap.size, 0, none⟩ = some (.int .i64 (x.1 : Int)) ∧ w2.drew.cell? ⟨d, 0, none⟩ = some (.slice (some ⟨b.s, 0, none⟩) E.T.length E.T.length) ∧ w2.drew.rangeAt b.s (x.1 * 96) (cells o) ∧ w2.drew.there b.v (x.1 * 96) 96) :=
            ⟨A3.head.cell 1, K3.cell 0, A3.head.cell 0, rows_at HEk.out A3.set HOo.out, hth⟩
          have HS1 : Hid ((w2.drew.setCells b.v (x.1 * 96) (cells o)).cell? ⟨d, 1, none⟩ = some (.slice (some ⟨b.v, 0, none⟩) E.T.length E.T.length) ∧ (w2.drew.setCells b.v (x.1 * 96) (cells o)).cell? ⟨wr.heap.size, 0, none⟩ = some (.int .i64 (x.1 : Int)) ∧ (w2.drew.setCells b.v (x.1 * 96) (cells o)).cell? ⟨d, 0, none⟩ = some (.slice (some ⟨b.s, 0, none⟩) E.T.length E.T.length) ∧ (w2.drew.setCells b.v (x.1 * 96) (cells o)).rangeAt b.s (x.1 * 96) (cells o) ∧ (w2.drew.setCells b.v (x.1 * 96) (cells o)).there b.v (x.1 * 96) 96) :=
            ⟨A4.head.cell 1, K4.cell 0, A4.head.cell 0, rows_at HEk.out A4.set HOo.out, World.there_setCells hth _ _ _⟩
          have HI4 : Hid (Mid2 d b D E w (s + 1) (w2.drew.setCells b.v (x.1 * 96) (cells o))) := by
            refine ⟨⟨V.set x.1 o, A4, by rw [List.length_set, HVl.out], fun y hy => ?_, fun k hk => ?_⟩, (HO.out.trans (Touch.of_old T3)).trans (T4.mono (fun k _ hk => .inr (.inr (.inl hk))))⟩
            · rcases List.mem_or_eq_of_mem_set hy with h2 | rfl
              · exact HVt.out y h2
              · exact hot
            · by_cases e : x.1 = k
              · subst e
                rw [List.getElem?_set_self (by rw [HVl.out]; exact hlen), HOo.out]
              · rw [List.getElem?_set_ne e]
                refine HVk.out k (fun y hy => ?_)
                rw [HD.out] at hy
                rcases List.mem_cons.1 hy with rfl | h2
                · exact e
                · exact hk y h2
          have hcl6 : (cells o).length = 96 := by rw [cells_length, hot.len]
          have hone := cells_one o
          have hu := Tryz.underlying105
          clear T3 A3 K3 hot hgv T4 A4 K4 hth HR HX HX1 HD HOo HK2 HT2 HA HVl HVt HVk HO
          generalize E.T.length = n at HS0 HS1 hlen ⊢
          generalize cells o = cs at *
          generalize x.1 = q at *
          have hk0 : (0 : Int) ≤ (q : Int) := by omega
          have hk1 : (q : Int) < (n : Int) := by omega
          clear hlen
          have hi : (Tryz.prog.info? 105).map (·.size) = some cs.length := by rw [size105, hcl6]
          generalize wr.heap.size = l at *
          go_region_held3 (fun w' => w'.cell? ⟨d, 1, none⟩ = some (.slice (some ⟨b.v, 0, none⟩) n n) ∧ w'.cell? ⟨l, 0, none⟩ = some (.int .i64 (q : Int)) ∧ w'.cell? ⟨d, 0, none⟩ = some (.slice (some ⟨b.s, 0, none⟩) n n) ∧ w'.rangeAt b.s (q * 96) cs ∧ w'.there b.v (q * 96) 96) (first | exact HS0.out | exact HS1.out) (fail)
          rename_i hHeld
          clear hHeld HS0 HS1 hu hi hcl6 hone hk0 hk1
          generalize w2.drew.setCells b.v (q * 96) cs = w5 at *
          go_wp2_with fail
          refine ⟨⟨s + 1, by omega, by go_num, HI4⟩, by simp [intOf]; omega⟩
        · obtain rfl : s = t := by omega
          have hV : V = E.T := List.ext_getElem? (fun k => HVk.out k (fun y hy => by rw [List.drop_eq_nil_of_le (by rw [HM.out]; exact Nat.le_refl _)] at hy; cases hy))
          subst hV
          have hc2 : wr.cell? ⟨d, 2, none⟩ = some b.afl := HA.out.head.cell 2
          have hf2 : wr.frozen? ⟨d, 2, none⟩ = false := HA.out.head.frozen 2
          have hc4 : wr.cell? ⟨d, 4, none⟩ = some b.well := HA.out.head.cell 4
          have hf4 : wr.frozen? ⟨d, 4, none⟩ = false := HA.out.head.frozen 4
          have hc5 : wr.cell? ⟨d, 5, none⟩ = some (.pointer (some ⟨b.f, 0, none⟩)) := HA.out.head.cell 5
          have hf5 : wr.frozen? ⟨d, 5, none⟩ = false := HA.out.head.frozen 5
          have hlt2 : d < wr.heap.size := HA.out.head.lt
          go_wp2_with fail
          go_end0
          have A7 := (HA.out.afl_set.well_set (.pointer none) none (.inl ⟨rfl, rfl⟩)).flag_new wr.heap.size (by rw [size_set, size_set])
          refine ⟨rfl, { { { b with afl := .slice none 0 0 } with well := .pointer none } with f := wr.heap.size }, ⟨?_, ?_⟩, ?_, ?_⟩
          · exact H.out.ok.fall HP.out
          · have e2 : (D.fall p).seen = (D.fall p).T := rfl
            rw [e2, HEd.out]
            exact A7
          · exact (((HO.out.setCell (p := ⟨d, 2, none⟩) (.inl (.inl rfl)) _).setCell (p := ⟨d, 4, none⟩) (.inl (.inl rfl)) _).setCell (p := ⟨d, 5, none⟩) (.inl (.inl rfl)) _).alloc _
          · rintro k (hk | hk | hk | hk | hk | hk)
            · exact .inl (.inl hk)
            · exact .inl (.inr (.inl hk))
            · exact .inl (.inr (.inr (.inl hk)))
            · right; have := HO.out.size; have hk' : k = wr.heap.size := hk; omega
            · cases hk
            · cases hk
end Go.Proofs.YtjajenkagcdhlaaGreat
