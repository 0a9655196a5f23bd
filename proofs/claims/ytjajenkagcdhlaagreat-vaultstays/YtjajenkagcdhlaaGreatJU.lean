/- For lariatlaw6.VaultUndoes: what Keep leaves. -/
import Derived.Test.YtjajenkagcdhlaaGreatJM
namespace Go.Proofs.YtjajenkagcdhlaaGreat
open Go.RowKit
set_option maxRecDepth 100000

theorem VMap.keepV {m : Nat} {rs : Recs} {w w' : World} (h : VMap m rs w) (k : KeptV w w') : VMap m rs w' := h.keptV k
section
variable {w0 w w' : World} {vp lp d x l h t : Nat} {q : Bool} {P : Hom → Prop} {N : Hom} {rs rk : Recs} {a : Places}
/-- Kept: what is now is what was kept. -/
def Kpt (w0 : World) (vp lp d x l h t : Nat) (rs : Recs) (w : World) : Prop := ∃ t' P N a, t' ≤ t + 1 ∧ Vt w0 vp lp d x l h t' true P N rs rs a w
theorem un_keep {mp : Nat} (V : Vt w0 vp lp d x l h t true P N rs rk a w) (ht : t ≤ 200) (M : VMap mp rs w) : Calls Tryz.prog 13 #[.pointer (some ⟨vp, 0, none⟩)] w fun y w' => VMap mp rs w' ∧ ((y = .returned (.int .i64 0) ∧ Kpt w0 vp lp d x l h t rs w') ∨ (y = .returned (.int .i64 5) ∧ ∃ x', Vt w0 vp lp d x' l h (t + 1) true P N rk rk a w')) := by
  refine (V.keep ht).mono ?_
  rintro y w' (⟨rfl, e, o, V'⟩ | ⟨_, K, ⟨rfl, V'⟩ | ⟨rfl, _, x', V'⟩ | ⟨_, hq, _⟩⟩)
  · subst e
    exact ⟨M.old o, .inl ⟨rfl, t, _, _, _, by omega, V'⟩⟩
  · exact ⟨M.keptV K, .inl ⟨rfl, t + 1, _, _, _, Nat.le_refl _, V'⟩⟩
  · exact ⟨M.keptV K, .inr ⟨rfl, x', V'⟩⟩
  · cases hq
/-- A Keep of nothing. -/
theorem un_none (V : Vt w0 vp lp d x l h t true P N rs rs a w) (ht : t ≤ 200) : Calls Tryz.prog 13 #[.pointer (some ⟨vp, 0, none⟩)] w fun y w' => y = .returned (.int .i64 0) ∧ Old w w' := by
  refine (V.keep ht).mono ?_
  rintro y w' (⟨rfl, e, o, V'⟩ | ⟨hne, _⟩)
  · exact ⟨rfl, o⟩
  · exact absurd (turned_same V.mem.vld) hne
theorem recs_same {rs : Recs} {k : Nat} {r : Rec} (h : rs[k]? = some r) : rs.set k r = rs := by
  apply List.ext_getElem?
  intro i
  by_cases e : k = i
  · subst e
    rw [List.getElem?_set_self (lt_of_get h), h]
  · rw [List.getElem?_set_ne e]
/-- The same bytes again. -/
theorem un_same {mp T : Nat} {ms : Recs} (V : Vt w0 vp lp d x l h t true P N rs rs a w) (M : VMap mp ms w) (hT : TurnsAt d T w) (k : Nat) (h1 : 1 ≤ k) (h40 : k ≤ 40) (p : Option Addr) (b : List Nat) (n c : Nat) (hB : Has w p b) (hn : b.length = n) (hr : rs[k]? = some (some b)) :
    Calls Tryz.prog 21 #[.pointer (some ⟨vp, 0, none⟩), .int .i64 (k : Int), .slice p n c] w fun y w' => y = .returned (.int .i64 0) ∧ Vt w0 vp lp d x l h t true P N rs rs a w' ∧ VMap mp ms w' ∧ TurnsAt d T w' := by
  have hm := (V.mem.rok.ok k b hr).2
  have hfit := V.mem.fit
  refine (V.put k h1 h40 p b n c hB hn (by omega)).mono ?_
  rintro y w' ⟨T', ⟨rfl, hs, _⟩ | ⟨rfl, _, V'⟩⟩
  · rw [recs_same hr] at hs
    omega
  · rw [recs_same hr] at V'
    exact ⟨rfl, V', M.put_ V T', hT.put_ V T'⟩
end
end Go.Proofs.YtjajenkagcdhlaaGreat
/- The walk of lariatlaw6.VaultUndoes. -/
namespace Go.Proofs.YtjajenkagcdhlaaGreat
open Go.RowKit
set_option maxRecDepth 100000

/-- The vault of the first loop: all of it is wanted. -/
def UnA (w0 : World) (vp lp d x mp : Nat) (w : World) : Prop := ∃ rs, Vt w0 vp lp d x 60 58 3 true (fun X => X = home0 58) (home0 58) rs rs0 ps0 w ∧ VMap mp rs w
/-- The vault of the second. -/
def UnB (w0 : World) (vp lp d x mp t : Nat) (P : Hom → Prop) (N : Hom) (a : Places) (rk : Recs) (w : World) : Prop := ∃ rs, Vt w0 vp lp d x 60 58 t true P N rs rk a w ∧ VMap mp rk w
theorem act_bytes {w : World} {r : ActR} (hr : ActIn w r) : ∃ (b : List Nat) (l : Nat), b.length = l ∧ l ≤ 500 ∧ (∀ x ∈ b, x < 256) ∧ ∀ wz, Old w wz → Calls Tryz.prog 18 #[.agg #[.int .i64 r.what, .int .i64 r.id, .int .i64 r.n, .int .i64 r.torn, .int .i64 r.cut, .slice r.ba r.bl r.bc, .slice r.ka r.kl r.kc]] wz fun y w' =>
    ∃ a c, y = .returned (.slice a l c) ∧ l ≤ c ∧ Has w' a b ∧ Old wz w' := by
  refine ⟨bytesM r.id r.n r.bs, _, rfl, bytesM_length _ _ _, bytesM_byte hr.has.byte, fun wz O => ?_⟩
  exact bytes_any r.what r.id r.n r.torn r.cut r.ba r.bs r.bl r.bc r.ka r.kl r.kc wz hr.fn (hr.has.old O) hr.blen hr.bcap hr.bsm
set_option maxHeartbeats 12800000 in
theorem undoes_law (pa pm : Option Addr) (la ca lm cm : Nat) (w : World) (hA : HasA w pa la) (hM : HasA w pm lm) (hla : la ≤ 140737488355328) (hlm : lm ≤ 140737488355328) : Calls Tryz.prog 7 #[.slice pa la ca, .slice pm lm cm] w fun e w' => e = .returned (.bool true) ∧ Below w.heap.size w w' := by
  have HA := Lib.hid hA
  have HM := Lib.hid hM
  have hla' := Lib.hid hla
  have hlm' := Lib.hid hlm
  clear hA hM hla hlm
  go_enter Tryz.func7, Tryz.ntmps7
  go_wp2_with fail
  refine (known_any w).mono ?_
  rintro y w1 ⟨rfl, O1⟩
  have HFo : Hid (Calls Tryz.prog 10 #[.int .i64 120, .int .i64 60] w1 fun y w' => ∃ vp lp d x, y = .returned (.tuple #[.pointer (some ⟨vp, 0, none⟩), .pointer (some ⟨d, 0, none⟩)]) ∧ Vt w vp lp d x 60 58 3 true (fun X => X = home0 58) (home0 58) rs0 rs0 ps0 w' ∧ KeptV w1 w') := lfound_any O1 (n := 120) (l := 60) (h := 58) rfl (by omega) (by omega) (by omega) (by omega)
  clear O1
  go_wp2_with fail
  refine HFo.out.mono ?_
  rintro y w2 ⟨vp, lp, d, x, rfl, V2, _⟩
  have HV2 := Lib.hid V2
  clear V2 HFo
  go_wp2_with fail
  refine (known_any w2).mono ?_
  rintro y w3 ⟨rfl, O3⟩
  have HV3 := Lib.hid (HV2.out.old O3)
  clear O3 HV2
  have hmm := @run_makeMap Tryz.prog
  have HU3 : Hid (UnA w vp lp d x w3.heap.size (w3.alloc (.map #[] 0))) := ⟨rs0, HV3.out.old ((Touch.refl _ _).alloc _), VMap.made w3⟩
  have HMp : Hid (w.heap.size ≤ w3.heap.size) := HV3.out.sail.old0.size
  clear HV3
  go_wp2_with fail
  clear hmm
  generalize w3.alloc (.map #[] 0) = w4 at *
  generalize w3.heap.size = mp at *
  go_loopw [8, 9] (fun iv _ wx => ∃ i : Nat, i ≤ 12 ∧ iv = .int .i64 (i : Int) ∧ Hid (UnA w vp lp d x mp wx)) (fun iv _ _ => 12 - (intOf iv).toNat)
  case atStart => exact ⟨0, by omega, rfl, HU3⟩
  case round =>
    obtain ⟨i, hi12, rfl, HU⟩ := hrel
    clear HU3
    obtain ⟨go, hgo⟩ : ∃ go, decide (i < la ∧ i < 12) = go := ⟨_, rfl⟩
    go_upto_region 8 with fail
    go_cut [41] (fun v wx => v = .bool go ∧ wx = wr)
    case first =>
      by_cases h1 : i < la
      · have i1 : (i : Int) < (la : Int) := by omega
        by_cases h2 : i < 12
        · have i2 : (i : Int) < 12 := by omega
          have e : go = true := by rw [← hgo]; exact decide_eq_true ⟨h1, h2⟩
          subst e
          clear hgo
          go_wp2_with fail
          go_meet
          exact ⟨rfl, rfl⟩
        · have i2 : ¬ (i : Int) < 12 := by omega
          have e : go = false := by rw [← hgo]; exact decide_eq_false (fun q => h2 q.2)
          subst e
          clear hgo
          go_wp2_with fail
          go_meet
          exact ⟨rfl, rfl⟩
      · have i1 : ¬ (i : Int) < (la : Int) := by omega
        have e : go = false := by rw [← hgo]; exact decide_eq_false (fun q => h1 q.1)
        subst e
        clear hgo
        go_wp2_with fail
        go_meet
        exact ⟨rfl, rfl⟩
    case rest =>
      obtain ⟨rfl, rfl⟩ := hcut
      cases go with
      | true =>
        obtain ⟨h1, h2⟩ := of_decide_eq_true hgo
        clear hgo
        obtain ⟨rs, V, M⟩ := HU.out
        obtain ⟨ba, oa, r, rfl, hc0, hin⟩ := HA.out i h1
        have HOw := Lib.hid V.sail.old0
        have hc := hc0.old V.sail.old0
        have HC := Lib.hid hc0
        have c0 := hc.c0
        have c1 := hc.c1
        have c2 := hc.c2
        have c3 := hc.c3
        have c4 := hc.c4
        have c5 := hc.c5
        have c6 := hc.c6
        obtain ⟨B, l, hBl, hl500, hB256, hBy⟩ := act_bytes hin
        have HBy := Lib.hid hBy
        have HPk := Lib.hid (pick_at r.id 9 (by decide) (by decide))
        have hp9 := pickN_lt (n := r.id) (m := 9) (by decide)
        generalize pickN r.id 9 = p at *
        obtain ⟨id, hid⟩ : ∃ id, 1 + p = id := ⟨_, rfl⟩
        have hwid : IntKind.i64.wrap (1 + (p : Int)) = (id : Int) := wrap_fits' (by omega) ⟨by omega, by omega⟩
        have i0 : (0 : Int) ≤ (i : Int) := by omega
        have i1 : (i : Int) < (la : Int) := by omega
        have hwi : IntKind.i64.wrap ((i : Int) + 1) = (i : Int) + 1 := wrap_fits ⟨by omega, by omega⟩
        have HV := Lib.hid V
        have HMm := Lib.hid M
        have HBl := Lib.hid hBl
        have HB2 := Lib.hid hB256
        have hid1 : 1 ≤ id ∧ id ≤ 9 := by omega
        clear V M hin hBy hBl hB256 hid hc hc0 HU
        go_wp2_with (first | ((with_reducible refine (HPk.out _).mono ?_); rintro y w' ⟨rfl, rfl⟩))
        refine (HBy.out wc HOw.out).mono ?_
        rintro y w5 ⟨a5, b5, rfl, hb5, Hh5, O5⟩
        have HP := Lib.hid ((HV.out.old O5).put id (by omega) (by omega) a5 B l b5 Hh5 HBl.out (by omega))
        have HM5 := Lib.hid (HMm.out.old O5)
        have HO5 := Lib.hid O5
        have HV5 := Lib.hid (HV.out.old O5)
        clear Hh5 O5 hb5
        go_wp2_with fail
        refine HP.out.mono ?_
        rintro y w6 ⟨T6, ⟨rfl, _, V6⟩ | ⟨rfl, _, V6⟩⟩
        · have HN : Hid (UnA w vp lp d x mp w6) := ⟨rs, V6, HM5.out.put_ HV5.out T6⟩
          clear T6 V6 HP
          go_wp2_with fail
          exact ⟨⟨i + 1, by omega, by go_num, HN⟩, by simp [intOf]; omega⟩
        · have O6 : Old w w6 := old_put HV5.out HV5.out.sail.old0 T6
          have M6 := HM5.out.put_ HV5.out T6
          have hc6 := HC.out.old O6
          have c0' := hc6.c0
          have c1' := hc6.c1
          have c2' := hc6.c2
          have c3' := hc6.c3
          have c4' := hc6.c4
          have c5' := hc6.c5
          have c6' := hc6.c6
          have HV6 := Lib.hid V6
          have HM6 := Lib.hid M6
          have HO6 := Lib.hid O6
          clear T6 V6 M6 O6 HP hc6 HV5 HM5 HO5 HV HMm HOw c0 c1 c2 c3 c4 c5 c6
          go_wp2_with fail
          refine (HBy.out w6 HO6.out).mono ?_
          rintro y w7 ⟨a7, b7, rfl, hb7, Hh7, O7⟩
          have hst := str_any w7 a7 B l b7 Hh7 HBl.out
          obtain ⟨w8, hput, M8, T8⟩ := (HM6.out.old O7).put (k := id) (by omega) (b := B) (by rw [HBl.out]; omega)
          have HN : Hid (UnA w vp lp d x mp w8) := ⟨_, (HV6.out.old O7).map ((HM6.out.old O7).turn T8) HMp.out, M8⟩
          clear Hh7 O7 hb7 M8 T8 HV6 HM6 HO6 c0' c1' c2' c3' c4' c5' c6'
          go_wp2_with fail
          exact ⟨⟨i + 1, by omega, by go_num, HN⟩, by simp [intOf]; omega⟩
      | false =>
        clear hgo
        obtain ⟨rs, V, M⟩ := HU.out
        have HKe := Lib.hid (un_keep V (by omega) M)
        have HRk := Lib.hid V.mem.vld.rsOk
        have HRs := Lib.hid V.mem.rok
        clear V M HU
        go_wp2_with fail
        refine HKe.out.mono ?_
        rintro y w5 ⟨M5, ⟨rfl, K5⟩ | ⟨rfl, x', V5⟩⟩
        · obtain ⟨t, P, N, a, ht, V5⟩ := K5
          have H0 : Hid (UnB w vp lp d x mp t P N a rs w5) := ⟨rs, V5, M5⟩
          clear V5 M5 HKe
          go_wp2_with fail
          go_loopw [11, 12] (fun iv _ wx => ∃ i : Nat, i ≤ 12 ∧ iv = .int .i64 (i : Int) ∧ Hid (UnB w vp lp d x mp t P N a rs wx)) (fun iv _ _ => 12 - (intOf iv).toNat)
          case atStart => exact ⟨0, by omega, rfl, H0⟩
          case round =>
            obtain ⟨j, hj12, rfl, HU⟩ := hrel
            clear H0
            obtain ⟨go, hgo⟩ : ∃ go, decide (j < lm ∧ j < 12) = go := ⟨_, rfl⟩
            go_upto_region 17 with fail
            go_cut [86] (fun v wx => v = .bool go ∧ wx = wr)
            case first =>
              by_cases h1 : j < lm
              · have i1 : (j : Int) < (lm : Int) := by omega
                by_cases h2 : j < 12
                · have i2 : (j : Int) < 12 := by omega
                  have e : go = true := by rw [← hgo]; exact decide_eq_true ⟨h1, h2⟩
                  subst e
                  clear hgo
                  go_wp2_with fail
                  go_meet
                  exact ⟨rfl, rfl⟩
                · have i2 : ¬ (j : Int) < 12 := by omega
                  have e : go = false := by rw [← hgo]; exact decide_eq_false (fun q => h2 q.2)
                  subst e
                  clear hgo
                  go_wp2_with fail
                  go_meet
                  exact ⟨rfl, rfl⟩
              · have i1 : ¬ (j : Int) < (lm : Int) := by omega
                have e : go = false := by rw [← hgo]; exact decide_eq_false (fun q => h1 q.1)
                subst e
                clear hgo
                go_wp2_with fail
                go_meet
                exact ⟨rfl, rfl⟩
            case rest =>
              obtain ⟨rfl, rfl⟩ := hcut
              cases go with
              | true =>
                obtain ⟨h1, h2⟩ := of_decide_eq_true hgo
                clear hgo
                obtain ⟨rs', V, M⟩ := HU.out
                obtain ⟨ba, oa, r, rfl, hc0, hin⟩ := HM.out j h1
                have HOw := Lib.hid V.sail.old0
                have hc := hc0.old V.sail.old0
                have HC := Lib.hid hc0
                have c0 := hc.c0
                have c1 := hc.c1
                have c2 := hc.c2
                have c3 := hc.c3
                have c4 := hc.c4
                have c5 := hc.c5
                have c6 := hc.c6
                obtain ⟨B, l, hBl, hl500, hB256, hBy⟩ := act_bytes hin
                have HBy := Lib.hid hBy
                have HPk := Lib.hid (pick_at r.id 9 (by decide) (by decide))
                have hp9 := pickN_lt (n := r.id) (m := 9) (by decide)
                generalize pickN r.id 9 = pk at *
                obtain ⟨id, hid⟩ : ∃ id, 1 + pk = id := ⟨_, rfl⟩
                have hwid : IntKind.i64.wrap (1 + (pk : Int)) = (id : Int) := wrap_fits' (by omega) ⟨by omega, by omega⟩
                have i0 : (0 : Int) ≤ (j : Int) := by omega
                have i1 : (j : Int) < (lm : Int) := by omega
                have hwi : IntKind.i64.wrap ((j : Int) + 1) = (j : Int) + 1 := wrap_fits ⟨by omega, by omega⟩
                have HV := Lib.hid V
                have HMm := Lib.hid M
                have HBl := Lib.hid hBl
                have hid1 : 1 ≤ id ∧ id ≤ 9 := by omega
                clear V M hin hBy hBl hB256 hid hc hc0 HU
                by_cases h3 : r.what.tmod 3 = 0
                · obtain ⟨r0, hr0⟩ := get_of_lt (l := rs') (n := id) (by rw [HV.out.mem.rok.r41]; omega)
                  have HDr := Lib.hid (HV.out.drop id (by omega) (by omega) r0 hr0)
                  clear hr0
                  go_wp2_with (first | ((with_reducible refine (HPk.out _).mono ?_); rintro y w' ⟨rfl, rfl⟩))
                  refine HDr.out.mono ?_
                  rintro y w6 ⟨rfl, V6, T6⟩
                  have HN : Hid (UnB w vp lp d x mp t P N a rs w6) := ⟨_, V6, HMm.out.put_ HV.out T6⟩
                  clear V6 T6 HDr
                  go_wp2_with fail
                  exact ⟨⟨j + 1, by omega, by go_num, HN⟩, by simp [intOf]; omega⟩
                · go_wp2_with (first | ((with_reducible refine (HPk.out _).mono ?_); rintro y w' ⟨rfl, rfl⟩))
                  refine (HBy.out wc HOw.out).mono ?_
                  rintro y w5 ⟨a5, b5, rfl, hb5, Hh5, O5⟩
                  have HP := Lib.hid ((HV.out.old O5).put id (by omega) (by omega) a5 B l b5 Hh5 HBl.out (by omega))
                  have HM5 := Lib.hid (HMm.out.old O5)
                  have HV5 := Lib.hid (HV.out.old O5)
                  clear Hh5 O5 hb5
                  go_wp2_with fail
                  refine HP.out.mono ?_
                  rintro y w6 ⟨T6, ⟨rfl, _, V6⟩ | ⟨rfl, _, V6⟩⟩
                  · have HN : Hid (UnB w vp lp d x mp t P N a rs w6) := ⟨_, V6, HM5.out.put_ HV5.out T6⟩
                    clear T6 V6 HP
                    go_wp2_with fail
                    exact ⟨⟨j + 1, by omega, by go_num, HN⟩, by simp [intOf]; omega⟩
                  · have HN : Hid (UnB w vp lp d x mp t P N a rs w6) := ⟨_, V6, HM5.out.put_ HV5.out T6⟩
                    clear T6 V6 HP
                    go_wp2_with fail
                    exact ⟨⟨j + 1, by omega, by go_num, HN⟩, by simp [intOf]; omega⟩
              | false =>
                clear hgo
                obtain ⟨rs', V, M⟩ := HU.out
                have HUn := Lib.hid V.undo
                have HV := Lib.hid V
                have HMm := Lib.hid M
                clear V M HU
                go_wp2_with fail
                refine HUn.out.mono ?_
                rintro y w6 ⟨rfl, x6, V6, T6⟩
                have M6 := HMm.out.put_ HV.out (T6.mono fun _ _ q => .inl q)
                have HI := Lib.hid (is_any V6 M6 V6.mem.rok)
                have HV6 := Lib.hid V6
                have HM6 := Lib.hid M6
                clear V6 M6 T6 HUn HV HMm
                go_wp2_with fail
                refine HI.out.mono ?_
                rintro y w7 ⟨c, rfl, hc, O7⟩
                obtain rfl : c = true := by simpa using hc
                obtain ⟨T, hT⟩ := (HV6.out.old O7).turnsAt
                have HT := Lib.hid hT
                have HTu := Lib.hid hT.turns
                have H7 : Hid (Vt w vp lp d x6 60 58 t true P N rs rs a w7 ∧ VMap mp rs w7 ∧ TurnsAt d T w7) := ⟨HV6.out.old O7, HM6.out.old O7, hT⟩
                clear O7 hc HI HV6 HM6 hT HT
                go_wp2_with fail
                refine HTu.out.mono ?_
                rintro y w' ⟨rfl, rfl⟩
                clear HTu
                go_wp2_with fail
                go_loopw [14, 15, 16] (fun kv _ _ wx => ∃ k : Nat, 1 ≤ k ∧ k ≤ 10 ∧ kv = .int .i64 (k : Int) ∧ Hid (Vt w vp lp d x6 60 58 t true P N rs rs a wx ∧ VMap mp rs wx ∧ TurnsAt d T wx)) (fun kv _ _ _ => 10 - (intOf kv).toNat)
                case atStart => exact ⟨1, by omega, by omega, rfl, H7⟩
                case round =>
                  obtain ⟨k, hk1, hk10, rfl, HQ⟩ := hrel
                  clear H7
                  by_cases hlt : k < 10
                  · have i1 : (k : Int) ≤ 9 := by omega
                    have hlo := HQ.out.2.1.look (k := k) (by omega)
                    have hwk : IntKind.i64.wrap ((k : Int) + 1) = (k : Int) + 1 := wrap_fits ⟨by omega, by omega⟩
                    cases hr : rs.getD k none with
                    | none =>
                      rw [hr] at hlo
                      simp only [Option.isSome_none] at hlo
                      clear hr
                      go_wp2_with fail
                      exact ⟨⟨k + 1, by omega, by omega, by go_num, HQ⟩, by simp [intOf]; omega⟩
                    | some b =>
                      rw [hr] at hlo
                      simp only [Option.isSome_some] at hlo
                      have hrk := getD_some hr
                      have eb : bytesOf (some b) = b := rfl
                      rw [eb] at hlo
                      obtain ⟨c8, w8, hcv, hc8, Hh8, O8⟩ := bytes_of wr b (HRs.out.ok k b hrk).1
                      have HP8 := Lib.hid (un_same (HQ.out.1.old O8) (HQ.out.2.1.old O8) (HQ.out.2.2.old O8) k hk1 (by omega) _ b b.length c8 Hh8 rfl hrk)
                      clear hr hrk eb Hh8 O8 hc8 HQ
                      go_wp2_with fail
                      refine HP8.out.mono ?_
                      rintro y w9 ⟨rfl, hQ9⟩
                      have HQ9 := Lib.hid hQ9
                      clear hQ9 HP8
                      go_wp2_with fail
                      exact ⟨⟨k + 1, by omega, by omega, by go_num, HQ9⟩, by simp [intOf]; omega⟩
                  · obtain rfl : k = 10 := by omega
                    rw [show ((10 : Nat) : Int) = 10 from rfl]
                    have HKe := Lib.hid (un_none HQ.out.1 (by omega))
                    go_wp2_with fail
                    refine HKe.out.mono ?_
                    rintro y w8 ⟨rfl, O8⟩
                    have HQ8 : Hid (Vt w vp lp d x6 60 58 t true P N rs rs a w8 ∧ VMap mp rs w8 ∧ TurnsAt d T w8) := ⟨HQ.out.1.old O8, HQ.out.2.1.old O8, HQ.out.2.2.old O8⟩
                    have HTu := Lib.hid HQ8.out.2.2.turns
                    have HI := Lib.hid (is_any HQ8.out.1 HQ8.out.2.1 HQ8.out.1.mem.rok)
                    have HO := Lib.hid HQ8.out.1.sail.old0
                    clear O8 HQ HKe HQ8
                    go_wp2_with fail
                    refine HTu.out.mono ?_
                    rintro y w' ⟨rfl, rfl⟩
                    go_wp2_with fail
                    refine HI.out.mono ?_
                    rintro y w9 ⟨c, rfl, hc, O9⟩
                    obtain rfl : c = true := by simpa using hc
                    have HO9 := Lib.hid (HO.out.trans O9)
                    clear O9 hc HO HI
                    go_wp2_with fail
                    go_ret
                    exact ⟨rfl, HO9.out.below (Nat.le_refl _) (fun _ _ q => q)⟩
        · have hmm := @run_makeMap Tryz.prog
          have O6 : Old w5 (w5.alloc (.map #[] 0)) := (Touch.refl _ _).alloc _
          have HI := Lib.hid (is_any (V5.old O6) (VMap.made w5) HRk.out)
          have HO := Lib.hid ((V5.old O6).sail.old0)
          clear V5 M5 O6 HKe
          go_wp2_with fail
          refine HI.out.mono ?_
          rintro y w6 ⟨c, rfl, hc, O6⟩
          obtain rfl : c = true := by simpa using hc
          have HO6 := Lib.hid (HO.out.trans O6)
          clear O6 hc hmm HO HI
          go_wp2_with fail
          go_ret
          exact ⟨rfl, HO6.out.below (Nat.le_refl _) (fun _ _ q => q)⟩
end Go.Proofs.YtjajenkagcdhlaaGreat
/- For lariatlaw6.VaultActs: a vault and its two maps. -/
namespace Go.Proofs.YtjajenkagcdhlaaGreat
open Go.RowKit
set_option maxRecDepth 100000

theorem wpList_delete_run {ops : Array Oper} {rest : List Oper} {o : Oper} {a : Act} {w : World} {Q : Exit → Act → World → Prop} (hgd : o.guard = none) (s x : Operand) (t tx : TypeId)
    (ho : o.op = .call { callee := .builtin .delete, args := #[s, x], argTypes := #[t, tx] }) (v u : Value) (hs : a.eval s = v) (hx : a.eval x = u) (v' : Value) (w' : World)
    (hr : (Builtin.delete_ #[t, tx] o.type #[v, u]).run Tryz.prog w = .ok v' w') (h : wpList Tryz.prog ops Q rest (a.put o.dst v') w') : wpList Tryz.prog ops Q (o :: rest) a w := by
  refine wpList_plain hgd fun K hK => ?_
  unfold Oper.wp execOp
  simp only [ho, resolve, invoke, builtin, Sem.run_bind, Sem.run_pure, Result.andThen_ok, List.map_toArray, List.map_cons, List.map_nil, hs, hx, hr]
  exact hK _ _ h
/-- The vault, what it should hold, and what was kept. -/
structure AcAt (w0 : World) (d h i vp mp kp lp x t : Nat) (P : Hom → Prop) (N : Hom) (a : Places) (rs rk : Recs) (w : World) : Prop where
  le : t ≤ 3 + i
  v : Vt w0 vp lp d x 34 h t true P N rs rk a w
  m : VMap mp rs w
  k : VMap kp rk w
  nm : w0.heap.size ≤ mp
  nk : w0.heap.size ≤ kp
  ne : mp ≠ kp
def Ac (w0 : World) (d h i vp mp kp : Nat) (w : World) : Prop := ∃ lp x t P N a rs rk, AcAt w0 d h i vp mp kp lp x t P N a rs rk w
/-- What is now was kept; one map of it. -/
def AcN (w0 : World) (d h i vp mp : Nat) (w : World) : Prop := ∃ lp x t P N a rs, t ≤ 3 + i ∧ Vt w0 vp lp d x 34 h t true P N rs rs a w ∧ VMap mp rs w ∧ w0.heap.size ≤ mp
section
variable {w0 w w' : World} {d h i vp mp kp lp x t : Nat} {P : Hom → Prop} {N : Hom} {a : Places} {rs rk : Recs} {B : List Nat}
theorem Ac.old (A : Ac w0 d h i vp mp kp w) (o : Old w w') : Ac w0 d h i vp mp kp w' := by
  obtain ⟨lp, x, t, P, N, a, rs, rk, A⟩ := A
  exact ⟨lp, x, t, P, N, a, rs, rk, A.le, A.v.old o, A.m.old o, A.k.old o, A.nm, A.nk, A.ne⟩
theorem Ac.more (A : Ac w0 d h i vp mp kp w) : Ac w0 d h (i + 1) vp mp kp w := by
  obtain ⟨lp, x, t, P, N, a, rs, rk, A⟩ := A
  exact ⟨lp, x, t, P, N, a, rs, rk, by have := A.le; omega, A.v, A.m, A.k, A.nm, A.nk, A.ne⟩
theorem Ac.old0 (A : Ac w0 d h i vp mp kp w) : Old w0 w := by
  obtain ⟨lp, x, t, P, N, a, rs, rk, A⟩ := A
  exact A.v.sail.old0
theorem AcN.copy (A : AcN w0 d h i vp mp w) : Calls Tryz.prog 14 #[.map (some mp)] w fun y w' => ∃ mo, y = .returned (.map (some mo)) ∧ Ac w0 d h i vp mp mo w' ∧ Ac w0 d h i vp mo mp w' := by
  obtain ⟨lp, x, t, P, N, a, rs, ht, V, M, hn⟩ := A
  refine (copied_any w M V.mem.rok).mono ?_
  rintro y w' ⟨mo, rfl, hmo, M', O⟩
  have h1 := M.lt
  have h2 : w0.heap.size ≤ w.heap.size := V.sail.old0.size
  exact ⟨mo, rfl, ⟨lp, x, t, P, N, a, rs, rs, ht, V.old O, M.old O, M', hn, by omega, by omega⟩, ⟨lp, x, t, P, N, a, rs, rs, ht, V.old O, M', M.old O, by omega, hn, by omega⟩⟩
theorem Ac.keep (A : Ac w0 d h i vp mp kp w) (hi : i ≤ 100) : Calls Tryz.prog 13 #[.pointer (some ⟨vp, 0, none⟩)] w fun y w' => (y = .returned (.int .i64 0) ∧ AcN w0 d h (i + 1) vp mp w') ∨ (y = .returned (.int .i64 5) ∧ AcN w0 d h (i + 1) vp kp w') := by
  obtain ⟨lp, x, t, P, N, a, rs, rk, A⟩ := A
  have ht := A.le
  refine (A.v.keep (by omega)).mono ?_
  rintro y w' (⟨rfl, e, o, V'⟩ | ⟨_, K, ⟨rfl, V'⟩ | ⟨rfl, _, x', V'⟩ | ⟨_, hq, _⟩⟩)
  · subst e
    exact .inl ⟨rfl, lp, x, t, _, _, _, _, by omega, V', A.m.old o, A.nm⟩
  · exact .inl ⟨rfl, lp, x, t + 1, _, _, _, _, by omega, V', A.m.keptV K, A.nm⟩
  · exact .inr ⟨rfl, lp, x', t + 1, _, _, _, _, by omega, V', A.k.keptV K, A.nk⟩
  · cases hq
theorem Ac.undo (A : Ac w0 d h i vp mp kp w) : Calls Tryz.prog 15 #[.pointer (some ⟨vp, 0, none⟩)] w fun y w' => y = .returned (.tuple #[]) ∧ AcN w0 d h i vp kp w' := by
  obtain ⟨lp, x, t, P, N, a, rs, rk, A⟩ := A
  refine A.v.undo.mono ?_
  rintro y w' ⟨rfl, x', V', T⟩
  exact ⟨rfl, lp, x', t, P, N, a, rk, A.le, V', A.k.put_ A.v (T.mono fun _ _ q => .inl q), A.nk⟩
theorem Ac.settle (A : Ac w0 d h i vp mp kp w) (hi : i ≤ 100) : Calls Tryz.prog 16 #[.pointer (some ⟨vp, 0, none⟩)] w fun y w' => y = .returned (.int .i64 0) ∧ Ac w0 d h (i + 1) vp mp kp w' := by
  obtain ⟨lp, x, t, P, N, a, rs, rk, A⟩ := A
  have ht := A.le
  refine (A.v.settle (by omega)).mono ?_
  rintro y w' ⟨K, ⟨rfl, V'⟩ | ⟨_, hq, _⟩⟩
  · exact ⟨rfl, lp, x, t + 1, _, N, a, rs, rk, by omega, V', A.m.keptV K, A.k.keptV K, A.nm, A.nk, A.ne⟩
  · cases hq
theorem Ac.open_ (A : Ac w0 d h i vp mp kp w) (hi : i ≤ 100) (h0 : 0 < h) : Calls Tryz.prog 17 #[.pointer (some ⟨d, 0, none⟩)] w fun y w' => ∃ vp', y = .returned (.tuple #[.pointer (some ⟨vp', 0, none⟩), .int .i64 0]) ∧ AcN w0 d h (i + 1) vp' kp w' := by
  obtain ⟨lp, x, t, P, N, a, rs, rk, A⟩ := A
  have ht := A.le
  refine (A.v.open_ (by omega) h0).mono ?_
  rintro y w' ⟨vp', lp', x', rfl, V', K⟩
  exact ⟨vp', rfl, lp', x', t + 1, _, N, a, rk, by omega, V', A.k.keptV K, A.nk⟩
theorem recs_none {rs : Recs} {k : Nat} (h : rs.getD k none = none) : rs.set k none = rs := by
  apply List.ext_getElem?
  intro i
  by_cases e : k = i
  · subst e
    rw [List.getD_eq_getElem?_getD] at h
    rw [List.getElem?_set]
    cases hq : rs[k]? with
    | none => rw [if_pos rfl, if_neg (by rw [List.getElem?_eq_none_iff] at hq; omega)]
    | some r =>
      rw [hq] at h
      have h : r = none := h
      rw [if_pos rfl, if_pos (lt_of_get hq), h]
  · rw [List.getElem?_set_ne e]
/-- Drop, and what is deleted behind it. -/
theorem AcAt.drop (A : AcAt w0 d h i vp mp kp lp x t P N a rs rk w) (id : Nat) (hid : id ≤ 42) : Calls Tryz.prog 12 #[.pointer (some ⟨vp, 0, none⟩), .int .i64 (id : Int)] w fun y w' => y = .returned (.bool (rs.getD id none).isSome) ∧
    ∃ w2, (∀ ty, (Builtin.delete_ #[29, 3] ty #[.map (some mp), .int .i64 (id : Int)]).run Tryz.prog w' = .ok (.tuple #[]) w2) ∧ Ac w0 d h i vp mp kp w2 := by
  have hrok := A.v.mem.rok
  have go : ∀ w', Vt w0 vp lp d x 34 h t true P N (rs.set id none) rk a w' → Touch (fun i => i = vp ∨ i = x) w w' → ∃ w2, (∀ ty, (Builtin.delete_ #[29, 3] ty #[.map (some mp), .int .i64 (id : Int)]).run Tryz.prog w' = .ok (.tuple #[]) w2) ∧ Ac w0 d h i vp mp kp w2 := fun w' V' T => by
    have M' := A.m.put_ A.v T
    have K' := A.k.put_ A.v T
    obtain ⟨w2, hrun, M2, T2⟩ := M'.drop (k := id) (by omega) 0
    have tr := M'.turn T2
    refine ⟨w2, fun ty => ?_, lp, x, t, P, N, a, _, rk, A.le, V'.map tr A.nm, M2, K'.aside tr A.ne.symm, A.nm, A.nk, A.ne⟩
    obtain ⟨w3, hrun3, _⟩ := M'.drop (k := id) (by omega) ty
    have e : (Builtin.delete_ #[29, 3] ty #[.map (some mp), .int .i64 (id : Int)]) = (Builtin.delete_ #[29, 3] 0 #[.map (some mp), .int .i64 (id : Int)]) := rfl
    rw [e]
    exact hrun
  by_cases hv : 1 ≤ id ∧ id ≤ 40
  · obtain ⟨r, hr⟩ := get_of_lt (l := rs) (n := id) (by rw [hrok.r41]; omega)
    rw [getD_of hr]
    refine (A.v.drop id hv.1 hv.2 r hr).mono ?_
    rintro y w' ⟨rfl, V', T⟩
    exact ⟨rfl, go w' V' T⟩
  · have hg : rs.getD id none = none := by
      by_cases e : id = 0
      · subst e
        exact hrok.get0
      · rw [List.getD_eq_getElem?_getD, List.getElem?_eq_none (by rw [hrok.r41]; omega)]
        rfl
    rw [hg]
    refine (vdrop_no w (id : Int) (decide_eq_false (by omega))).mono ?_
    rintro y w' ⟨rfl, rfl⟩
    exact ⟨rfl, go w (by rw [recs_none hg]; exact A.v) (Touch.refl _ _)⟩
/-- Put, of what is put again behind it into the map of what should be. -/
theorem AcAt.put (A : AcAt w0 d h i vp mp kp lp x t P N a rs rk w) (np id : Nat) (M : VMap np (rs.set id (some B)) w) (hn : w0.heap.size ≤ np) (hk : np ≠ kp) (h1 : 1 ≤ id) (h40 : id ≤ 40) (p : Option Addr) (l c : Nat) (hB : Has w p B) (hl : B.length = l) (hm : l ≤ 500) :
    Calls Tryz.prog 21 #[.pointer (some ⟨vp, 0, none⟩), .int .i64 (id : Int), .slice p l c] w fun y w' =>
      (h < 1 + sumT (rs.set id (some B)) ∧ y = .returned (.int .i64 3) ∧ Ac w0 d h i vp mp kp w') ∨ (1 + sumT (rs.set id (some B)) ≤ h ∧ y = .returned (.int .i64 0) ∧ Ac w0 d h i vp np kp w') := by
  refine (A.v.put id h1 h40 p B l c hB hl (by omega)).mono ?_
  rintro y w' ⟨T, ⟨rfl, hs, V'⟩ | ⟨rfl, hs, V'⟩⟩
  · exact .inl ⟨by omega, rfl, lp, x, t, P, N, a, rs, rk, A.le, V', A.m.put_ A.v T, A.k.put_ A.v T, A.nm, A.nk, A.ne⟩
  · exact .inr ⟨by omega, rfl, lp, x, t, P, N, a, _, rk, A.le, V', M.put_ A.v T, A.k.put_ A.v T, hn, A.nk, hk⟩
end
end Go.Proofs.YtjajenkagcdhlaaGreat
