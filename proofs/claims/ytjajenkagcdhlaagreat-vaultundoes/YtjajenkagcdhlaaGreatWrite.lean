/- The contracts of a ledger's Write, Settle, Balance, Look. -/
import Derived.Test.YtjajenkagcdhlaaGreatPostW
namespace Go.Proofs.YtjajenkagcdhlaaGreat
open Go.RowKit
set_option maxRecDepth 100000

theorem heed_any {w0 : Fr} {w : World} {l d g : Nat} {b : Bl} {L : LS} (h : LAt w0 l d b g L w) : Calls Tryz.prog 74 #[.pointer (some ⟨l, 0, none⟩), .int .i64 (L.D.bad : Int)] w fun x w' => x = .returned (.int .i64 (L.D.bad : Int)) ∧ NextL w0 l d g L.heed w w' := by
  cases hd : L.D.down with
  | true =>
    rw [bad_down hd]
    refine (heed_down h.head).mono ?_
    rintro x w' ⟨rfl, hb, T⟩
    refine ⟨rfl, ⟨b, ?_⟩, KeptL.of_touch h.head (.inl rfl) T, T.size⟩
    unfold LS.heed
    rw [hd, if_pos rfl]
    exact h.head_set rfl rfl hb T
  | false =>
    rw [bad_up hd]
    refine (heed_up 0 (by decide)).mono ?_
    rintro x w' ⟨rfl, rfl⟩
    refine ⟨rfl, ?_⟩
    unfold LS.heed
    rw [hd, if_neg (by simp)]
    exact h.same

section
variable {w0 : Fr} {w : World} {l d g : Nat} {b : Bl} {L : LS}

theorem lsettle_any (h : LAt w0 l d b g L w) (ht : L.D.turns ≤ 90000) : Calls Tryz.prog 46 #[.pointer (some ⟨l, 0, none⟩)] w fun x w' => x = .returned (.int .i64 (L.settleE : Int)) ∧ NextL w0 l d g L.settle w w' := by
  have hc0 : w.cell? ⟨l, 0, none⟩ = some (.pointer (some ⟨d, 0, none⟩)) := h.head.cell 0
  have hc6 : w.cell? ⟨l, 6, none⟩ = some (.bool L.lost) := h.head.cell 6
  have H := Lib.hid h
  cases hlost : L.lost with
  | true =>
    rw [hlost] at hc6
    have HE : Hid (L.settleE = 4) := by show _ = _; unfold LS.settleE; rw [hlost]; rfl
    have HS : Hid (L.settle = L) := by show _ = _; unfold LS.settle; rw [hlost]; rfl
    rw [HE.out, HS.out]
    clear h hlost HE HS
    go_enter Tryz.func46, Tryz.ntmps46
    go_wp2_with fail
    go_ret
    exact ⟨rfl, H.out.same⟩
  | false =>
    rw [hlost] at hc6
    have HE : Hid (L.settleE = (L.D.step .settle).bad) := by show _ = _; unfold LS.settleE; rw [hlost]; rfl
    have HS : Hid (L.settle = { L with D := L.D.step .settle : LS }.heed) := by show _ = _; unfold LS.settle; rw [hlost]; rfl
    rw [HE.out, HS.out]
    clear h hlost HE HS
    go_enter Tryz.func46, Tryz.ntmps46
    go_wp2_with fail
    refine (settle_turn H.out.st (by omega)).mono ?_
    rintro x w1 ⟨rfl, N1⟩
    have HN1 := Lib.hid (H.out.nextL N1)
    obtain ⟨b1, A1⟩ := HN1.out.1
    have HH := Lib.hid (heed_any A1)
    clear N1 A1 hc0 hc6
    go_wp2_with fail
    refine HH.out.mono ?_
    rintro x w2 ⟨rfl, N2⟩
    have HN2 := Lib.hid (HN1.out.trans N2)
    clear N2 HH
    go_wp2_with fail
    go_ret
    exact ⟨rfl, HN2.out⟩

theorem lbalance_any (h : LAt w0 l d b g L w) (ok : L.Ok) (ht : L.D.turns ≤ 80000) : Calls Tryz.prog 58 #[.pointer (some ⟨l, 0, none⟩)] w fun x w' => x = .returned (.int .i64 (L.balanceE : Int)) ∧ NextL w0 l d g L.balance w w' := by
  have hc6 : w.cell? ⟨l, 6, none⟩ = some (.bool L.lost) := h.head.cell 6
  have H := Lib.hid h
  have HO := Lib.hid ok
  cases hlost : L.lost with
  | true =>
    rw [hlost] at hc6
    have HE : Hid (L.balanceE = 4) := by show _ = _; unfold LS.balanceE; rw [hlost]; rfl
    have HS : Hid (L.balance = L) := by show _ = _; unfold LS.balance; rw [hlost]; rfl
    rw [HE.out, HS.out]
    clear h hlost HE HS ok
    go_enter Tryz.func58, Tryz.ntmps58
    go_wp2_with fail
    go_ret
    exact ⟨rfl, H.out.same⟩
  | false =>
    rw [hlost] at hc6
    have HE : Hid (L.balanceE = L.balanced.D.bad) := by show _ = _; unfold LS.balanceE; rw [hlost]; rfl
    have HS : Hid (L.balance = L.balanced.heed) := by show _ = _; unfold LS.balance; rw [hlost]; rfl
    rw [HE.out, HS.out]
    clear h hlost HE HS ok
    go_enter Tryz.func58, Tryz.ntmps58
    go_wp2_with fail
    refine (balance_any H.out HO.out ht).mono ?_
    rintro x w1 ⟨rfl, N1⟩
    have HN1 := Lib.hid N1
    obtain ⟨b1, A1⟩ := HN1.out.1
    have HH := Lib.hid (heed_any A1)
    clear N1 A1 hc6
    go_wp2_with fail
    refine HH.out.mono ?_
    rintro x w2 ⟨rfl, N2⟩
    have HN2 := Lib.hid (HN1.out.trans N2)
    clear N2 HH
    go_wp2_with fail
    go_ret
    exact ⟨rfl, HN2.out⟩

set_option maxHeartbeats 1600000 in
theorem write_any (h : LAt w0 l d b g L w) (ok : L.Ok) (hr : L.round < 1000000000000) (hp : L.posts < 1000000) (ht : L.D.turns ≤ 70000) (a : Option Addr) (e : List Ent) (len cap : Nat) (En : Ents w a e) (hlen : e.length = len) (hlm : len ≤ 100000) :
    Calls Tryz.prog 44 #[.pointer (some ⟨l, 0, none⟩), .slice a len cap] w fun x w' => x = .returned (.int .i64 (L.writeE e : Int)) ∧ NextL w0 l d g (L.write e) w w' := by
  have hmany := h.st.dr.ok.many
  have hokl := ok.len
  have H := Lib.hid h
  have HO := Lib.hid ok
  have HE := Lib.hid En
  have HL := Lib.hid hlen
  have Hm := Lib.hid (home_any h.head)
  have HGo := Lib.hid (goes_any a e len cap L.ws.length w En hlen hlm (by omega))
  by_cases hG : Goes e L.ws.length
  · rw [decide_eq_true hG] at HGo
    have HG := Lib.hid hG
    cases hlost : L.lost with
    | true =>
      have HEe : Hid (L.writeE e = 4) := by show _ = _; unfold LS.writeE; rw [if_pos hG, hlost]; rfl
      have HS : Hid (L.write e = L) := by show _ = _; unfold LS.write; rw [if_pos hG, hlost]; rfl
      rw [HEe.out, HS.out]
      have Hlost := Lib.hid hlost
      clear h ok En hG hlost HEe HS hlen
      go_enter Tryz.func44, Tryz.ntmps44
      go_wp2_with fail
      refine Hm.out.mono ?_
      rintro x w' ⟨rfl, rfl⟩
      go_wp2_with fail
      refine HGo.out.mono ?_
      rintro x w1 ⟨rfl, O1⟩
      have HA := Lib.hid (H.out.step O1)
      have HN := Lib.hid (H.out.old O1)
      have hc6 : w1.cell? ⟨l, 6, none⟩ = some (.bool true) := by have := HA.out.head.cell 6; rw [this]; show some (Value.bool L.lost) = _; rw [Hlost.out]
      clear O1 Hm HGo
      go_wp2_with fail
      go_ret
      exact ⟨rfl, HN.out⟩
    | false =>
      by_cases hbig : L.leaves < leavesOf len
      · have hbig' : (L.leaves : Int) < ((leavesOf len : Nat) : Int) := by omega
        have HEe : Hid (L.writeE e = 5) := by show _ = _; unfold LS.writeE; rw [if_pos hG, hlost, hlen, if_pos hbig]; rfl
        have HS : Hid (L.write e = L) := by show _ = _; unfold LS.write; rw [if_pos hG, hlost, hlen, if_pos hbig]; rfl
        rw [HEe.out, HS.out]
        have Hlost := Lib.hid hlost
        clear h ok En hG hlost HEe HS hlen
        go_enter Tryz.func44, Tryz.ntmps44
        go_wp2_with fail
        refine Hm.out.mono ?_
        rintro x w' ⟨rfl, rfl⟩
        go_wp2_with fail
        refine HGo.out.mono ?_
        rintro x w1 ⟨rfl, O1⟩
        have HA := Lib.hid (H.out.step O1)
        have HN := Lib.hid (H.out.old O1)
        have hc6 : w1.cell? ⟨l, 6, none⟩ = some (.bool false) := by have := HA.out.head.cell 6; rw [this]; show some (Value.bool L.lost) = _; rw [Hlost.out]
        have HLv := Lib.hid (leaves_any len w1.drew (by omega))
        have HO1 : Hid (Old w1 w1.drew) := (Touch.refl _ _).drew
        have HN1 := Lib.hid (HN.out.trans (HA.out.old HO1.out))
        have hS : Hid (w1.drew.cell? ⟨l, 1, none⟩ = some (.int .i64 (L.leaves : Int))) := (HA.out.step HO1.out).head.cell 1
        clear O1 Hm HGo
        go_wp2_with fail
        go_cut [21] (fun v wx => v = .bool true ∧ wx = w1.drew)
        case first =>
          go_region_held3 (fun w' => w'.cell? ⟨l, 1, none⟩ = some (.int .i64 (L.leaves : Int))) (first | exact hS.out) (first | (go_at_call 73; refine HLv.out.mono ?_; rintro x w' ⟨rfl, rfl⟩))
          all_goals
            rename_i hHeld
            clear hHeld
            go_wp2_with fail
            go_meet
            exact ⟨rfl, rfl⟩
        case rest =>
          obtain ⟨rfl, rfl⟩ := hcut
          go_wp2_with fail
          go_ret
          exact ⟨rfl, HN1.out⟩
      · have hbig' : ¬ (L.leaves : Int) < ((leavesOf len : Nat) : Int) := by omega
        have HEe : Hid (L.writeE e = (L.post e).D.bad) := by show _ = _; unfold LS.writeE; rw [if_pos hG, hlost, hlen, if_neg hbig]; rfl
        have HS : Hid (L.write e = (L.post e).heed) := by show _ = _; unfold LS.write; rw [if_pos hG, hlost, hlen, if_neg hbig]; rfl
        rw [HEe.out, HS.out]
        have Hlost := Lib.hid hlost
        have HBg : Hid (leavesOf len ≤ L.leaves) := by show _ ≤ _; omega
        clear h ok En hG hlost HEe HS hlen
        go_enter Tryz.func44, Tryz.ntmps44
        go_wp2_with fail
        refine Hm.out.mono ?_
        rintro x w' ⟨rfl, rfl⟩
        go_wp2_with fail
        refine HGo.out.mono ?_
        rintro x w1 ⟨rfl, O1⟩
        have HA := Lib.hid (H.out.step O1)
        have HN := Lib.hid (H.out.old O1)
        have hc6 : w1.cell? ⟨l, 6, none⟩ = some (.bool false) := by have := HA.out.head.cell 6; rw [this]; show some (Value.bool L.lost) = _; rw [Hlost.out]
        have HLv := Lib.hid (leaves_any len w1.drew (by omega))
        have HO1 : Hid (Old w1 w1.drew) := (Touch.refl _ _).drew
        have HA1 := Lib.hid (HA.out.step HO1.out)
        have HN1 := Lib.hid (HN.out.trans (HA.out.old HO1.out))
        have hS : Hid (w1.drew.cell? ⟨l, 1, none⟩ = some (.int .i64 (L.leaves : Int))) := HA1.out.head.cell 1
        clear O1 Hm HGo
        go_wp2_with fail
        go_cut [21] (fun v wx => v = .bool false ∧ wx = w1.drew)
        case first =>
          go_region_held3 (fun w' => w'.cell? ⟨l, 1, none⟩ = some (.int .i64 (L.leaves : Int))) (first | exact hS.out) (first | (go_at_call 73; refine HLv.out.mono ?_; rintro x w' ⟨rfl, rfl⟩))
          all_goals
            rename_i hHeld
            clear hHeld
            go_wp2_with fail
            go_meet
            exact ⟨rfl, rfl⟩
        case rest =>
          obtain ⟨rfl, rfl⟩ := hcut
          clear hbig' hc6 HLv hS
          go_wp2_with fail
          refine (post_any HA1.out HO.out hr hp ht a e len cap (HE.out.keptL HN1.out.2.1) HL.out HG.out HBg.out).mono ?_
          rintro x w2 ⟨rfl, N2⟩
          have HN2 := Lib.hid (HN1.out.trans N2)
          obtain ⟨b2, A2⟩ := HN2.out.1
          have HH := Lib.hid (heed_any A2)
          clear N2 A2
          go_wp2_with fail
          refine HH.out.mono ?_
          rintro x w3 ⟨rfl, N3⟩
          have HN3 := Lib.hid (HN2.out.trans N3)
          clear N3 HH
          go_wp2_with fail
          go_ret
          exact ⟨rfl, HN3.out⟩
  · rw [decide_eq_false hG] at HGo
    have HEe : Hid (L.writeE e = 1) := by show _ = _; unfold LS.writeE; rw [if_neg hG]
    have HS : Hid (L.write e = L) := by show _ = _; unfold LS.write; rw [if_neg hG]
    rw [HEe.out, HS.out]
    clear h ok En hG HEe HS hlen
    go_enter Tryz.func44, Tryz.ntmps44
    go_wp2_with fail
    refine Hm.out.mono ?_
    rintro x w' ⟨rfl, rfl⟩
    go_wp2_with fail
    refine HGo.out.mono ?_
    rintro x w1 ⟨rfl, O1⟩
    have HN := Lib.hid (H.out.old O1)
    clear O1 Hm HGo
    go_wp2_with fail
    go_ret
    exact ⟨rfl, HN.out⟩
end
end Go.Proofs.YtjajenkagcdhlaaGreat
