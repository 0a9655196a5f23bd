/- The contract of the reference's home. -/
import Derived.Test.YtmingbgohdhajaaGreatRefN
namespace Go.Proofs.YtmingbgohdhajaaGreat
open Go.RowKit
set_option maxRecDepth 100000
set_option linter.unusedSimpArgs false

section
variable {P : Program} {ops : Array Oper} {Q : Exit → Act → World → Prop} {md : Region.Mode} {R : World → World → Prop}
structure Pre (R : World → World → Prop) : Prop where
  refl : ∀ w, R w w
  trans : ∀ {a b c}, R a b → R b c → R a c
/-- Whatever order is picked from here on, each world being R of the one ahead. -/
def wpG (R : World → World → Prop) (P : Program) (md : Region.Mode) (ops : Array Oper) (Q : Exit → Act → World → Prop) (fuel : Nat) (listed : Array Bool) (a : Act) (w : World) : Prop :=
  wpAnyH P md ops Q (fun w' => R w w') fuel listed a w
theorem wpG_take (hR : Pre R) {i : Nat} {oi : Oper} {v : Value} {fuel : Nat} {listed : Array Bool} {a : Act} {w : World} (hi : ops[i]? = some oi)
    (hs : Region.noSelect ops = true) (hf : Region.free md ops listed i = true) (hr : (Region.ready md ops listed).contains i = true)
    (hQ : ∀ c a w, Q (.panic c) (a.put oi.dst v) w → Q (.panic c) a w) (hw : Region.wanted oi (yielded ops a.tmps) = true) (hy : ∀ w', R w w' → (execOp a.eval oi).run P w' = .ok (.value v) w')
    (h : wpG R P md ops Q fuel (listed.setIfInBounds i true) (a.put oi.dst v) w) : wpG R P md ops Q (fuel + 1) listed a w :=
  wpAnyH_take hi hs hf hr hQ (.inl ⟨hw, hy⟩) (hR.refl w) h
theorem wpG_skip (hR : Pre R) {i : Nat} {oi : Oper} {fuel : Nat} {listed : Array Bool} {a : Act} {w : World} (hi : ops[i]? = some oi)
    (hs : Region.noSelect ops = true) (hf : Region.free md ops listed i = true) (hr : (Region.ready md ops listed).contains i = true)
    (hQ : ∀ c a w, Q (.panic c) (a.put oi.dst undef) w → Q (.panic c) a w) (hw : Region.wanted oi (yielded ops a.tmps) = false)
    (h : wpG R P md ops Q fuel (listed.setIfInBounds i true) (a.put oi.dst undef) w) : wpG R P md ops Q (fuel + 1) listed a w :=
  wpAnyH_take hi hs hf hr hQ (.inr ⟨hw, rfl⟩) (hR.refl w) h
theorem wpG_call (hR : Pre R) {i : Nat} {o : Oper} {fuel : Nat} {listed : Array Bool} {a : Act} {w : World} (ho : ops[i]? = some o) (hr : Region.ready md ops listed = [i]) (hw : Region.wanted o (yielded ops a.tmps) = true)
    (h : ∀ K : Act → World → Prop, Shut (∀ a' w', R w w' → wpG R P md ops Q fuel (listed.setIfInBounds i true) a' w' → K a' w') → Oper.wp P o a w K Q) : wpG R P md ops Q (fuel + 1) listed a w := by
  refine wpAnyH_ready hr (by simp) (AllReadyH.cons ho (fun K' hK => ?_) AllReadyH.nil)
  rw [if_pos hw]
  exact h K' (fun a' w' hO hG => hK.out a' w' hO (fun _ => wpAnyH_mono (fun w2 h2 => hR.trans hO h2) fuel _ a' w' hG))
theorem wpG_done {listed : Array Bool} {a : Act} {w : World} (hr : Region.ready md ops listed = []) (h : Q .normal a w) (fuel : Nat) : wpG R P md ops Q fuel listed a w := wpAnyH_done hr h fuel
theorem wp_region_G {id : Nat} {a : Act} {w : World} (hm : P.follows .mixedOrders = true) (h : wpG R P .any ops Q ops.size (Array.replicate ops.size false) a w.drew) : (Code.region id ops true).wp P Q a w :=
  wp_region_held hm h
end
/-- Nothing turned but the reference's drums. -/
def RT (w0 w w' : World) : Prop := Touch (rmine w0 w) w w'
theorem RT.pre (w0 : World) : Pre (RT w0) := ⟨fun w => Touch.refl _ w, fun h k => Touch.rtrans h k⟩

/-- A new map in the ledger. -/
theorem RL.fresh {w0 w : World} {lp r m n : Nat} {L : LS} (h : RL w0 lp r m n L w) (k : Nat) : RL w0 lp r w.heap.size 0 { L with ws := List.replicate k none } ((w.alloc (.map #[] 0)).setCell ⟨lp, 5, none⟩ (.map (some w.heap.size))) := by
  have O : Old w (w.alloc (.map #[] 0)) := (Touch.refl _ _).alloc _
  have T : Touch (fun q => q = lp) (w.alloc (.map #[] 0)) ((w.alloc (.map #[] 0)).setCell ⟨lp, 5, none⟩ (.map (some w.heap.size))) := Touch.one ⟨lp, 5, none⟩ _
  have h1 := h.old O
  refine ⟨rs_cell h1.rs (fun t cs ht hB => hB.ne h1.head (by rcases ht with rfl | rfl | rfl <;> decide) rfl) T, h.ok, h1.head.set 5 (.map (some w.heap.size)), ?_, h.nl, h.n0, Nat.le_trans h1.n0 T.size⟩
  exact (RMap.made w k).touch T (fun e => by have := h.head.lt; omega)

/-- What home leaves. -/
def RHome (w0 : World) (lp r n : Nat) (L' : LS) (w : World) (x : Ending) (w' : World) : Prop := x = .returned (.bool (!L'.D.down)) ∧ (∃ m' n', RL w0 lp r m' n' L' w' ∧ n' ≤ n ∧ (L'.D.down = false → n' = 0)) ∧ Touch (lmine w0 w) w w'

theorem getD_none {ws : Wri} {k : Nat} {x : Option (List Nat)} (h : ws[k]? = some x) : ws.getD k none = x := getD_of h

set_option maxHeartbeats 12800000 in
theorem rlhome_all {w0 w : World} {lp r m n : Nat} {L : LS} (h : RL w0 lp r m n L w) (hl : L.D.T.length = 2 + L.leaves + L.ws.length) (h5 : 5 ≤ L.leaves) (hrd : L.round ≤ 1000000000000) (_hps : L.laid ≤ 1000000) (ht : L.D.turns ≤ 90000) (hws : ∀ x ∈ L.ws, ∀ b, x = some b → Trk b) :
    Calls Tryz.prog 47 #[.pointer (some ⟨lp, 0, none⟩)] w (RHome w0 lp r n L.next w) := by
  have hmany := h.ok.many
  have HT := Lib.hid ht
  have HLen := Lib.hid hl
  have HWs := Lib.hid hws
  have H0 := Lib.hid h.n0
  have HI0 : Hid (RL w0 lp r m n { L with D := L.D.run (homeTo L 0) } w ∧ Touch (lmine w0 w) w w) := ⟨h, Touch.refl _ _⟩
  obtain ⟨DD, hDD⟩ : ∃ DD, L.D.run L.nextT = DD := ⟨_, rfl⟩
  have HDD := Lib.hid hDD
  have HNx : Hid (L.next = if DD.down then { L with D := DD } else { L with D := DD, round := L.round + 1, posts := 0, laid := 0, ws := List.replicate L.ws.length none }) := by
    show _ = _
    unfold LS.next
    rw [hDD]
  have hwl : L.ws.length ≤ 4096 := by omega
  have hlv : L.leaves ≤ 4096 := by omega
  obtain ⟨nw, hn⟩ : ∃ nw, L.ws.length = nw := ⟨_, rfl⟩
  have HWn := Lib.hid hn
  rw [hn] at hwl hl
  obtain ⟨lv, hlve⟩ : ∃ lv, L.leaves = lv := ⟨_, rfl⟩
  have HLv := Lib.hid hlve
  rw [hlve] at hlv hl h5
  obtain ⟨rd, hrde⟩ : ∃ rd, L.round = rd := ⟨_, rfl⟩
  have HRd := Lib.hid hrde
  rw [hrde] at hrd
  have HHd : Hid (∀ D', rlhead r m { L with D := D' } = rlhead r m L) := fun _ => rfl
  have HRh : Hid (rlhead r m L = [.pointer (some ⟨r, 0, none⟩), .int .i64 (lv : Int), .int .i64 (rd : Int), .int .i64 (L.posts : Int), .int .i64 (L.laid : Int), .map (some m), .bool L.lost]) := by show _ = _; unfold rlhead; rw [hlve, hrde]
  generalize L.next = LN at *
  clear h ht hDD hn hlve hrde hws
  go_enter Tryz.func47, Tryz.ntmps47
  go_wp2_with fail
  go_loopw [3] (fun i wx => ∃ k : Nat, k ≤ nw ∧ i = .int .i64 k ∧ Hid (RL w0 lp r m n { L with D := L.D.run (homeTo L k) } wx ∧ Touch (lmine w0 w) w wx)) (fun i _ => nw - (intOf i).toNat)
  case atStart => exact ⟨0, Nat.zero_le _, rfl, HI0⟩
  case round =>
    obtain ⟨k, hk, rfl, HI⟩ := hrel
    clear HI0
    have htk := DS.run_turns L.D (homeTo L k)
    have hlk := DS.run_len L.D (homeTo L k)
    have hhk := homeTo_length L k (by rw [HWn.out]; exact hk)
    rw [HWn.out] at hhk
    have HHm := Lib.hid (rlhome_any HI.out.1 (by show (L.D.run (homeTo L k)).T.length = 2 + L.leaves + L.ws.length; rw [hlk]; exact HLen.out))
    rw [show ({ L with D := L.D.run (homeTo L k) } : LS).ws.length = nw from HWn.out] at HHm
    go_wp2_with fail
    refine HHm.out.mono ?_
    rintro x w1 ⟨rfl, O1⟩
    have HI1 : Hid (RL w0 lp r m n { L with D := L.D.run (homeTo L k) } w1 ∧ Touch (lmine w0 w) w w1) := ⟨HI.out.1.old O1, HI.out.2.ltrans (Touch.of_old O1)⟩
    clear O1 HHm HI
    by_cases hlt : k < nw
    · obtain ⟨x, hx⟩ := get_of_lt (l := L.ws) (n := k) (by rw [HWn.out]; exact hlt)
      have i1 : (k : Int) < (nw : Int) := by omega
      have hc5 : w1.cell? ⟨lp, 5, none⟩ = some (.map (some m)) := HI1.out.1.head.cell 5
      have HX := Lib.hid hx
      cases x with
      | none =>
        as_aux_lemma =>
          have hlo := HI1.out.1.map.miss (k := k) (by omega) (getD_none hx)
          have HR : Hid (RL w0 lp r m n { L with D := L.D.run (homeTo L (k + 1)) } w1.drew ∧ Touch (lmine w0 w) w w1.drew) := by
            show RL _ _ _ _ _ _ _ ∧ _
            rw [homeTo_none HX.out]
            exact ⟨HI1.out.1.old ((Touch.refl _ _).drew), HI1.out.2.drew⟩
          clear htk hlk hhk hx
          go_wp2_with fail
          refine wp_region_G (R := RT w0) (by kernel_rfl) ?_
          refine wpG_take (RT.pre w0) (i := 0) (oi := ⟨some 21, _, _, _, _, _⟩) (v := ?hnv0) rfl (by kernel_rfl) (by kernel_rfl) (by kernel_rfl) (fun _ _ _ h => h) (by kernel_rfl) ?hny0 ?hnr0
          case hny0 =>
            intro wt hO
            go_simp
            try with_reducible rfl
          try simp only [Act.put, List.setIfInBounds_toArray, List.set_cons_zero, List.set_cons_succ]
          refine wpG_take (RT.pre w0) (i := 1) (oi := ⟨some 22, _, _, _, _, _⟩) (v := ?hnv1) rfl (by kernel_rfl) (by kernel_rfl) (by kernel_rfl) (fun _ _ _ h => h) (by kernel_rfl) ?hny1 ?hnr1
          case hny1 =>
            intro wt hO
            go_simp
            try with_reducible rfl
          try simp only [Act.put, List.setIfInBounds_toArray, List.set_cons_zero, List.set_cons_succ]
          refine wpG_skip (RT.pre w0) (i := 2) (oi := ⟨some 23, _, _, _, _, _⟩) rfl (by kernel_rfl) (by kernel_rfl) (by kernel_rfl) (fun _ _ _ h => h) (by kernel_rfl) ?_
          try simp only [Act.put, List.setIfInBounds_toArray, List.set_cons_zero, List.set_cons_succ]
          refine wpG_skip (RT.pre w0) (i := 3) (oi := ⟨some 24, _, _, _, _, _⟩) rfl (by kernel_rfl) (by kernel_rfl) (by kernel_rfl) (fun _ _ _ h => h) (by kernel_rfl) ?_
          try simp only [Act.put, List.setIfInBounds_toArray, List.set_cons_zero, List.set_cons_succ]
          refine wpG_skip (RT.pre w0) (i := 4) (oi := ⟨some 25, _, _, _, _, _⟩) rfl (by kernel_rfl) (by kernel_rfl) (by kernel_rfl) (fun _ _ _ h => h) (by kernel_rfl) ?_
          try simp only [Act.put, List.setIfInBounds_toArray, List.set_cons_zero, List.set_cons_succ]
          refine wpG_skip (RT.pre w0) (i := 5) (oi := ⟨some 26, _, _, _, _, _⟩) rfl (by kernel_rfl) (by kernel_rfl) (by kernel_rfl) (fun _ _ _ h => h) (by kernel_rfl) ?_
          try simp only [Act.put, List.setIfInBounds_toArray, List.set_cons_zero, List.set_cons_succ]
          refine wpG_skip (RT.pre w0) (i := 6) (oi := ⟨some 27, _, _, _, _, _⟩) rfl (by kernel_rfl) (by kernel_rfl) (by kernel_rfl) (fun _ _ _ h => h) (by kernel_rfl) ?_
          try simp only [Act.put, List.setIfInBounds_toArray, List.set_cons_zero, List.set_cons_succ]
          refine wpG_skip (RT.pre w0) (i := 7) (oi := ⟨some 28, _, _, _, _, _⟩) rfl (by kernel_rfl) (by kernel_rfl) (by kernel_rfl) (fun _ _ _ h => h) (by kernel_rfl) ?_
          try simp only [Act.put, List.setIfInBounds_toArray, List.set_cons_zero, List.set_cons_succ]
          refine wpG_skip (RT.pre w0) (i := 8) (oi := ⟨some 29, _, _, _, _, _⟩) rfl (by kernel_rfl) (by kernel_rfl) (by kernel_rfl) (fun _ _ _ h => h) (by kernel_rfl) ?_
          try simp only [Act.put, List.setIfInBounds_toArray, List.set_cons_zero, List.set_cons_succ]
          refine wpG_skip (RT.pre w0) (i := 9) (oi := ⟨some 30, _, _, _, _, _⟩) rfl (by kernel_rfl) (by kernel_rfl) (by kernel_rfl) (fun _ _ _ h => h) (by kernel_rfl) ?_
          try simp only [Act.put, List.setIfInBounds_toArray, List.set_cons_zero, List.set_cons_succ]
          refine wpG_skip (RT.pre w0) (i := 10) (oi := ⟨some 31, _, _, _, _, _⟩) rfl (by kernel_rfl) (by kernel_rfl) (by kernel_rfl) (fun _ _ _ h => h) (by kernel_rfl) ?_
          try simp only [Act.put, List.setIfInBounds_toArray, List.set_cons_zero, List.set_cons_succ]
          refine wpG_skip (RT.pre w0) (i := 11) (oi := ⟨some 32, _, _, _, _, _⟩) rfl (by kernel_rfl) (by kernel_rfl) (by kernel_rfl) (fun _ _ _ h => h) (by kernel_rfl) ?_
          try simp only [Act.put, List.setIfInBounds_toArray, List.set_cons_zero, List.set_cons_succ]
          refine wpG_skip (RT.pre w0) (i := 12) (oi := ⟨some 33, _, _, _, _, _⟩) rfl (by kernel_rfl) (by kernel_rfl) (by kernel_rfl) (fun _ _ _ h => h) (by kernel_rfl) ?_
          try simp only [Act.put, List.setIfInBounds_toArray, List.set_cons_zero, List.set_cons_succ]
          refine wpG_skip (RT.pre w0) (i := 13) (oi := ⟨some 34, _, _, _, _, _⟩) rfl (by kernel_rfl) (by kernel_rfl) (by kernel_rfl) (fun _ _ _ h => h) (by kernel_rfl) ?_
          try simp only [Act.put, List.setIfInBounds_toArray, List.set_cons_zero, List.set_cons_succ]
          refine wpG_skip (RT.pre w0) (i := 14) (oi := ⟨some 35, _, _, _, _, _⟩) rfl (by kernel_rfl) (by kernel_rfl) (by kernel_rfl) (fun _ _ _ h => h) (by kernel_rfl) ?_
          try simp only [Act.put, List.setIfInBounds_toArray, List.set_cons_zero, List.set_cons_succ]
          refine wpG_skip (RT.pre w0) (i := 15) (oi := ⟨some 36, _, _, _, _, _⟩) rfl (by kernel_rfl) (by kernel_rfl) (by kernel_rfl) (fun _ _ _ h => h) (by kernel_rfl) ?_
          try simp only [Act.put, List.setIfInBounds_toArray, List.set_cons_zero, List.set_cons_succ]
          refine wpG_skip (RT.pre w0) (i := 16) (oi := ⟨some 37, _, _, _, _, _⟩) rfl (by kernel_rfl) (by kernel_rfl) (by kernel_rfl) (fun _ _ _ h => h) (by kernel_rfl) ?_
          try simp only [Act.put, List.setIfInBounds_toArray, List.set_cons_zero, List.set_cons_succ]
          refine wpG_take (RT.pre w0) (i := 17) (oi := ⟨some 38, _, _, _, _, _⟩) (v := ?hnv17) rfl (by kernel_rfl) (by kernel_rfl) (by kernel_rfl) (fun _ _ _ h => h) (by kernel_rfl) ?hny17 ?hnr17
          case hny17 =>
            intro wt hO
            go_simp
            try with_reducible rfl
          try simp only [Act.put, List.setIfInBounds_toArray, List.set_cons_zero, List.set_cons_succ]
          refine wpG_done (by kernel_rfl) ?_ _
          go_wp2_with fail
          exact ⟨⟨k + 1, by omega, by go_num, HR⟩, by simp [intOf]; omega⟩
      | some bs =>
        as_aux_lemma =>
          have hlo := HI1.out.1.map.hit (k := k) (by omega) (getD_none hx)
          have HTr := Lib.hid (HWs.out _ (mem_of_get hx) bs rfl)
          have HR : Hid (L.D.run (homeTo L (k + 1)) = (L.D.run (homeTo L k)).step (.lay (2 + lv + k) bs)) := by show _ = _; rw [homeTo_some HX.out, DS.run_snoc, HLv.out]
          have HP : Hid (∃ r, DD = (L.D.run (homeTo L (k + 1))).run r) := by
            obtain ⟨r, hr⟩ := homeTo_part L (k + 1)
            exact ⟨r, by rw [← HDD.out, hr, DS.run_append]⟩
          have HTk : Hid ((L.D.run (homeTo L k)).turns ≤ 99999) := by show _ ≤ _; have := HT.out; omega
          have HLk : Hid (2 + lv + k < (L.D.run (homeTo L k)).T.length) := by show _ < _; rw [hlk, HLen.out, HWn.out, HLv.out]; omega
          have HD0 : Hid (Blk w1.drew lp 55 [.pointer (some ⟨r, 0, none⟩), .int .i64 (lv : Int), .int .i64 (rd : Int), .int .i64 (L.posts : Int), .int .i64 (L.laid : Int), .map (some m), .bool L.lost]) := by
            have := HI1.out.1.head
            rw [HHd.out, HRh.out] at this
            exact this.touch ((Touch.refl (fun _ => False) w1).drew) (fun q => q)
          obtain ⟨cb, wb, hcv, hcb, hLo, hOb⟩ := bytes_of w1.drew bs HTr.out.byte
          rw [HTr.out.len] at hcv hcb
          have HTb : Hid (RT w0 w1.drew wb) := Touch.of_old hOb
          have Ob : Old w1 wb := ((Touch.refl _ _).drew).trans hOb
          have HIb : Hid (RL w0 lp r m n { L with D := L.D.run (homeTo L k) } wb ∧ Touch (lmine w0 w) w wb) := ⟨HI1.out.1.old Ob, HI1.out.2.ltrans (Touch.of_old Ob)⟩
          have HLy := Lib.hid (rlay_step HIb.out.1.rs HIb.out.1.ok HTk.out HIb.out.1.n0 (2 + lv + k) w1.drew.heap.size bs cb HLk.out HTr.out hLo)
          have hwr1 : IntKind.i64.wrap (2 + (lv : Int)) = 2 + (lv : Int) := wrap_fits ⟨by omega, by omega⟩
          have hwr2 : IntKind.i64.wrap (2 + (lv : Int) + (k : Int)) = 2 + (lv : Int) + (k : Int) := wrap_fits ⟨by omega, by omega⟩
          clear htk hlk hhk hx hLo hOb Ob HTk HLk
          generalize strOf bs = sb at *
          obtain ⟨D1, hD1⟩ : ∃ D1, L.D.run (homeTo L (k + 1)) = D1 := ⟨_, rfl⟩
          have HD1 := Lib.hid hD1
          rw [hD1] at HP HR
          clear hD1
          rw [← HR.out] at HLy
          cases hd : D1.down with
          | true =>
            have HBd := Lib.hid (bad_down hd)
            rw [HBd.out] at HLy
            have HE : Hid (LN = { L with D := D1 }) := by
              obtain ⟨r, hr⟩ := HP.out
              have e1 : DD = D1 := by rw [hr, DS.run_down hd]
              show _ = _
              rw [HNx.out, e1, hd]
              rfl
            have HDn := Lib.hid hd
            clear hd HP HNx
            go_wp2_with fail
            refine wp_region_G (R := RT w0) (by kernel_rfl) ?_
            refine wpG_take (RT.pre w0) (i := 0) (oi := ⟨some 21, _, _, _, _, _⟩) (v := ?hyv0) rfl (by kernel_rfl) (by kernel_rfl) (by kernel_rfl) (fun _ _ _ h => h) (by kernel_rfl) ?hyy0 ?hyr0
            case hyy0 =>
              intro wt hO
              go_simp
              try with_reducible rfl
            try simp only [Act.put, List.setIfInBounds_toArray, List.set_cons_zero, List.set_cons_succ]
            refine wpG_take (RT.pre w0) (i := 1) (oi := ⟨some 22, _, _, _, _, _⟩) (v := ?hyv1) rfl (by kernel_rfl) (by kernel_rfl) (by kernel_rfl) (fun _ _ _ h => h) (by kernel_rfl) ?hyy1 ?hyr1
            case hyy1 =>
              intro wt hO
              go_simp
              try with_reducible rfl
            try simp only [Act.put, List.setIfInBounds_toArray, List.set_cons_zero, List.set_cons_succ]
            refine wpG_take (RT.pre w0) (i := 2) (oi := ⟨some 23, _, _, _, _, _⟩) (v := ?hyv2) rfl (by kernel_rfl) (by kernel_rfl) (by kernel_rfl) (fun _ _ _ h => h) (by kernel_rfl) ?hyy2 ?hyr2
            case hyy2 =>
              intro wt hO
              go_simp
              try with_reducible rfl
            try simp only [Act.put, List.setIfInBounds_toArray, List.set_cons_zero, List.set_cons_succ]
            refine wpG_take (RT.pre w0) (i := 3) (oi := ⟨some 24, _, _, _, _, _⟩) (v := ?hyv3) rfl (by kernel_rfl) (by kernel_rfl) (by kernel_rfl) (fun _ _ _ h => h) (by kernel_rfl) ?hyy3 ?hyr3
            case hyy3 =>
              intro wt hO
              go_simp
              try with_reducible rfl
            try simp only [Act.put, List.setIfInBounds_toArray, List.set_cons_zero, List.set_cons_succ]
            refine wpG_take (RT.pre w0) (i := 4) (oi := ⟨some 25, _, _, _, _, _⟩) (v := ?hyv4) rfl (by kernel_rfl) (by kernel_rfl) (by kernel_rfl) (fun _ _ _ h => h) (by kernel_rfl) ?hyy4 ?hyr4
            case hyy4 =>
              intro wt hO
              go_simp
              try with_reducible rfl
            try simp only [Act.put, List.setIfInBounds_toArray, List.set_cons_zero, List.set_cons_succ]
            refine wpG_take (RT.pre w0) (i := 5) (oi := ⟨some 26, _, _, _, _, _⟩) (v := ?hyv5) rfl (by kernel_rfl) (by kernel_rfl) (by kernel_rfl) (fun _ _ _ h => h) (by kernel_rfl) ?hyy5 ?hyr5
            case hyy5 =>
              intro wt hO
              have f0 : wt.cell? ⟨lp, 0, none⟩ = some (.pointer (some ⟨r, 0, none⟩)) := (HD0.out.rstay hO (by decide)).cell 0; go_simp
              try with_reducible rfl
            try simp only [Act.put, List.setIfInBounds_toArray, List.set_cons_zero, List.set_cons_succ]
            refine wpG_take (RT.pre w0) (i := 6) (oi := ⟨some 27, _, _, _, _, _⟩) (v := ?hyv6) rfl (by kernel_rfl) (by kernel_rfl) (by kernel_rfl) (fun _ _ _ h => h) (by kernel_rfl) ?hyy6 ?hyr6
            case hyy6 =>
              intro wt hO
              go_simp
              try with_reducible rfl
            try simp only [Act.put, List.setIfInBounds_toArray, List.set_cons_zero, List.set_cons_succ]
            refine wpG_take (RT.pre w0) (i := 7) (oi := ⟨some 28, _, _, _, _, _⟩) (v := ?hyv7) rfl (by kernel_rfl) (by kernel_rfl) (by kernel_rfl) (fun _ _ _ h => h) (by kernel_rfl) ?hyy7 ?hyr7
            case hyy7 =>
              intro wt hO
              go_simp
              try with_reducible rfl
            try simp only [Act.put, List.setIfInBounds_toArray, List.set_cons_zero, List.set_cons_succ]
            refine wpG_take (RT.pre w0) (i := 8) (oi := ⟨some 29, _, _, _, _, _⟩) (v := ?hyv8) rfl (by kernel_rfl) (by kernel_rfl) (by kernel_rfl) (fun _ _ _ h => h) (by kernel_rfl) ?hyy8 ?hyr8
            case hyy8 =>
              intro wt hO
              go_simp
              try with_reducible rfl
            try simp only [Act.put, List.setIfInBounds_toArray, List.set_cons_zero, List.set_cons_succ]
            refine wpG_take (RT.pre w0) (i := 9) (oi := ⟨some 30, _, _, _, _, _⟩) (v := ?hyv9) rfl (by kernel_rfl) (by kernel_rfl) (by kernel_rfl) (fun _ _ _ h => h) (by kernel_rfl) ?hyy9 ?hyr9
            case hyy9 =>
              intro wt hO
              have f0 : wt.cell? ⟨lp, 1, none⟩ = some (.int .i64 (lv : Int)) := (HD0.out.rstay hO (by decide)).cell 1; go_simp
              try with_reducible rfl
            try simp only [Act.put, List.setIfInBounds_toArray, List.set_cons_zero, List.set_cons_succ]
            refine wpG_take (RT.pre w0) (i := 10) (oi := ⟨some 31, _, _, _, _, _⟩) (v := ?hyv10) rfl (by kernel_rfl) (by kernel_rfl) (by kernel_rfl) (fun _ _ _ h => h) (by kernel_rfl) ?hyy10 ?hyr10
            case hyy10 =>
              intro wt hO
              go_simp
              try with_reducible rfl
            try simp only [Act.put, List.setIfInBounds_toArray, List.set_cons_zero, List.set_cons_succ]
            refine wpG_take (RT.pre w0) (i := 11) (oi := ⟨some 32, _, _, _, _, _⟩) (v := ?hyv11) rfl (by kernel_rfl) (by kernel_rfl) (by kernel_rfl) (fun _ _ _ h => h) (by kernel_rfl) ?hyy11 ?hyr11
            case hyy11 =>
              intro wt hO
              go_simp
              try with_reducible rfl
            try simp only [Act.put, List.setIfInBounds_toArray, List.set_cons_zero, List.set_cons_succ]
            refine wpG_take (RT.pre w0) (i := 12) (oi := ⟨some 33, _, _, _, _, _⟩) (v := ?hyv12) rfl (by kernel_rfl) (by kernel_rfl) (by kernel_rfl) (fun _ _ _ h => h) (by kernel_rfl) ?hyy12 ?hyr12
            case hyy12 =>
              intro wt hO
              go_simp
              try with_reducible rfl
            try simp only [Act.put, List.setIfInBounds_toArray, List.set_cons_zero, List.set_cons_succ]
            refine wpG_take (RT.pre w0) (i := 13) (oi := ⟨some 34, _, _, _, _, _⟩) (v := ?hyv13) rfl (by kernel_rfl) (by kernel_rfl) (by kernel_rfl) (fun _ _ _ h => h) (by kernel_rfl) ?hyy13 ?hyr13
            case hyy13 =>
              intro wt hO
              go_simp
              try with_reducible rfl
            try simp only [Act.put, List.setIfInBounds_toArray, List.set_cons_zero, List.set_cons_succ]
            refine wpG_call (RT.pre w0) (i := 14) (o := ⟨some 35, _, _, _, _, _⟩) rfl (by kernel_rfl) (by kernel_rfl) (fun K hK => ?_)
            go_simp
            refine hK.out _ _ HTb.out ?_
            clear hK
            try simp only [Act.put, List.setIfInBounds_toArray, List.set_cons_zero, List.set_cons_succ]
            refine wpG_call (RT.pre w0) (i := 15) (o := ⟨some 36, _, _, _, _, _⟩) rfl (by kernel_rfl) (by kernel_rfl) (fun K hK => ?_)
            go_simp
            rw [show (2 : Int) + (lv : Int) + (k : Int) = ((2 + lv + k : Nat) : Int) by omega]
            refine HLy.out.mono ?_
            rintro ye w2 ⟨rfl, N2⟩
            have HN2 := Lib.hid N2
            refine hK.out _ _ N2.2 ?_
            clear hK N2
            try simp only [Act.put, List.setIfInBounds_toArray, List.set_cons_zero, List.set_cons_succ]
            refine wpG_take (RT.pre w0) (i := 16) (oi := ⟨some 37, _, _, _, _, _⟩) (v := ?hyv16) rfl (by kernel_rfl) (by kernel_rfl) (by kernel_rfl) (fun _ _ _ h => h) (by kernel_rfl) ?hyy16 ?hyr16
            case hyy16 =>
              intro wt hO
              go_simp
              try with_reducible rfl
            try simp only [Act.put, List.setIfInBounds_toArray, List.set_cons_zero, List.set_cons_succ]
            refine wpG_take (RT.pre w0) (i := 17) (oi := ⟨some 38, _, _, _, _, _⟩) (v := ?hyv17) rfl (by kernel_rfl) (by kernel_rfl) (by kernel_rfl) (fun _ _ _ h => h) (by kernel_rfl) ?hyy17 ?hyr17
            case hyy17 =>
              intro wt hO
              go_simp
              try with_reducible rfl
            try simp only [Act.put, List.setIfInBounds_toArray, List.set_cons_zero, List.set_cons_succ]
            refine wpG_done (by kernel_rfl) ?_ _
            go_wp2_with fail
            go_ret
            refine ⟨by rw [HE.out]; show _ = Ending.returned (.bool (!D1.down)); rw [HDn.out]; rfl, ?_, HIb.out.2.ltrans (Touch.of_rmine HN2.out.2)⟩
            rw [HE.out]
            exact ⟨m, n, HIb.out.1.turn HN2.out, Nat.le_refl _, fun q => by rw [show ({ L with D := D1 } : LS).D.down = D1.down from rfl, HDn.out] at q; cases q⟩
          | false =>
            rw [bad_up hd] at HLy
            clear hd HP
            go_wp2_with fail
            refine wp_region_G (R := RT w0) (by kernel_rfl) ?_
            refine wpG_take (RT.pre w0) (i := 0) (oi := ⟨some 21, _, _, _, _, _⟩) (v := ?hzv0) rfl (by kernel_rfl) (by kernel_rfl) (by kernel_rfl) (fun _ _ _ h => h) (by kernel_rfl) ?hzy0 ?hzr0
            case hzy0 =>
              intro wt hO
              go_simp
              try with_reducible rfl
            try simp only [Act.put, List.setIfInBounds_toArray, List.set_cons_zero, List.set_cons_succ]
            refine wpG_take (RT.pre w0) (i := 1) (oi := ⟨some 22, _, _, _, _, _⟩) (v := ?hzv1) rfl (by kernel_rfl) (by kernel_rfl) (by kernel_rfl) (fun _ _ _ h => h) (by kernel_rfl) ?hzy1 ?hzr1
            case hzy1 =>
              intro wt hO
              go_simp
              try with_reducible rfl
            try simp only [Act.put, List.setIfInBounds_toArray, List.set_cons_zero, List.set_cons_succ]
            refine wpG_take (RT.pre w0) (i := 2) (oi := ⟨some 23, _, _, _, _, _⟩) (v := ?hzv2) rfl (by kernel_rfl) (by kernel_rfl) (by kernel_rfl) (fun _ _ _ h => h) (by kernel_rfl) ?hzy2 ?hzr2
            case hzy2 =>
              intro wt hO
              go_simp
              try with_reducible rfl
            try simp only [Act.put, List.setIfInBounds_toArray, List.set_cons_zero, List.set_cons_succ]
            refine wpG_take (RT.pre w0) (i := 3) (oi := ⟨some 24, _, _, _, _, _⟩) (v := ?hzv3) rfl (by kernel_rfl) (by kernel_rfl) (by kernel_rfl) (fun _ _ _ h => h) (by kernel_rfl) ?hzy3 ?hzr3
            case hzy3 =>
              intro wt hO
              go_simp
              try with_reducible rfl
            try simp only [Act.put, List.setIfInBounds_toArray, List.set_cons_zero, List.set_cons_succ]
            refine wpG_take (RT.pre w0) (i := 4) (oi := ⟨some 25, _, _, _, _, _⟩) (v := ?hzv4) rfl (by kernel_rfl) (by kernel_rfl) (by kernel_rfl) (fun _ _ _ h => h) (by kernel_rfl) ?hzy4 ?hzr4
            case hzy4 =>
              intro wt hO
              go_simp
              try with_reducible rfl
            try simp only [Act.put, List.setIfInBounds_toArray, List.set_cons_zero, List.set_cons_succ]
            refine wpG_take (RT.pre w0) (i := 5) (oi := ⟨some 26, _, _, _, _, _⟩) (v := ?hzv5) rfl (by kernel_rfl) (by kernel_rfl) (by kernel_rfl) (fun _ _ _ h => h) (by kernel_rfl) ?hzy5 ?hzr5
            case hzy5 =>
              intro wt hO
              have f0 : wt.cell? ⟨lp, 0, none⟩ = some (.pointer (some ⟨r, 0, none⟩)) := (HD0.out.rstay hO (by decide)).cell 0; go_simp
              try with_reducible rfl
            try simp only [Act.put, List.setIfInBounds_toArray, List.set_cons_zero, List.set_cons_succ]
            refine wpG_take (RT.pre w0) (i := 6) (oi := ⟨some 27, _, _, _, _, _⟩) (v := ?hzv6) rfl (by kernel_rfl) (by kernel_rfl) (by kernel_rfl) (fun _ _ _ h => h) (by kernel_rfl) ?hzy6 ?hzr6
            case hzy6 =>
              intro wt hO
              go_simp
              try with_reducible rfl
            try simp only [Act.put, List.setIfInBounds_toArray, List.set_cons_zero, List.set_cons_succ]
            refine wpG_take (RT.pre w0) (i := 7) (oi := ⟨some 28, _, _, _, _, _⟩) (v := ?hzv7) rfl (by kernel_rfl) (by kernel_rfl) (by kernel_rfl) (fun _ _ _ h => h) (by kernel_rfl) ?hzy7 ?hzr7
            case hzy7 =>
              intro wt hO
              go_simp
              try with_reducible rfl
            try simp only [Act.put, List.setIfInBounds_toArray, List.set_cons_zero, List.set_cons_succ]
            refine wpG_take (RT.pre w0) (i := 8) (oi := ⟨some 29, _, _, _, _, _⟩) (v := ?hzv8) rfl (by kernel_rfl) (by kernel_rfl) (by kernel_rfl) (fun _ _ _ h => h) (by kernel_rfl) ?hzy8 ?hzr8
            case hzy8 =>
              intro wt hO
              go_simp
              try with_reducible rfl
            try simp only [Act.put, List.setIfInBounds_toArray, List.set_cons_zero, List.set_cons_succ]
            refine wpG_take (RT.pre w0) (i := 9) (oi := ⟨some 30, _, _, _, _, _⟩) (v := ?hzv9) rfl (by kernel_rfl) (by kernel_rfl) (by kernel_rfl) (fun _ _ _ h => h) (by kernel_rfl) ?hzy9 ?hzr9
            case hzy9 =>
              intro wt hO
              have f0 : wt.cell? ⟨lp, 1, none⟩ = some (.int .i64 (lv : Int)) := (HD0.out.rstay hO (by decide)).cell 1; go_simp
              try with_reducible rfl
            try simp only [Act.put, List.setIfInBounds_toArray, List.set_cons_zero, List.set_cons_succ]
            refine wpG_take (RT.pre w0) (i := 10) (oi := ⟨some 31, _, _, _, _, _⟩) (v := ?hzv10) rfl (by kernel_rfl) (by kernel_rfl) (by kernel_rfl) (fun _ _ _ h => h) (by kernel_rfl) ?hzy10 ?hzr10
            case hzy10 =>
              intro wt hO
              go_simp
              try with_reducible rfl
            try simp only [Act.put, List.setIfInBounds_toArray, List.set_cons_zero, List.set_cons_succ]
            refine wpG_take (RT.pre w0) (i := 11) (oi := ⟨some 32, _, _, _, _, _⟩) (v := ?hzv11) rfl (by kernel_rfl) (by kernel_rfl) (by kernel_rfl) (fun _ _ _ h => h) (by kernel_rfl) ?hzy11 ?hzr11
            case hzy11 =>
              intro wt hO
              go_simp
              try with_reducible rfl
            try simp only [Act.put, List.setIfInBounds_toArray, List.set_cons_zero, List.set_cons_succ]
            refine wpG_take (RT.pre w0) (i := 12) (oi := ⟨some 33, _, _, _, _, _⟩) (v := ?hzv12) rfl (by kernel_rfl) (by kernel_rfl) (by kernel_rfl) (fun _ _ _ h => h) (by kernel_rfl) ?hzy12 ?hzr12
            case hzy12 =>
              intro wt hO
              go_simp
              try with_reducible rfl
            try simp only [Act.put, List.setIfInBounds_toArray, List.set_cons_zero, List.set_cons_succ]
            refine wpG_take (RT.pre w0) (i := 13) (oi := ⟨some 34, _, _, _, _, _⟩) (v := ?hzv13) rfl (by kernel_rfl) (by kernel_rfl) (by kernel_rfl) (fun _ _ _ h => h) (by kernel_rfl) ?hzy13 ?hzr13
            case hzy13 =>
              intro wt hO
              go_simp
              try with_reducible rfl
            try simp only [Act.put, List.setIfInBounds_toArray, List.set_cons_zero, List.set_cons_succ]
            refine wpG_call (RT.pre w0) (i := 14) (o := ⟨some 35, _, _, _, _, _⟩) rfl (by kernel_rfl) (by kernel_rfl) (fun K hK => ?_)
            go_simp
            refine hK.out _ _ HTb.out ?_
            clear hK
            try simp only [Act.put, List.setIfInBounds_toArray, List.set_cons_zero, List.set_cons_succ]
            refine wpG_call (RT.pre w0) (i := 15) (o := ⟨some 36, _, _, _, _, _⟩) rfl (by kernel_rfl) (by kernel_rfl) (fun K hK => ?_)
            go_simp
            rw [show (2 : Int) + (lv : Int) + (k : Int) = ((2 + lv + k : Nat) : Int) by omega]
            refine HLy.out.mono ?_
            rintro ye w2 ⟨rfl, N2⟩
            have HN2 := Lib.hid N2
            refine hK.out _ _ N2.2 ?_
            clear hK N2
            try simp only [Act.put, List.setIfInBounds_toArray, List.set_cons_zero, List.set_cons_succ]
            refine wpG_take (RT.pre w0) (i := 16) (oi := ⟨some 37, _, _, _, _, _⟩) (v := ?hzv16) rfl (by kernel_rfl) (by kernel_rfl) (by kernel_rfl) (fun _ _ _ h => h) (by kernel_rfl) ?hzy16 ?hzr16
            case hzy16 =>
              intro wt hO
              go_simp
              try with_reducible rfl
            try simp only [Act.put, List.setIfInBounds_toArray, List.set_cons_zero, List.set_cons_succ]
            refine wpG_take (RT.pre w0) (i := 17) (oi := ⟨some 38, _, _, _, _, _⟩) (v := ?hzv17) rfl (by kernel_rfl) (by kernel_rfl) (by kernel_rfl) (fun _ _ _ h => h) (by kernel_rfl) ?hzy17 ?hzr17
            case hzy17 =>
              intro wt hO
              go_simp
              try with_reducible rfl
            try simp only [Act.put, List.setIfInBounds_toArray, List.set_cons_zero, List.set_cons_succ]
            refine wpG_done (by kernel_rfl) ?_ _
            go_wp2_with fail
            have HN : Hid (RL w0 lp r m n { L with D := L.D.run (homeTo L (k + 1)) } w2 ∧ Touch (lmine w0 w) w w2) := by
              show RL _ _ _ _ _ _ _ ∧ _
              rw [HD1.out]
              exact ⟨HIb.out.1.turn HN2.out, HIb.out.2.ltrans (Touch.of_rmine HN2.out.2)⟩
            exact ⟨⟨k + 1, by omega, by go_num, HN⟩, by simp [intOf]; omega⟩
    · obtain rfl : k = nw := by omega
      have i1 : ¬ (k : Int) < (k : Int) := by omega
      obtain ⟨r2, hr2⟩ : ∃ r2, (rd + 1) % 2 = r2 := ⟨_, rfl⟩
      have hr2b : r2 < 2 := by omega
      have e2 : ((rd : Int) + 1).tmod 2 = (r2 : Int) := by rw [Int.tmod_eq_emod_of_nonneg (by omega)]; omega
      have HR : Hid (DD = (((L.D.run (homeTo L k)).step .settle).step (.lay r2 (cover (rd + 1) lv))).step .settle) := by show _ = _; rw [← HDD.out, nextT_all, DS.run_append, HWn.out, HRd.out, HLv.out, ← hr2]; rfl
      have HTk : Hid ((L.D.run (homeTo L k)).turns ≤ 99990) := by show _ ≤ _; have := HT.out; omega
      have Hl0 : Hid (10 ≤ (L.D.run (homeTo L k)).T.length) := HI1.out.1.ok.few
      have HD0 : Hid (Blk w1.drew lp 55 [.pointer (some ⟨r, 0, none⟩), .int .i64 (lv : Int), .int .i64 (rd : Int), .int .i64 (L.posts : Int), .int .i64 (L.laid : Int), .map (some m), .bool L.lost]) := by
        have := HI1.out.1.head
        rw [HHd.out, HRh.out] at this
        exact this.touch ((Touch.refl (fun _ => False) w1).drew) (fun q => q)
      have HId : Hid (RL w0 lp r m n { L with D := L.D.run (homeTo L k) } w1.drew ∧ Touch (lmine w0 w) w w1.drew) := ⟨HI1.out.1.old ((Touch.refl _ _).drew), HI1.out.2.drew⟩
      clear htk hlk hhk hr2 HI1 H0 HDD
      generalize L.D.run (homeTo L k) = D0 at *
      have H0 := Lib.hid HId.out.1.n0
      have HS1 := Lib.hid (rsettle_step HId.out.1.rs HId.out.1.ok (by have := HTk.out; show D0.turns ≤ _; omega) HId.out.1.n0)
      have h1t := DS.step_turns D0 .settle
      have h1l := DS.step_len D0 .settle
      have HT1 : Hid ((D0.step .settle).turns ≤ 99991) := by show _ ≤ _; have := HTk.out; omega
      have Hl1 : Hid ((D0.step .settle).T.length = D0.T.length) := h1l
      have h10 : 10 ≤ D0.T.length := Hl0.out
      clear h1t h1l HTk Hl0
      have hwr1 : IntKind.i64.wrap ((rd : Int) + 1) = (rd : Int) + 1 := wrap_fits ⟨by omega, by omega⟩
      rw [show ({ L with D := D0 } : LS).D = D0 from rfl] at HS1
      generalize D0.T.length = n1 at *
      generalize D0.step .settle = D1 at *
      have h2t := DS.step_turns D1 (.lay r2 (cover (rd + 1) lv))
      have HT2 : Hid ((D1.step (.lay r2 (cover (rd + 1) lv))).turns ≤ 99992) := by show _ ≤ _; have := HT1.out; omega
      clear h2t
      obtain ⟨D2, hD2⟩ : ∃ D2, D1.step (.lay r2 (cover (rd + 1) lv)) = D2 := ⟨_, rfl⟩
      have HD2e := Lib.hid hD2
      have HA : Hid (D1.down = true → DD = D1) := fun q => by rw [HR.out, DS.step_down q, DS.step_down q]
      have HA2 : Hid (D2.down = true → DD = D2) := fun q => by rw [HR.out, hD2, DS.step_down q]
      have HDe : Hid ((D1.step (.lay r2 (cover (rd + 1) lv))).step .settle = DD) := by show _ = _; rw [HR.out]
      clear HR
      go_wp2_with fail
      go_cut [76] (fun v wx => ∃ bb : Bool, v = .bool bb ∧ Hid (bb = DD.down ∧ RN w0 r DD w1.drew wx))
      case first =>
        cases hd1 : D1.down with
        | true =>
          as_aux_lemma =>
            have HB1 := Lib.hid (bad_down hd1)
            have HE := Lib.hid (HA.out hd1)
            have HDn := Lib.hid hd1
            clear hd1 hD2
            refine wp_region_G (R := RT w0) (by kernel_rfl) ?_
            refine wpG_take (RT.pre w0) (i := 0) (oi := ⟨some 39, _, _, _, _, _⟩) (v := ?hav0) rfl (by kernel_rfl) (by kernel_rfl) (by kernel_rfl) (fun _ _ _ h => h) (by kernel_rfl) ?hay0 ?har0
            case hay0 =>
              intro wt hO
              go_simp
              try with_reducible rfl
            try simp only [Act.put, List.setIfInBounds_toArray, List.set_cons_zero, List.set_cons_succ]
            refine wpG_take (RT.pre w0) (i := 1) (oi := ⟨some 40, _, _, _, _, _⟩) (v := ?hav1) rfl (by kernel_rfl) (by kernel_rfl) (by kernel_rfl) (fun _ _ _ h => h) (by kernel_rfl) ?hay1 ?har1
            case hay1 =>
              intro wt hO
              go_simp
              try with_reducible rfl
            try simp only [Act.put, List.setIfInBounds_toArray, List.set_cons_zero, List.set_cons_succ]
            refine wpG_take (RT.pre w0) (i := 2) (oi := ⟨some 41, _, _, _, _, _⟩) (v := ?hav2) rfl (by kernel_rfl) (by kernel_rfl) (by kernel_rfl) (fun _ _ _ h => h) (by kernel_rfl) ?hay2 ?har2
            case hay2 =>
              intro wt hO
              go_simp
              try with_reducible rfl
            try simp only [Act.put, List.setIfInBounds_toArray, List.set_cons_zero, List.set_cons_succ]
            refine wpG_take (RT.pre w0) (i := 3) (oi := ⟨some 42, _, _, _, _, _⟩) (v := ?hav3) rfl (by kernel_rfl) (by kernel_rfl) (by kernel_rfl) (fun _ _ _ h => h) (by kernel_rfl) ?hay3 ?har3
            case hay3 =>
              intro wt hO
              have f0 : wt.cell? ⟨lp, 0, none⟩ = some (.pointer (some ⟨r, 0, none⟩)) := (HD0.out.rstay hO (by decide)).cell 0; go_simp
              try with_reducible rfl
            try simp only [Act.put, List.setIfInBounds_toArray, List.set_cons_zero, List.set_cons_succ]
            refine wpG_call (RT.pre w0) (i := 4) (o := ⟨some 43, _, _, _, _, _⟩) rfl (by kernel_rfl) (by kernel_rfl) (fun K hK => ?_)
            go_simp
            refine HS1.out.mono ?_
            rintro ye w1 ⟨rfl, N1⟩
            rw [HB1.out]
            have HN1 := Lib.hid N1
            have HD1 := Lib.hid (HD0.out.rstay N1.2 (by decide))
            refine hK.out _ _ N1.2 ?_
            clear hK N1
            try simp only [Act.put, List.setIfInBounds_toArray, List.set_cons_zero, List.set_cons_succ]
            refine wpG_take (RT.pre w0) (i := 5) (oi := ⟨some 44, _, _, _, _, _⟩) (v := ?hav5) rfl (by kernel_rfl) (by kernel_rfl) (by kernel_rfl) (fun _ _ _ h => h) (by kernel_rfl) ?hay5 ?har5
            case hay5 =>
              intro wt hO
              go_simp
              try with_reducible rfl
            try simp only [Act.put, List.setIfInBounds_toArray, List.set_cons_zero, List.set_cons_succ]
            refine wpG_take (RT.pre w0) (i := 6) (oi := ⟨some 45, _, _, _, _, _⟩) (v := ?hav6) rfl (by kernel_rfl) (by kernel_rfl) (by kernel_rfl) (fun _ _ _ h => h) (by kernel_rfl) ?hay6 ?har6
            case hay6 =>
              intro wt hO
              go_simp
              try with_reducible rfl
            try simp only [Act.put, List.setIfInBounds_toArray, List.set_cons_zero, List.set_cons_succ]
            refine wpG_skip (RT.pre w0) (i := 7) (oi := ⟨some 46, _, _, _, _, _⟩) rfl (by kernel_rfl) (by kernel_rfl) (by kernel_rfl) (fun _ _ _ h => h) (by kernel_rfl) ?_
            try simp only [Act.put, List.setIfInBounds_toArray, List.set_cons_zero, List.set_cons_succ]
            refine wpG_skip (RT.pre w0) (i := 8) (oi := ⟨some 47, _, _, _, _, _⟩) rfl (by kernel_rfl) (by kernel_rfl) (by kernel_rfl) (fun _ _ _ h => h) (by kernel_rfl) ?_
            try simp only [Act.put, List.setIfInBounds_toArray, List.set_cons_zero, List.set_cons_succ]
            refine wpG_skip (RT.pre w0) (i := 9) (oi := ⟨some 48, _, _, _, _, _⟩) rfl (by kernel_rfl) (by kernel_rfl) (by kernel_rfl) (fun _ _ _ h => h) (by kernel_rfl) ?_
            try simp only [Act.put, List.setIfInBounds_toArray, List.set_cons_zero, List.set_cons_succ]
            refine wpG_skip (RT.pre w0) (i := 10) (oi := ⟨some 49, _, _, _, _, _⟩) rfl (by kernel_rfl) (by kernel_rfl) (by kernel_rfl) (fun _ _ _ h => h) (by kernel_rfl) ?_
            try simp only [Act.put, List.setIfInBounds_toArray, List.set_cons_zero, List.set_cons_succ]
            refine wpG_skip (RT.pre w0) (i := 11) (oi := ⟨some 50, _, _, _, _, _⟩) rfl (by kernel_rfl) (by kernel_rfl) (by kernel_rfl) (fun _ _ _ h => h) (by kernel_rfl) ?_
            try simp only [Act.put, List.setIfInBounds_toArray, List.set_cons_zero, List.set_cons_succ]
            refine wpG_skip (RT.pre w0) (i := 12) (oi := ⟨some 51, _, _, _, _, _⟩) rfl (by kernel_rfl) (by kernel_rfl) (by kernel_rfl) (fun _ _ _ h => h) (by kernel_rfl) ?_
            try simp only [Act.put, List.setIfInBounds_toArray, List.set_cons_zero, List.set_cons_succ]
            refine wpG_skip (RT.pre w0) (i := 13) (oi := ⟨some 52, _, _, _, _, _⟩) rfl (by kernel_rfl) (by kernel_rfl) (by kernel_rfl) (fun _ _ _ h => h) (by kernel_rfl) ?_
            try simp only [Act.put, List.setIfInBounds_toArray, List.set_cons_zero, List.set_cons_succ]
            refine wpG_skip (RT.pre w0) (i := 14) (oi := ⟨some 53, _, _, _, _, _⟩) rfl (by kernel_rfl) (by kernel_rfl) (by kernel_rfl) (fun _ _ _ h => h) (by kernel_rfl) ?_
            try simp only [Act.put, List.setIfInBounds_toArray, List.set_cons_zero, List.set_cons_succ]
            refine wpG_skip (RT.pre w0) (i := 15) (oi := ⟨some 54, _, _, _, _, _⟩) rfl (by kernel_rfl) (by kernel_rfl) (by kernel_rfl) (fun _ _ _ h => h) (by kernel_rfl) ?_
            try simp only [Act.put, List.setIfInBounds_toArray, List.set_cons_zero, List.set_cons_succ]
            refine wpG_skip (RT.pre w0) (i := 16) (oi := ⟨some 55, _, _, _, _, _⟩) rfl (by kernel_rfl) (by kernel_rfl) (by kernel_rfl) (fun _ _ _ h => h) (by kernel_rfl) ?_
            try simp only [Act.put, List.setIfInBounds_toArray, List.set_cons_zero, List.set_cons_succ]
            refine wpG_skip (RT.pre w0) (i := 17) (oi := ⟨some 56, _, _, _, _, _⟩) rfl (by kernel_rfl) (by kernel_rfl) (by kernel_rfl) (fun _ _ _ h => h) (by kernel_rfl) ?_
            try simp only [Act.put, List.setIfInBounds_toArray, List.set_cons_zero, List.set_cons_succ]
            refine wpG_skip (RT.pre w0) (i := 18) (oi := ⟨some 57, _, _, _, _, _⟩) rfl (by kernel_rfl) (by kernel_rfl) (by kernel_rfl) (fun _ _ _ h => h) (by kernel_rfl) ?_
            try simp only [Act.put, List.setIfInBounds_toArray, List.set_cons_zero, List.set_cons_succ]
            refine wpG_skip (RT.pre w0) (i := 19) (oi := ⟨some 58, _, _, _, _, _⟩) rfl (by kernel_rfl) (by kernel_rfl) (by kernel_rfl) (fun _ _ _ h => h) (by kernel_rfl) ?_
            try simp only [Act.put, List.setIfInBounds_toArray, List.set_cons_zero, List.set_cons_succ]
            refine wpG_skip (RT.pre w0) (i := 20) (oi := ⟨some 59, _, _, _, _, _⟩) rfl (by kernel_rfl) (by kernel_rfl) (by kernel_rfl) (fun _ _ _ h => h) (by kernel_rfl) ?_
            try simp only [Act.put, List.setIfInBounds_toArray, List.set_cons_zero, List.set_cons_succ]
            refine wpG_skip (RT.pre w0) (i := 21) (oi := ⟨some 60, _, _, _, _, _⟩) rfl (by kernel_rfl) (by kernel_rfl) (by kernel_rfl) (fun _ _ _ h => h) (by kernel_rfl) ?_
            try simp only [Act.put, List.setIfInBounds_toArray, List.set_cons_zero, List.set_cons_succ]
            refine wpG_skip (RT.pre w0) (i := 22) (oi := ⟨some 61, _, _, _, _, _⟩) rfl (by kernel_rfl) (by kernel_rfl) (by kernel_rfl) (fun _ _ _ h => h) (by kernel_rfl) ?_
            try simp only [Act.put, List.setIfInBounds_toArray, List.set_cons_zero, List.set_cons_succ]
            refine wpG_skip (RT.pre w0) (i := 23) (oi := ⟨some 62, _, _, _, _, _⟩) rfl (by kernel_rfl) (by kernel_rfl) (by kernel_rfl) (fun _ _ _ h => h) (by kernel_rfl) ?_
            try simp only [Act.put, List.setIfInBounds_toArray, List.set_cons_zero, List.set_cons_succ]
            refine wpG_skip (RT.pre w0) (i := 24) (oi := ⟨some 63, _, _, _, _, _⟩) rfl (by kernel_rfl) (by kernel_rfl) (by kernel_rfl) (fun _ _ _ h => h) (by kernel_rfl) ?_
            try simp only [Act.put, List.setIfInBounds_toArray, List.set_cons_zero, List.set_cons_succ]
            refine wpG_skip (RT.pre w0) (i := 25) (oi := ⟨some 64, _, _, _, _, _⟩) rfl (by kernel_rfl) (by kernel_rfl) (by kernel_rfl) (fun _ _ _ h => h) (by kernel_rfl) ?_
            try simp only [Act.put, List.setIfInBounds_toArray, List.set_cons_zero, List.set_cons_succ]
            refine wpG_skip (RT.pre w0) (i := 26) (oi := ⟨some 65, _, _, _, _, _⟩) rfl (by kernel_rfl) (by kernel_rfl) (by kernel_rfl) (fun _ _ _ h => h) (by kernel_rfl) ?_
            try simp only [Act.put, List.setIfInBounds_toArray, List.set_cons_zero, List.set_cons_succ]
            refine wpG_skip (RT.pre w0) (i := 27) (oi := ⟨some 66, _, _, _, _, _⟩) rfl (by kernel_rfl) (by kernel_rfl) (by kernel_rfl) (fun _ _ _ h => h) (by kernel_rfl) ?_
            try simp only [Act.put, List.setIfInBounds_toArray, List.set_cons_zero, List.set_cons_succ]
            refine wpG_skip (RT.pre w0) (i := 28) (oi := ⟨some 67, _, _, _, _, _⟩) rfl (by kernel_rfl) (by kernel_rfl) (by kernel_rfl) (fun _ _ _ h => h) (by kernel_rfl) ?_
            try simp only [Act.put, List.setIfInBounds_toArray, List.set_cons_zero, List.set_cons_succ]
            refine wpG_take (RT.pre w0) (i := 29) (oi := ⟨some 68, _, _, _, _, _⟩) (v := ?hav29) rfl (by kernel_rfl) (by kernel_rfl) (by kernel_rfl) (fun _ _ _ h => h) (by kernel_rfl) ?hay29 ?har29
            case hay29 =>
              intro wt hO
              go_simp
              try with_reducible rfl
            try simp only [Act.put, List.setIfInBounds_toArray, List.set_cons_zero, List.set_cons_succ]
            refine wpG_take (RT.pre w0) (i := 30) (oi := ⟨some 69, _, _, _, _, _⟩) (v := ?hav30) rfl (by kernel_rfl) (by kernel_rfl) (by kernel_rfl) (fun _ _ _ h => h) (by kernel_rfl) ?hay30 ?har30
            case hay30 =>
              intro wt hO
              go_simp
              try with_reducible rfl
            try simp only [Act.put, List.setIfInBounds_toArray, List.set_cons_zero, List.set_cons_succ]
            refine wpG_skip (RT.pre w0) (i := 31) (oi := ⟨some 70, _, _, _, _, _⟩) rfl (by kernel_rfl) (by kernel_rfl) (by kernel_rfl) (fun _ _ _ h => h) (by kernel_rfl) ?_
            try simp only [Act.put, List.setIfInBounds_toArray, List.set_cons_zero, List.set_cons_succ]
            refine wpG_skip (RT.pre w0) (i := 32) (oi := ⟨some 71, _, _, _, _, _⟩) rfl (by kernel_rfl) (by kernel_rfl) (by kernel_rfl) (fun _ _ _ h => h) (by kernel_rfl) ?_
            try simp only [Act.put, List.setIfInBounds_toArray, List.set_cons_zero, List.set_cons_succ]
            refine wpG_skip (RT.pre w0) (i := 33) (oi := ⟨some 72, _, _, _, _, _⟩) rfl (by kernel_rfl) (by kernel_rfl) (by kernel_rfl) (fun _ _ _ h => h) (by kernel_rfl) ?_
            try simp only [Act.put, List.setIfInBounds_toArray, List.set_cons_zero, List.set_cons_succ]
            refine wpG_skip (RT.pre w0) (i := 34) (oi := ⟨some 73, _, _, _, _, _⟩) rfl (by kernel_rfl) (by kernel_rfl) (by kernel_rfl) (fun _ _ _ h => h) (by kernel_rfl) ?_
            try simp only [Act.put, List.setIfInBounds_toArray, List.set_cons_zero, List.set_cons_succ]
            refine wpG_skip (RT.pre w0) (i := 35) (oi := ⟨some 74, _, _, _, _, _⟩) rfl (by kernel_rfl) (by kernel_rfl) (by kernel_rfl) (fun _ _ _ h => h) (by kernel_rfl) ?_
            try simp only [Act.put, List.setIfInBounds_toArray, List.set_cons_zero, List.set_cons_succ]
            refine wpG_skip (RT.pre w0) (i := 36) (oi := ⟨some 75, _, _, _, _, _⟩) rfl (by kernel_rfl) (by kernel_rfl) (by kernel_rfl) (fun _ _ _ h => h) (by kernel_rfl) ?_
            try simp only [Act.put, List.setIfInBounds_toArray, List.set_cons_zero, List.set_cons_succ]
            refine wpG_take (RT.pre w0) (i := 37) (oi := ⟨some 76, _, _, _, _, _⟩) (v := ?hav37) rfl (by kernel_rfl) (by kernel_rfl) (by kernel_rfl) (fun _ _ _ h => h) (by kernel_rfl) ?hay37 ?har37
            case hay37 =>
              intro wt hO
              go_simp
              try with_reducible rfl
            try simp only [Act.put, List.setIfInBounds_toArray, List.set_cons_zero, List.set_cons_succ]
            refine wpG_done (by kernel_rfl) ?_ _
            go_wp2_with fail
            go_meet
            exact ⟨_, rfl, by rw [HE.out, HDn.out], by rw [HE.out]; exact HN1.out⟩
        | false =>
          have HB1 := Lib.hid (bad_up hd1)
          cases hd2 : D2.down with
          | true =>
            as_aux_lemma =>
              have HB2 : Hid ((D1.step (.lay r2 (cover (rd + 1) lv))).bad = 4) := by rw [hD2]; exact bad_down hd2
              have HE := Lib.hid (HA2.out hd2)
              have HDn := Lib.hid hd2
              clear hd1 hd2 hD2
              refine wp_region_G (R := RT w0) (by kernel_rfl) ?_
              refine wpG_take (RT.pre w0) (i := 0) (oi := ⟨some 39, _, _, _, _, _⟩) (v := ?hbv0) rfl (by kernel_rfl) (by kernel_rfl) (by kernel_rfl) (fun _ _ _ h => h) (by kernel_rfl) ?hby0 ?hbr0
              case hby0 =>
                intro wt hO
                go_simp
                try with_reducible rfl
              try simp only [Act.put, List.setIfInBounds_toArray, List.set_cons_zero, List.set_cons_succ]
              refine wpG_take (RT.pre w0) (i := 1) (oi := ⟨some 40, _, _, _, _, _⟩) (v := ?hbv1) rfl (by kernel_rfl) (by kernel_rfl) (by kernel_rfl) (fun _ _ _ h => h) (by kernel_rfl) ?hby1 ?hbr1
              case hby1 =>
                intro wt hO
                go_simp
                try with_reducible rfl
              try simp only [Act.put, List.setIfInBounds_toArray, List.set_cons_zero, List.set_cons_succ]
              refine wpG_take (RT.pre w0) (i := 2) (oi := ⟨some 41, _, _, _, _, _⟩) (v := ?hbv2) rfl (by kernel_rfl) (by kernel_rfl) (by kernel_rfl) (fun _ _ _ h => h) (by kernel_rfl) ?hby2 ?hbr2
              case hby2 =>
                intro wt hO
                go_simp
                try with_reducible rfl
              try simp only [Act.put, List.setIfInBounds_toArray, List.set_cons_zero, List.set_cons_succ]
              refine wpG_take (RT.pre w0) (i := 3) (oi := ⟨some 42, _, _, _, _, _⟩) (v := ?hbv3) rfl (by kernel_rfl) (by kernel_rfl) (by kernel_rfl) (fun _ _ _ h => h) (by kernel_rfl) ?hby3 ?hbr3
              case hby3 =>
                intro wt hO
                have f0 : wt.cell? ⟨lp, 0, none⟩ = some (.pointer (some ⟨r, 0, none⟩)) := (HD0.out.rstay hO (by decide)).cell 0; go_simp
                try with_reducible rfl
              try simp only [Act.put, List.setIfInBounds_toArray, List.set_cons_zero, List.set_cons_succ]
              refine wpG_call (RT.pre w0) (i := 4) (o := ⟨some 43, _, _, _, _, _⟩) rfl (by kernel_rfl) (by kernel_rfl) (fun K hK => ?_)
              go_simp
              refine HS1.out.mono ?_
              rintro ye w1 ⟨rfl, N1⟩
              rw [HB1.out]
              have HN1 := Lib.hid N1
              have HD1 := Lib.hid (HD0.out.rstay N1.2 (by decide))
              refine hK.out _ _ N1.2 ?_
              clear hK N1
              try simp only [Act.put, List.setIfInBounds_toArray, List.set_cons_zero, List.set_cons_succ]
              refine wpG_take (RT.pre w0) (i := 5) (oi := ⟨some 44, _, _, _, _, _⟩) (v := ?hbv5) rfl (by kernel_rfl) (by kernel_rfl) (by kernel_rfl) (fun _ _ _ h => h) (by kernel_rfl) ?hby5 ?hbr5
              case hby5 =>
                intro wt hO
                go_simp
                try with_reducible rfl
              try simp only [Act.put, List.setIfInBounds_toArray, List.set_cons_zero, List.set_cons_succ]
              refine wpG_take (RT.pre w0) (i := 6) (oi := ⟨some 45, _, _, _, _, _⟩) (v := ?hbv6) rfl (by kernel_rfl) (by kernel_rfl) (by kernel_rfl) (fun _ _ _ h => h) (by kernel_rfl) ?hby6 ?hbr6
              case hby6 =>
                intro wt hO
                go_simp
                try with_reducible rfl
              try simp only [Act.put, List.setIfInBounds_toArray, List.set_cons_zero, List.set_cons_succ]
              refine wpG_take (RT.pre w0) (i := 7) (oi := ⟨some 46, _, _, _, _, _⟩) (v := ?hbv7) rfl (by kernel_rfl) (by kernel_rfl) (by kernel_rfl) (fun _ _ _ h => h) (by kernel_rfl) ?hby7 ?hbr7
              case hby7 =>
                intro wt hO
                go_simp
                try with_reducible rfl
              try simp only [Act.put, List.setIfInBounds_toArray, List.set_cons_zero, List.set_cons_succ]
              refine wpG_take (RT.pre w0) (i := 8) (oi := ⟨some 47, _, _, _, _, _⟩) (v := ?hbv8) rfl (by kernel_rfl) (by kernel_rfl) (by kernel_rfl) (fun _ _ _ h => h) (by kernel_rfl) ?hby8 ?hbr8
              case hby8 =>
                intro wt hO
                go_simp
                try with_reducible rfl
              try simp only [Act.put, List.setIfInBounds_toArray, List.set_cons_zero, List.set_cons_succ]
              refine wpG_take (RT.pre w0) (i := 9) (oi := ⟨some 48, _, _, _, _, _⟩) (v := ?hbv9) rfl (by kernel_rfl) (by kernel_rfl) (by kernel_rfl) (fun _ _ _ h => h) (by kernel_rfl) ?hby9 ?hbr9
              case hby9 =>
                intro wt hO
                go_simp
                try with_reducible rfl
              try simp only [Act.put, List.setIfInBounds_toArray, List.set_cons_zero, List.set_cons_succ]
              refine wpG_take (RT.pre w0) (i := 10) (oi := ⟨some 49, _, _, _, _, _⟩) (v := ?hbv10) rfl (by kernel_rfl) (by kernel_rfl) (by kernel_rfl) (fun _ _ _ h => h) (by kernel_rfl) ?hby10 ?hbr10
              case hby10 =>
                intro wt hO
                have f0 : wt.cell? ⟨lp, 0, none⟩ = some (.pointer (some ⟨r, 0, none⟩)) := (HD1.out.rstay hO (by decide)).cell 0; go_simp
                try with_reducible rfl
              try simp only [Act.put, List.setIfInBounds_toArray, List.set_cons_zero, List.set_cons_succ]
              refine wpG_take (RT.pre w0) (i := 11) (oi := ⟨some 50, _, _, _, _, _⟩) (v := ?hbv11) rfl (by kernel_rfl) (by kernel_rfl) (by kernel_rfl) (fun _ _ _ h => h) (by kernel_rfl) ?hby11 ?hbr11
              case hby11 =>
                intro wt hO
                go_simp
                try with_reducible rfl
              try simp only [Act.put, List.setIfInBounds_toArray, List.set_cons_zero, List.set_cons_succ]
              refine wpG_take (RT.pre w0) (i := 12) (oi := ⟨some 51, _, _, _, _, _⟩) (v := ?hbv12) rfl (by kernel_rfl) (by kernel_rfl) (by kernel_rfl) (fun _ _ _ h => h) (by kernel_rfl) ?hby12 ?hbr12
              case hby12 =>
                intro wt hO
                go_simp
                try with_reducible rfl
              try simp only [Act.put, List.setIfInBounds_toArray, List.set_cons_zero, List.set_cons_succ]
              refine wpG_take (RT.pre w0) (i := 13) (oi := ⟨some 52, _, _, _, _, _⟩) (v := ?hbv13) rfl (by kernel_rfl) (by kernel_rfl) (by kernel_rfl) (fun _ _ _ h => h) (by kernel_rfl) ?hby13 ?hbr13
              case hby13 =>
                intro wt hO
                go_simp
                try with_reducible rfl
              try simp only [Act.put, List.setIfInBounds_toArray, List.set_cons_zero, List.set_cons_succ]
              refine wpG_take (RT.pre w0) (i := 14) (oi := ⟨some 53, _, _, _, _, _⟩) (v := ?hbv14) rfl (by kernel_rfl) (by kernel_rfl) (by kernel_rfl) (fun _ _ _ h => h) (by kernel_rfl) ?hby14 ?hbr14
              case hby14 =>
                intro wt hO
                have f0 : wt.cell? ⟨lp, 2, none⟩ = some (.int .i64 (rd : Int)) := (HD1.out.rstay hO (by decide)).cell 2; go_simp
                try with_reducible rfl
              try simp only [Act.put, List.setIfInBounds_toArray, List.set_cons_zero, List.set_cons_succ]
              refine wpG_take (RT.pre w0) (i := 15) (oi := ⟨some 54, _, _, _, _, _⟩) (v := ?hbv15) rfl (by kernel_rfl) (by kernel_rfl) (by kernel_rfl) (fun _ _ _ h => h) (by kernel_rfl) ?hby15 ?hbr15
              case hby15 =>
                intro wt hO
                go_simp
                try with_reducible rfl
              try simp only [Act.put, List.setIfInBounds_toArray, List.set_cons_zero, List.set_cons_succ]
              refine wpG_take (RT.pre w0) (i := 16) (oi := ⟨some 55, _, _, _, _, _⟩) (v := ?hbv16) rfl (by kernel_rfl) (by kernel_rfl) (by kernel_rfl) (fun _ _ _ h => h) (by kernel_rfl) ?hby16 ?hbr16
              case hby16 =>
                intro wt hO
                go_simp
                try with_reducible rfl
              try simp only [Act.put, List.setIfInBounds_toArray, List.set_cons_zero, List.set_cons_succ]
              refine wpG_take (RT.pre w0) (i := 17) (oi := ⟨some 56, _, _, _, _, _⟩) (v := ?hbv17) rfl (by kernel_rfl) (by kernel_rfl) (by kernel_rfl) (fun _ _ _ h => h) (by kernel_rfl) ?hby17 ?hbr17
              case hby17 =>
                intro wt hO
                go_simp
                try with_reducible rfl
              try simp only [Act.put, List.setIfInBounds_toArray, List.set_cons_zero, List.set_cons_succ]
              refine wpG_take (RT.pre w0) (i := 18) (oi := ⟨some 57, _, _, _, _, _⟩) (v := ?hbv18) rfl (by kernel_rfl) (by kernel_rfl) (by kernel_rfl) (fun _ _ _ h => h) (by kernel_rfl) ?hby18 ?hbr18
              case hby18 =>
                intro wt hO
                go_simp
                try with_reducible rfl
              try simp only [Act.put, List.setIfInBounds_toArray, List.set_cons_zero, List.set_cons_succ]
              refine wpG_take (RT.pre w0) (i := 19) (oi := ⟨some 58, _, _, _, _, _⟩) (v := ?hbv19) rfl (by kernel_rfl) (by kernel_rfl) (by kernel_rfl) (fun _ _ _ h => h) (by kernel_rfl) ?hby19 ?hbr19
              case hby19 =>
                intro wt hO
                go_simp
                try with_reducible rfl
              try simp only [Act.put, List.setIfInBounds_toArray, List.set_cons_zero, List.set_cons_succ]
              refine wpG_take (RT.pre w0) (i := 20) (oi := ⟨some 59, _, _, _, _, _⟩) (v := ?hbv20) rfl (by kernel_rfl) (by kernel_rfl) (by kernel_rfl) (fun _ _ _ h => h) (by kernel_rfl) ?hby20 ?hbr20
              case hby20 =>
                intro wt hO
                have f0 : wt.cell? ⟨lp, 2, none⟩ = some (.int .i64 (rd : Int)) := (HD1.out.rstay hO (by decide)).cell 2; go_simp
                try with_reducible rfl
              try simp only [Act.put, List.setIfInBounds_toArray, List.set_cons_zero, List.set_cons_succ]
              refine wpG_take (RT.pre w0) (i := 21) (oi := ⟨some 60, _, _, _, _, _⟩) (v := ?hbv21) rfl (by kernel_rfl) (by kernel_rfl) (by kernel_rfl) (fun _ _ _ h => h) (by kernel_rfl) ?hby21 ?hbr21
              case hby21 =>
                intro wt hO
                go_simp
                try with_reducible rfl
              try simp only [Act.put, List.setIfInBounds_toArray, List.set_cons_zero, List.set_cons_succ]
              refine wpG_take (RT.pre w0) (i := 22) (oi := ⟨some 61, _, _, _, _, _⟩) (v := ?hbv22) rfl (by kernel_rfl) (by kernel_rfl) (by kernel_rfl) (fun _ _ _ h => h) (by kernel_rfl) ?hby22 ?hbr22
              case hby22 =>
                intro wt hO
                go_simp
                try with_reducible rfl
              try simp only [Act.put, List.setIfInBounds_toArray, List.set_cons_zero, List.set_cons_succ]
              refine wpG_take (RT.pre w0) (i := 23) (oi := ⟨some 62, _, _, _, _, _⟩) (v := ?hbv23) rfl (by kernel_rfl) (by kernel_rfl) (by kernel_rfl) (fun _ _ _ h => h) (by kernel_rfl) ?hby23 ?hbr23
              case hby23 =>
                intro wt hO
                go_simp
                try with_reducible rfl
              try simp only [Act.put, List.setIfInBounds_toArray, List.set_cons_zero, List.set_cons_succ]
              refine wpG_take (RT.pre w0) (i := 24) (oi := ⟨some 63, _, _, _, _, _⟩) (v := ?hbv24) rfl (by kernel_rfl) (by kernel_rfl) (by kernel_rfl) (fun _ _ _ h => h) (by kernel_rfl) ?hby24 ?hbr24
              case hby24 =>
                intro wt hO
                go_simp
                try with_reducible rfl
              try simp only [Act.put, List.setIfInBounds_toArray, List.set_cons_zero, List.set_cons_succ]
              refine wpG_take (RT.pre w0) (i := 25) (oi := ⟨some 64, _, _, _, _, _⟩) (v := ?hbv25) rfl (by kernel_rfl) (by kernel_rfl) (by kernel_rfl) (fun _ _ _ h => h) (by kernel_rfl) ?hby25 ?hbr25
              case hby25 =>
                intro wt hO
                have f0 : wt.cell? ⟨lp, 1, none⟩ = some (.int .i64 (lv : Int)) := (HD1.out.rstay hO (by decide)).cell 1; go_simp
                try with_reducible rfl
              try simp only [Act.put, List.setIfInBounds_toArray, List.set_cons_zero, List.set_cons_succ]
              refine wpG_call (RT.pre w0) (i := 26) (o := ⟨some 65, _, _, _, _, _⟩) rfl (by kernel_rfl) (by kernel_rfl) (fun K hK => ?_)
              go_simp
              rw [show (rd : Int) + 1 = ((rd + 1 : Nat) : Int) by omega]
              refine (rcover_any (rd + 1) lv w1 (by omega) (by omega)).mono ?_
              rintro ye wc ⟨gc, cc, rfl, _, _, Gc, Tc⟩
              rw [cover_length]
              have HLc := Lib.hid Gc.own.loose
              have HNc := Lib.hid (HN1.out.behind Tc)
              refine hK.out _ _ (Touch.of_old Tc) ?_
              clear hK Gc Tc
              try simp only [Act.put, List.setIfInBounds_toArray, List.set_cons_zero, List.set_cons_succ]
              refine wpG_call (RT.pre w0) (i := 27) (o := ⟨some 66, _, _, _, _, _⟩) rfl (by kernel_rfl) (by kernel_rfl) (fun K hK => ?_)
              go_simp
              refine (rlay_step HNc.out.1.1 HNc.out.1.2 (by have := HT1.out; omega) (Nat.le_trans H0.out HNc.out.2.size) r2 gc (cover (rd + 1) lv) cc (by rw [Hl1.out]; omega) (cover_trk _ _) HLc.out).mono ?_
              rintro ye w2 ⟨rfl, N2⟩
              rw [HB2.out]
              have HN2 := Lib.hid (HNc.out.trans N2)
              have HD2 := Lib.hid (HD0.out.rstay HN2.out.2 (by decide))
              refine hK.out _ _ N2.2 ?_
              clear hK N2 HNc HLc
              try simp only [Act.put, List.setIfInBounds_toArray, List.set_cons_zero, List.set_cons_succ]
              refine wpG_take (RT.pre w0) (i := 28) (oi := ⟨some 67, _, _, _, _, _⟩) (v := ?hbv28) rfl (by kernel_rfl) (by kernel_rfl) (by kernel_rfl) (fun _ _ _ h => h) (by kernel_rfl) ?hby28 ?hbr28
              case hby28 =>
                intro wt hO
                go_simp
                try with_reducible rfl
              try simp only [Act.put, List.setIfInBounds_toArray, List.set_cons_zero, List.set_cons_succ]
              refine wpG_take (RT.pre w0) (i := 29) (oi := ⟨some 68, _, _, _, _, _⟩) (v := ?hbv29) rfl (by kernel_rfl) (by kernel_rfl) (by kernel_rfl) (fun _ _ _ h => h) (by kernel_rfl) ?hby29 ?hbr29
              case hby29 =>
                intro wt hO
                go_simp
                try with_reducible rfl
              try simp only [Act.put, List.setIfInBounds_toArray, List.set_cons_zero, List.set_cons_succ]
              refine wpG_take (RT.pre w0) (i := 30) (oi := ⟨some 69, _, _, _, _, _⟩) (v := ?hbv30) rfl (by kernel_rfl) (by kernel_rfl) (by kernel_rfl) (fun _ _ _ h => h) (by kernel_rfl) ?hby30 ?hbr30
              case hby30 =>
                intro wt hO
                go_simp
                try with_reducible rfl
              try simp only [Act.put, List.setIfInBounds_toArray, List.set_cons_zero, List.set_cons_succ]
              refine wpG_skip (RT.pre w0) (i := 31) (oi := ⟨some 70, _, _, _, _, _⟩) rfl (by kernel_rfl) (by kernel_rfl) (by kernel_rfl) (fun _ _ _ h => h) (by kernel_rfl) ?_
              try simp only [Act.put, List.setIfInBounds_toArray, List.set_cons_zero, List.set_cons_succ]
              refine wpG_skip (RT.pre w0) (i := 32) (oi := ⟨some 71, _, _, _, _, _⟩) rfl (by kernel_rfl) (by kernel_rfl) (by kernel_rfl) (fun _ _ _ h => h) (by kernel_rfl) ?_
              try simp only [Act.put, List.setIfInBounds_toArray, List.set_cons_zero, List.set_cons_succ]
              refine wpG_skip (RT.pre w0) (i := 33) (oi := ⟨some 72, _, _, _, _, _⟩) rfl (by kernel_rfl) (by kernel_rfl) (by kernel_rfl) (fun _ _ _ h => h) (by kernel_rfl) ?_
              try simp only [Act.put, List.setIfInBounds_toArray, List.set_cons_zero, List.set_cons_succ]
              refine wpG_skip (RT.pre w0) (i := 34) (oi := ⟨some 73, _, _, _, _, _⟩) rfl (by kernel_rfl) (by kernel_rfl) (by kernel_rfl) (fun _ _ _ h => h) (by kernel_rfl) ?_
              try simp only [Act.put, List.setIfInBounds_toArray, List.set_cons_zero, List.set_cons_succ]
              refine wpG_skip (RT.pre w0) (i := 35) (oi := ⟨some 74, _, _, _, _, _⟩) rfl (by kernel_rfl) (by kernel_rfl) (by kernel_rfl) (fun _ _ _ h => h) (by kernel_rfl) ?_
              try simp only [Act.put, List.setIfInBounds_toArray, List.set_cons_zero, List.set_cons_succ]
              refine wpG_skip (RT.pre w0) (i := 36) (oi := ⟨some 75, _, _, _, _, _⟩) rfl (by kernel_rfl) (by kernel_rfl) (by kernel_rfl) (fun _ _ _ h => h) (by kernel_rfl) ?_
              try simp only [Act.put, List.setIfInBounds_toArray, List.set_cons_zero, List.set_cons_succ]
              refine wpG_take (RT.pre w0) (i := 37) (oi := ⟨some 76, _, _, _, _, _⟩) (v := ?hbv37) rfl (by kernel_rfl) (by kernel_rfl) (by kernel_rfl) (fun _ _ _ h => h) (by kernel_rfl) ?hby37 ?hbr37
              case hby37 =>
                intro wt hO
                go_simp
                try with_reducible rfl
              try simp only [Act.put, List.setIfInBounds_toArray, List.set_cons_zero, List.set_cons_succ]
              refine wpG_done (by kernel_rfl) ?_ _
              go_wp2_with fail
              go_meet
              exact ⟨_, rfl, by rw [HE.out, HDn.out], by rw [HE.out, ← HD2e.out]; exact HN2.out⟩
          | false =>
            have HB2 : Hid ((D1.step (.lay r2 (cover (rd + 1) lv))).bad = 0) := by rw [hD2]; exact bad_up hd2
            cases hd3 : DD.down with
            | true =>
              as_aux_lemma =>
                have HB3 : Hid (((D1.step (.lay r2 (cover (rd + 1) lv))).step .settle).bad = 4) := by rw [HDe.out]; exact bad_down hd3
                have HDn := Lib.hid hd3
                clear hd1 hd2 hd3 hD2
                refine wp_region_G (R := RT w0) (by kernel_rfl) ?_
                refine wpG_take (RT.pre w0) (i := 0) (oi := ⟨some 39, _, _, _, _, _⟩) (v := ?hcv0) rfl (by kernel_rfl) (by kernel_rfl) (by kernel_rfl) (fun _ _ _ h => h) (by kernel_rfl) ?hcy0 ?hcr0
                case hcy0 =>
                  intro wt hO
                  go_simp
                  try with_reducible rfl
                try simp only [Act.put, List.setIfInBounds_toArray, List.set_cons_zero, List.set_cons_succ]
                refine wpG_take (RT.pre w0) (i := 1) (oi := ⟨some 40, _, _, _, _, _⟩) (v := ?hcv1) rfl (by kernel_rfl) (by kernel_rfl) (by kernel_rfl) (fun _ _ _ h => h) (by kernel_rfl) ?hcy1 ?hcr1
                case hcy1 =>
                  intro wt hO
                  go_simp
                  try with_reducible rfl
                try simp only [Act.put, List.setIfInBounds_toArray, List.set_cons_zero, List.set_cons_succ]
                refine wpG_take (RT.pre w0) (i := 2) (oi := ⟨some 41, _, _, _, _, _⟩) (v := ?hcv2) rfl (by kernel_rfl) (by kernel_rfl) (by kernel_rfl) (fun _ _ _ h => h) (by kernel_rfl) ?hcy2 ?hcr2
                case hcy2 =>
                  intro wt hO
                  go_simp
                  try with_reducible rfl
                try simp only [Act.put, List.setIfInBounds_toArray, List.set_cons_zero, List.set_cons_succ]
                refine wpG_take (RT.pre w0) (i := 3) (oi := ⟨some 42, _, _, _, _, _⟩) (v := ?hcv3) rfl (by kernel_rfl) (by kernel_rfl) (by kernel_rfl) (fun _ _ _ h => h) (by kernel_rfl) ?hcy3 ?hcr3
                case hcy3 =>
                  intro wt hO
                  have f0 : wt.cell? ⟨lp, 0, none⟩ = some (.pointer (some ⟨r, 0, none⟩)) := (HD0.out.rstay hO (by decide)).cell 0; go_simp
                  try with_reducible rfl
                try simp only [Act.put, List.setIfInBounds_toArray, List.set_cons_zero, List.set_cons_succ]
                refine wpG_call (RT.pre w0) (i := 4) (o := ⟨some 43, _, _, _, _, _⟩) rfl (by kernel_rfl) (by kernel_rfl) (fun K hK => ?_)
                go_simp
                refine HS1.out.mono ?_
                rintro ye w1 ⟨rfl, N1⟩
                rw [HB1.out]
                have HN1 := Lib.hid N1
                have HD1 := Lib.hid (HD0.out.rstay N1.2 (by decide))
                refine hK.out _ _ N1.2 ?_
                clear hK N1
                try simp only [Act.put, List.setIfInBounds_toArray, List.set_cons_zero, List.set_cons_succ]
                refine wpG_take (RT.pre w0) (i := 5) (oi := ⟨some 44, _, _, _, _, _⟩) (v := ?hcv5) rfl (by kernel_rfl) (by kernel_rfl) (by kernel_rfl) (fun _ _ _ h => h) (by kernel_rfl) ?hcy5 ?hcr5
                case hcy5 =>
                  intro wt hO
                  go_simp
                  try with_reducible rfl
                try simp only [Act.put, List.setIfInBounds_toArray, List.set_cons_zero, List.set_cons_succ]
                refine wpG_take (RT.pre w0) (i := 6) (oi := ⟨some 45, _, _, _, _, _⟩) (v := ?hcv6) rfl (by kernel_rfl) (by kernel_rfl) (by kernel_rfl) (fun _ _ _ h => h) (by kernel_rfl) ?hcy6 ?hcr6
                case hcy6 =>
                  intro wt hO
                  go_simp
                  try with_reducible rfl
                try simp only [Act.put, List.setIfInBounds_toArray, List.set_cons_zero, List.set_cons_succ]
                refine wpG_take (RT.pre w0) (i := 7) (oi := ⟨some 46, _, _, _, _, _⟩) (v := ?hcv7) rfl (by kernel_rfl) (by kernel_rfl) (by kernel_rfl) (fun _ _ _ h => h) (by kernel_rfl) ?hcy7 ?hcr7
                case hcy7 =>
                  intro wt hO
                  go_simp
                  try with_reducible rfl
                try simp only [Act.put, List.setIfInBounds_toArray, List.set_cons_zero, List.set_cons_succ]
                refine wpG_take (RT.pre w0) (i := 8) (oi := ⟨some 47, _, _, _, _, _⟩) (v := ?hcv8) rfl (by kernel_rfl) (by kernel_rfl) (by kernel_rfl) (fun _ _ _ h => h) (by kernel_rfl) ?hcy8 ?hcr8
                case hcy8 =>
                  intro wt hO
                  go_simp
                  try with_reducible rfl
                try simp only [Act.put, List.setIfInBounds_toArray, List.set_cons_zero, List.set_cons_succ]
                refine wpG_take (RT.pre w0) (i := 9) (oi := ⟨some 48, _, _, _, _, _⟩) (v := ?hcv9) rfl (by kernel_rfl) (by kernel_rfl) (by kernel_rfl) (fun _ _ _ h => h) (by kernel_rfl) ?hcy9 ?hcr9
                case hcy9 =>
                  intro wt hO
                  go_simp
                  try with_reducible rfl
                try simp only [Act.put, List.setIfInBounds_toArray, List.set_cons_zero, List.set_cons_succ]
                refine wpG_take (RT.pre w0) (i := 10) (oi := ⟨some 49, _, _, _, _, _⟩) (v := ?hcv10) rfl (by kernel_rfl) (by kernel_rfl) (by kernel_rfl) (fun _ _ _ h => h) (by kernel_rfl) ?hcy10 ?hcr10
                case hcy10 =>
                  intro wt hO
                  have f0 : wt.cell? ⟨lp, 0, none⟩ = some (.pointer (some ⟨r, 0, none⟩)) := (HD1.out.rstay hO (by decide)).cell 0; go_simp
                  try with_reducible rfl
                try simp only [Act.put, List.setIfInBounds_toArray, List.set_cons_zero, List.set_cons_succ]
                refine wpG_take (RT.pre w0) (i := 11) (oi := ⟨some 50, _, _, _, _, _⟩) (v := ?hcv11) rfl (by kernel_rfl) (by kernel_rfl) (by kernel_rfl) (fun _ _ _ h => h) (by kernel_rfl) ?hcy11 ?hcr11
                case hcy11 =>
                  intro wt hO
                  go_simp
                  try with_reducible rfl
                try simp only [Act.put, List.setIfInBounds_toArray, List.set_cons_zero, List.set_cons_succ]
                refine wpG_take (RT.pre w0) (i := 12) (oi := ⟨some 51, _, _, _, _, _⟩) (v := ?hcv12) rfl (by kernel_rfl) (by kernel_rfl) (by kernel_rfl) (fun _ _ _ h => h) (by kernel_rfl) ?hcy12 ?hcr12
                case hcy12 =>
                  intro wt hO
                  go_simp
                  try with_reducible rfl
                try simp only [Act.put, List.setIfInBounds_toArray, List.set_cons_zero, List.set_cons_succ]
                refine wpG_take (RT.pre w0) (i := 13) (oi := ⟨some 52, _, _, _, _, _⟩) (v := ?hcv13) rfl (by kernel_rfl) (by kernel_rfl) (by kernel_rfl) (fun _ _ _ h => h) (by kernel_rfl) ?hcy13 ?hcr13
                case hcy13 =>
                  intro wt hO
                  go_simp
                  try with_reducible rfl
                try simp only [Act.put, List.setIfInBounds_toArray, List.set_cons_zero, List.set_cons_succ]
                refine wpG_take (RT.pre w0) (i := 14) (oi := ⟨some 53, _, _, _, _, _⟩) (v := ?hcv14) rfl (by kernel_rfl) (by kernel_rfl) (by kernel_rfl) (fun _ _ _ h => h) (by kernel_rfl) ?hcy14 ?hcr14
                case hcy14 =>
                  intro wt hO
                  have f0 : wt.cell? ⟨lp, 2, none⟩ = some (.int .i64 (rd : Int)) := (HD1.out.rstay hO (by decide)).cell 2; go_simp
                  try with_reducible rfl
                try simp only [Act.put, List.setIfInBounds_toArray, List.set_cons_zero, List.set_cons_succ]
                refine wpG_take (RT.pre w0) (i := 15) (oi := ⟨some 54, _, _, _, _, _⟩) (v := ?hcv15) rfl (by kernel_rfl) (by kernel_rfl) (by kernel_rfl) (fun _ _ _ h => h) (by kernel_rfl) ?hcy15 ?hcr15
                case hcy15 =>
                  intro wt hO
                  go_simp
                  try with_reducible rfl
                try simp only [Act.put, List.setIfInBounds_toArray, List.set_cons_zero, List.set_cons_succ]
                refine wpG_take (RT.pre w0) (i := 16) (oi := ⟨some 55, _, _, _, _, _⟩) (v := ?hcv16) rfl (by kernel_rfl) (by kernel_rfl) (by kernel_rfl) (fun _ _ _ h => h) (by kernel_rfl) ?hcy16 ?hcr16
                case hcy16 =>
                  intro wt hO
                  go_simp
                  try with_reducible rfl
                try simp only [Act.put, List.setIfInBounds_toArray, List.set_cons_zero, List.set_cons_succ]
                refine wpG_take (RT.pre w0) (i := 17) (oi := ⟨some 56, _, _, _, _, _⟩) (v := ?hcv17) rfl (by kernel_rfl) (by kernel_rfl) (by kernel_rfl) (fun _ _ _ h => h) (by kernel_rfl) ?hcy17 ?hcr17
                case hcy17 =>
                  intro wt hO
                  go_simp
                  try with_reducible rfl
                try simp only [Act.put, List.setIfInBounds_toArray, List.set_cons_zero, List.set_cons_succ]
                refine wpG_take (RT.pre w0) (i := 18) (oi := ⟨some 57, _, _, _, _, _⟩) (v := ?hcv18) rfl (by kernel_rfl) (by kernel_rfl) (by kernel_rfl) (fun _ _ _ h => h) (by kernel_rfl) ?hcy18 ?hcr18
                case hcy18 =>
                  intro wt hO
                  go_simp
                  try with_reducible rfl
                try simp only [Act.put, List.setIfInBounds_toArray, List.set_cons_zero, List.set_cons_succ]
                refine wpG_take (RT.pre w0) (i := 19) (oi := ⟨some 58, _, _, _, _, _⟩) (v := ?hcv19) rfl (by kernel_rfl) (by kernel_rfl) (by kernel_rfl) (fun _ _ _ h => h) (by kernel_rfl) ?hcy19 ?hcr19
                case hcy19 =>
                  intro wt hO
                  go_simp
                  try with_reducible rfl
                try simp only [Act.put, List.setIfInBounds_toArray, List.set_cons_zero, List.set_cons_succ]
                refine wpG_take (RT.pre w0) (i := 20) (oi := ⟨some 59, _, _, _, _, _⟩) (v := ?hcv20) rfl (by kernel_rfl) (by kernel_rfl) (by kernel_rfl) (fun _ _ _ h => h) (by kernel_rfl) ?hcy20 ?hcr20
                case hcy20 =>
                  intro wt hO
                  have f0 : wt.cell? ⟨lp, 2, none⟩ = some (.int .i64 (rd : Int)) := (HD1.out.rstay hO (by decide)).cell 2; go_simp
                  try with_reducible rfl
                try simp only [Act.put, List.setIfInBounds_toArray, List.set_cons_zero, List.set_cons_succ]
                refine wpG_take (RT.pre w0) (i := 21) (oi := ⟨some 60, _, _, _, _, _⟩) (v := ?hcv21) rfl (by kernel_rfl) (by kernel_rfl) (by kernel_rfl) (fun _ _ _ h => h) (by kernel_rfl) ?hcy21 ?hcr21
                case hcy21 =>
                  intro wt hO
                  go_simp
                  try with_reducible rfl
                try simp only [Act.put, List.setIfInBounds_toArray, List.set_cons_zero, List.set_cons_succ]
                refine wpG_take (RT.pre w0) (i := 22) (oi := ⟨some 61, _, _, _, _, _⟩) (v := ?hcv22) rfl (by kernel_rfl) (by kernel_rfl) (by kernel_rfl) (fun _ _ _ h => h) (by kernel_rfl) ?hcy22 ?hcr22
                case hcy22 =>
                  intro wt hO
                  go_simp
                  try with_reducible rfl
                try simp only [Act.put, List.setIfInBounds_toArray, List.set_cons_zero, List.set_cons_succ]
                refine wpG_take (RT.pre w0) (i := 23) (oi := ⟨some 62, _, _, _, _, _⟩) (v := ?hcv23) rfl (by kernel_rfl) (by kernel_rfl) (by kernel_rfl) (fun _ _ _ h => h) (by kernel_rfl) ?hcy23 ?hcr23
                case hcy23 =>
                  intro wt hO
                  go_simp
                  try with_reducible rfl
                try simp only [Act.put, List.setIfInBounds_toArray, List.set_cons_zero, List.set_cons_succ]
                refine wpG_take (RT.pre w0) (i := 24) (oi := ⟨some 63, _, _, _, _, _⟩) (v := ?hcv24) rfl (by kernel_rfl) (by kernel_rfl) (by kernel_rfl) (fun _ _ _ h => h) (by kernel_rfl) ?hcy24 ?hcr24
                case hcy24 =>
                  intro wt hO
                  go_simp
                  try with_reducible rfl
                try simp only [Act.put, List.setIfInBounds_toArray, List.set_cons_zero, List.set_cons_succ]
                refine wpG_take (RT.pre w0) (i := 25) (oi := ⟨some 64, _, _, _, _, _⟩) (v := ?hcv25) rfl (by kernel_rfl) (by kernel_rfl) (by kernel_rfl) (fun _ _ _ h => h) (by kernel_rfl) ?hcy25 ?hcr25
                case hcy25 =>
                  intro wt hO
                  have f0 : wt.cell? ⟨lp, 1, none⟩ = some (.int .i64 (lv : Int)) := (HD1.out.rstay hO (by decide)).cell 1; go_simp
                  try with_reducible rfl
                try simp only [Act.put, List.setIfInBounds_toArray, List.set_cons_zero, List.set_cons_succ]
                refine wpG_call (RT.pre w0) (i := 26) (o := ⟨some 65, _, _, _, _, _⟩) rfl (by kernel_rfl) (by kernel_rfl) (fun K hK => ?_)
                go_simp
                rw [show (rd : Int) + 1 = ((rd + 1 : Nat) : Int) by omega]
                refine (rcover_any (rd + 1) lv w1 (by omega) (by omega)).mono ?_
                rintro ye wc ⟨gc, cc, rfl, _, _, Gc, Tc⟩
                rw [cover_length]
                have HLc := Lib.hid Gc.own.loose
                have HNc := Lib.hid (HN1.out.behind Tc)
                refine hK.out _ _ (Touch.of_old Tc) ?_
                clear hK Gc Tc
                try simp only [Act.put, List.setIfInBounds_toArray, List.set_cons_zero, List.set_cons_succ]
                refine wpG_call (RT.pre w0) (i := 27) (o := ⟨some 66, _, _, _, _, _⟩) rfl (by kernel_rfl) (by kernel_rfl) (fun K hK => ?_)
                go_simp
                refine (rlay_step HNc.out.1.1 HNc.out.1.2 (by have := HT1.out; omega) (Nat.le_trans H0.out HNc.out.2.size) r2 gc (cover (rd + 1) lv) cc (by rw [Hl1.out]; omega) (cover_trk _ _) HLc.out).mono ?_
                rintro ye w2 ⟨rfl, N2⟩
                rw [HB2.out]
                have HN2 := Lib.hid (HNc.out.trans N2)
                have HD2 := Lib.hid (HD0.out.rstay HN2.out.2 (by decide))
                refine hK.out _ _ N2.2 ?_
                clear hK N2 HNc HLc
                try simp only [Act.put, List.setIfInBounds_toArray, List.set_cons_zero, List.set_cons_succ]
                refine wpG_take (RT.pre w0) (i := 28) (oi := ⟨some 67, _, _, _, _, _⟩) (v := ?hcv28) rfl (by kernel_rfl) (by kernel_rfl) (by kernel_rfl) (fun _ _ _ h => h) (by kernel_rfl) ?hcy28 ?hcr28
                case hcy28 =>
                  intro wt hO
                  go_simp
                  try with_reducible rfl
                try simp only [Act.put, List.setIfInBounds_toArray, List.set_cons_zero, List.set_cons_succ]
                refine wpG_take (RT.pre w0) (i := 29) (oi := ⟨some 68, _, _, _, _, _⟩) (v := ?hcv29) rfl (by kernel_rfl) (by kernel_rfl) (by kernel_rfl) (fun _ _ _ h => h) (by kernel_rfl) ?hcy29 ?hcr29
                case hcy29 =>
                  intro wt hO
                  go_simp
                  try with_reducible rfl
                try simp only [Act.put, List.setIfInBounds_toArray, List.set_cons_zero, List.set_cons_succ]
                refine wpG_take (RT.pre w0) (i := 30) (oi := ⟨some 69, _, _, _, _, _⟩) (v := ?hcv30) rfl (by kernel_rfl) (by kernel_rfl) (by kernel_rfl) (fun _ _ _ h => h) (by kernel_rfl) ?hcy30 ?hcr30
                case hcy30 =>
                  intro wt hO
                  go_simp
                  try with_reducible rfl
                try simp only [Act.put, List.setIfInBounds_toArray, List.set_cons_zero, List.set_cons_succ]
                refine wpG_take (RT.pre w0) (i := 31) (oi := ⟨some 70, _, _, _, _, _⟩) (v := ?hcv31) rfl (by kernel_rfl) (by kernel_rfl) (by kernel_rfl) (fun _ _ _ h => h) (by kernel_rfl) ?hcy31 ?hcr31
                case hcy31 =>
                  intro wt hO
                  go_simp
                  try with_reducible rfl
                try simp only [Act.put, List.setIfInBounds_toArray, List.set_cons_zero, List.set_cons_succ]
                refine wpG_take (RT.pre w0) (i := 32) (oi := ⟨some 71, _, _, _, _, _⟩) (v := ?hcv32) rfl (by kernel_rfl) (by kernel_rfl) (by kernel_rfl) (fun _ _ _ h => h) (by kernel_rfl) ?hcy32 ?hcr32
                case hcy32 =>
                  intro wt hO
                  go_simp
                  try with_reducible rfl
                try simp only [Act.put, List.setIfInBounds_toArray, List.set_cons_zero, List.set_cons_succ]
                refine wpG_take (RT.pre w0) (i := 33) (oi := ⟨some 72, _, _, _, _, _⟩) (v := ?hcv33) rfl (by kernel_rfl) (by kernel_rfl) (by kernel_rfl) (fun _ _ _ h => h) (by kernel_rfl) ?hcy33 ?hcr33
                case hcy33 =>
                  intro wt hO
                  go_simp
                  try with_reducible rfl
                try simp only [Act.put, List.setIfInBounds_toArray, List.set_cons_zero, List.set_cons_succ]
                refine wpG_take (RT.pre w0) (i := 34) (oi := ⟨some 73, _, _, _, _, _⟩) (v := ?hcv34) rfl (by kernel_rfl) (by kernel_rfl) (by kernel_rfl) (fun _ _ _ h => h) (by kernel_rfl) ?hcy34 ?hcr34
                case hcy34 =>
                  intro wt hO
                  have f0 : wt.cell? ⟨lp, 0, none⟩ = some (.pointer (some ⟨r, 0, none⟩)) := (HD2.out.rstay hO (by decide)).cell 0; go_simp
                  try with_reducible rfl
                try simp only [Act.put, List.setIfInBounds_toArray, List.set_cons_zero, List.set_cons_succ]
                refine wpG_call (RT.pre w0) (i := 35) (o := ⟨some 74, _, _, _, _, _⟩) rfl (by kernel_rfl) (by kernel_rfl) (fun K hK => ?_)
                go_simp
                refine (rsettle_step HN2.out.1.1 HN2.out.1.2 (by have := HT2.out; omega) (Nat.le_trans H0.out HN2.out.2.size)).mono ?_
                rintro ye w3 ⟨rfl, N3⟩
                rw [HB3.out]
                have HN3 := Lib.hid (HN2.out.trans N3)
                refine hK.out _ _ N3.2 ?_
                clear hK N3
                try simp only [Act.put, List.setIfInBounds_toArray, List.set_cons_zero, List.set_cons_succ]
                refine wpG_take (RT.pre w0) (i := 36) (oi := ⟨some 75, _, _, _, _, _⟩) (v := ?hcv36) rfl (by kernel_rfl) (by kernel_rfl) (by kernel_rfl) (fun _ _ _ h => h) (by kernel_rfl) ?hcy36 ?hcr36
                case hcy36 =>
                  intro wt hO
                  go_simp
                  try with_reducible rfl
                try simp only [Act.put, List.setIfInBounds_toArray, List.set_cons_zero, List.set_cons_succ]
                refine wpG_take (RT.pre w0) (i := 37) (oi := ⟨some 76, _, _, _, _, _⟩) (v := ?hcv37) rfl (by kernel_rfl) (by kernel_rfl) (by kernel_rfl) (fun _ _ _ h => h) (by kernel_rfl) ?hcy37 ?hcr37
                case hcy37 =>
                  intro wt hO
                  go_simp
                  try with_reducible rfl
                try simp only [Act.put, List.setIfInBounds_toArray, List.set_cons_zero, List.set_cons_succ]
                refine wpG_done (by kernel_rfl) ?_ _
                go_wp2_with fail
                go_meet
                exact ⟨_, rfl, HDn.out.symm, by rw [← HDe.out]; exact HN3.out⟩
            | false =>
              as_aux_lemma =>
                have HB3 : Hid (((D1.step (.lay r2 (cover (rd + 1) lv))).step .settle).bad = 0) := by rw [HDe.out]; exact bad_up hd3
                have HDn := Lib.hid hd3
                clear hd1 hd2 hd3 hD2
                refine wp_region_G (R := RT w0) (by kernel_rfl) ?_
                refine wpG_take (RT.pre w0) (i := 0) (oi := ⟨some 39, _, _, _, _, _⟩) (v := ?hdv0) rfl (by kernel_rfl) (by kernel_rfl) (by kernel_rfl) (fun _ _ _ h => h) (by kernel_rfl) ?hdy0 ?hdr0
                case hdy0 =>
                  intro wt hO
                  go_simp
                  try with_reducible rfl
                try simp only [Act.put, List.setIfInBounds_toArray, List.set_cons_zero, List.set_cons_succ]
                refine wpG_take (RT.pre w0) (i := 1) (oi := ⟨some 40, _, _, _, _, _⟩) (v := ?hdv1) rfl (by kernel_rfl) (by kernel_rfl) (by kernel_rfl) (fun _ _ _ h => h) (by kernel_rfl) ?hdy1 ?hdr1
                case hdy1 =>
                  intro wt hO
                  go_simp
                  try with_reducible rfl
                try simp only [Act.put, List.setIfInBounds_toArray, List.set_cons_zero, List.set_cons_succ]
                refine wpG_take (RT.pre w0) (i := 2) (oi := ⟨some 41, _, _, _, _, _⟩) (v := ?hdv2) rfl (by kernel_rfl) (by kernel_rfl) (by kernel_rfl) (fun _ _ _ h => h) (by kernel_rfl) ?hdy2 ?hdr2
                case hdy2 =>
                  intro wt hO
                  go_simp
                  try with_reducible rfl
                try simp only [Act.put, List.setIfInBounds_toArray, List.set_cons_zero, List.set_cons_succ]
                refine wpG_take (RT.pre w0) (i := 3) (oi := ⟨some 42, _, _, _, _, _⟩) (v := ?hdv3) rfl (by kernel_rfl) (by kernel_rfl) (by kernel_rfl) (fun _ _ _ h => h) (by kernel_rfl) ?hdy3 ?hdr3
                case hdy3 =>
                  intro wt hO
                  have f0 : wt.cell? ⟨lp, 0, none⟩ = some (.pointer (some ⟨r, 0, none⟩)) := (HD0.out.rstay hO (by decide)).cell 0; go_simp
                  try with_reducible rfl
                try simp only [Act.put, List.setIfInBounds_toArray, List.set_cons_zero, List.set_cons_succ]
                refine wpG_call (RT.pre w0) (i := 4) (o := ⟨some 43, _, _, _, _, _⟩) rfl (by kernel_rfl) (by kernel_rfl) (fun K hK => ?_)
                go_simp
                refine HS1.out.mono ?_
                rintro ye w1 ⟨rfl, N1⟩
                rw [HB1.out]
                have HN1 := Lib.hid N1
                have HD1 := Lib.hid (HD0.out.rstay N1.2 (by decide))
                refine hK.out _ _ N1.2 ?_
                clear hK N1
                try simp only [Act.put, List.setIfInBounds_toArray, List.set_cons_zero, List.set_cons_succ]
                refine wpG_take (RT.pre w0) (i := 5) (oi := ⟨some 44, _, _, _, _, _⟩) (v := ?hdv5) rfl (by kernel_rfl) (by kernel_rfl) (by kernel_rfl) (fun _ _ _ h => h) (by kernel_rfl) ?hdy5 ?hdr5
                case hdy5 =>
                  intro wt hO
                  go_simp
                  try with_reducible rfl
                try simp only [Act.put, List.setIfInBounds_toArray, List.set_cons_zero, List.set_cons_succ]
                refine wpG_take (RT.pre w0) (i := 6) (oi := ⟨some 45, _, _, _, _, _⟩) (v := ?hdv6) rfl (by kernel_rfl) (by kernel_rfl) (by kernel_rfl) (fun _ _ _ h => h) (by kernel_rfl) ?hdy6 ?hdr6
                case hdy6 =>
                  intro wt hO
                  go_simp
                  try with_reducible rfl
                try simp only [Act.put, List.setIfInBounds_toArray, List.set_cons_zero, List.set_cons_succ]
                refine wpG_take (RT.pre w0) (i := 7) (oi := ⟨some 46, _, _, _, _, _⟩) (v := ?hdv7) rfl (by kernel_rfl) (by kernel_rfl) (by kernel_rfl) (fun _ _ _ h => h) (by kernel_rfl) ?hdy7 ?hdr7
                case hdy7 =>
                  intro wt hO
                  go_simp
                  try with_reducible rfl
                try simp only [Act.put, List.setIfInBounds_toArray, List.set_cons_zero, List.set_cons_succ]
                refine wpG_take (RT.pre w0) (i := 8) (oi := ⟨some 47, _, _, _, _, _⟩) (v := ?hdv8) rfl (by kernel_rfl) (by kernel_rfl) (by kernel_rfl) (fun _ _ _ h => h) (by kernel_rfl) ?hdy8 ?hdr8
                case hdy8 =>
                  intro wt hO
                  go_simp
                  try with_reducible rfl
                try simp only [Act.put, List.setIfInBounds_toArray, List.set_cons_zero, List.set_cons_succ]
                refine wpG_take (RT.pre w0) (i := 9) (oi := ⟨some 48, _, _, _, _, _⟩) (v := ?hdv9) rfl (by kernel_rfl) (by kernel_rfl) (by kernel_rfl) (fun _ _ _ h => h) (by kernel_rfl) ?hdy9 ?hdr9
                case hdy9 =>
                  intro wt hO
                  go_simp
                  try with_reducible rfl
                try simp only [Act.put, List.setIfInBounds_toArray, List.set_cons_zero, List.set_cons_succ]
                refine wpG_take (RT.pre w0) (i := 10) (oi := ⟨some 49, _, _, _, _, _⟩) (v := ?hdv10) rfl (by kernel_rfl) (by kernel_rfl) (by kernel_rfl) (fun _ _ _ h => h) (by kernel_rfl) ?hdy10 ?hdr10
                case hdy10 =>
                  intro wt hO
                  have f0 : wt.cell? ⟨lp, 0, none⟩ = some (.pointer (some ⟨r, 0, none⟩)) := (HD1.out.rstay hO (by decide)).cell 0; go_simp
                  try with_reducible rfl
                try simp only [Act.put, List.setIfInBounds_toArray, List.set_cons_zero, List.set_cons_succ]
                refine wpG_take (RT.pre w0) (i := 11) (oi := ⟨some 50, _, _, _, _, _⟩) (v := ?hdv11) rfl (by kernel_rfl) (by kernel_rfl) (by kernel_rfl) (fun _ _ _ h => h) (by kernel_rfl) ?hdy11 ?hdr11
                case hdy11 =>
                  intro wt hO
                  go_simp
                  try with_reducible rfl
                try simp only [Act.put, List.setIfInBounds_toArray, List.set_cons_zero, List.set_cons_succ]
                refine wpG_take (RT.pre w0) (i := 12) (oi := ⟨some 51, _, _, _, _, _⟩) (v := ?hdv12) rfl (by kernel_rfl) (by kernel_rfl) (by kernel_rfl) (fun _ _ _ h => h) (by kernel_rfl) ?hdy12 ?hdr12
                case hdy12 =>
                  intro wt hO
                  go_simp
                  try with_reducible rfl
                try simp only [Act.put, List.setIfInBounds_toArray, List.set_cons_zero, List.set_cons_succ]
                refine wpG_take (RT.pre w0) (i := 13) (oi := ⟨some 52, _, _, _, _, _⟩) (v := ?hdv13) rfl (by kernel_rfl) (by kernel_rfl) (by kernel_rfl) (fun _ _ _ h => h) (by kernel_rfl) ?hdy13 ?hdr13
                case hdy13 =>
                  intro wt hO
                  go_simp
                  try with_reducible rfl
                try simp only [Act.put, List.setIfInBounds_toArray, List.set_cons_zero, List.set_cons_succ]
                refine wpG_take (RT.pre w0) (i := 14) (oi := ⟨some 53, _, _, _, _, _⟩) (v := ?hdv14) rfl (by kernel_rfl) (by kernel_rfl) (by kernel_rfl) (fun _ _ _ h => h) (by kernel_rfl) ?hdy14 ?hdr14
                case hdy14 =>
                  intro wt hO
                  have f0 : wt.cell? ⟨lp, 2, none⟩ = some (.int .i64 (rd : Int)) := (HD1.out.rstay hO (by decide)).cell 2; go_simp
                  try with_reducible rfl
                try simp only [Act.put, List.setIfInBounds_toArray, List.set_cons_zero, List.set_cons_succ]
                refine wpG_take (RT.pre w0) (i := 15) (oi := ⟨some 54, _, _, _, _, _⟩) (v := ?hdv15) rfl (by kernel_rfl) (by kernel_rfl) (by kernel_rfl) (fun _ _ _ h => h) (by kernel_rfl) ?hdy15 ?hdr15
                case hdy15 =>
                  intro wt hO
                  go_simp
                  try with_reducible rfl
                try simp only [Act.put, List.setIfInBounds_toArray, List.set_cons_zero, List.set_cons_succ]
                refine wpG_take (RT.pre w0) (i := 16) (oi := ⟨some 55, _, _, _, _, _⟩) (v := ?hdv16) rfl (by kernel_rfl) (by kernel_rfl) (by kernel_rfl) (fun _ _ _ h => h) (by kernel_rfl) ?hdy16 ?hdr16
                case hdy16 =>
                  intro wt hO
                  go_simp
                  try with_reducible rfl
                try simp only [Act.put, List.setIfInBounds_toArray, List.set_cons_zero, List.set_cons_succ]
                refine wpG_take (RT.pre w0) (i := 17) (oi := ⟨some 56, _, _, _, _, _⟩) (v := ?hdv17) rfl (by kernel_rfl) (by kernel_rfl) (by kernel_rfl) (fun _ _ _ h => h) (by kernel_rfl) ?hdy17 ?hdr17
                case hdy17 =>
                  intro wt hO
                  go_simp
                  try with_reducible rfl
                try simp only [Act.put, List.setIfInBounds_toArray, List.set_cons_zero, List.set_cons_succ]
                refine wpG_take (RT.pre w0) (i := 18) (oi := ⟨some 57, _, _, _, _, _⟩) (v := ?hdv18) rfl (by kernel_rfl) (by kernel_rfl) (by kernel_rfl) (fun _ _ _ h => h) (by kernel_rfl) ?hdy18 ?hdr18
                case hdy18 =>
                  intro wt hO
                  go_simp
                  try with_reducible rfl
                try simp only [Act.put, List.setIfInBounds_toArray, List.set_cons_zero, List.set_cons_succ]
                refine wpG_take (RT.pre w0) (i := 19) (oi := ⟨some 58, _, _, _, _, _⟩) (v := ?hdv19) rfl (by kernel_rfl) (by kernel_rfl) (by kernel_rfl) (fun _ _ _ h => h) (by kernel_rfl) ?hdy19 ?hdr19
                case hdy19 =>
                  intro wt hO
                  go_simp
                  try with_reducible rfl
                try simp only [Act.put, List.setIfInBounds_toArray, List.set_cons_zero, List.set_cons_succ]
                refine wpG_take (RT.pre w0) (i := 20) (oi := ⟨some 59, _, _, _, _, _⟩) (v := ?hdv20) rfl (by kernel_rfl) (by kernel_rfl) (by kernel_rfl) (fun _ _ _ h => h) (by kernel_rfl) ?hdy20 ?hdr20
                case hdy20 =>
                  intro wt hO
                  have f0 : wt.cell? ⟨lp, 2, none⟩ = some (.int .i64 (rd : Int)) := (HD1.out.rstay hO (by decide)).cell 2; go_simp
                  try with_reducible rfl
                try simp only [Act.put, List.setIfInBounds_toArray, List.set_cons_zero, List.set_cons_succ]
                refine wpG_take (RT.pre w0) (i := 21) (oi := ⟨some 60, _, _, _, _, _⟩) (v := ?hdv21) rfl (by kernel_rfl) (by kernel_rfl) (by kernel_rfl) (fun _ _ _ h => h) (by kernel_rfl) ?hdy21 ?hdr21
                case hdy21 =>
                  intro wt hO
                  go_simp
                  try with_reducible rfl
                try simp only [Act.put, List.setIfInBounds_toArray, List.set_cons_zero, List.set_cons_succ]
                refine wpG_take (RT.pre w0) (i := 22) (oi := ⟨some 61, _, _, _, _, _⟩) (v := ?hdv22) rfl (by kernel_rfl) (by kernel_rfl) (by kernel_rfl) (fun _ _ _ h => h) (by kernel_rfl) ?hdy22 ?hdr22
                case hdy22 =>
                  intro wt hO
                  go_simp
                  try with_reducible rfl
                try simp only [Act.put, List.setIfInBounds_toArray, List.set_cons_zero, List.set_cons_succ]
                refine wpG_take (RT.pre w0) (i := 23) (oi := ⟨some 62, _, _, _, _, _⟩) (v := ?hdv23) rfl (by kernel_rfl) (by kernel_rfl) (by kernel_rfl) (fun _ _ _ h => h) (by kernel_rfl) ?hdy23 ?hdr23
                case hdy23 =>
                  intro wt hO
                  go_simp
                  try with_reducible rfl
                try simp only [Act.put, List.setIfInBounds_toArray, List.set_cons_zero, List.set_cons_succ]
                refine wpG_take (RT.pre w0) (i := 24) (oi := ⟨some 63, _, _, _, _, _⟩) (v := ?hdv24) rfl (by kernel_rfl) (by kernel_rfl) (by kernel_rfl) (fun _ _ _ h => h) (by kernel_rfl) ?hdy24 ?hdr24
                case hdy24 =>
                  intro wt hO
                  go_simp
                  try with_reducible rfl
                try simp only [Act.put, List.setIfInBounds_toArray, List.set_cons_zero, List.set_cons_succ]
                refine wpG_take (RT.pre w0) (i := 25) (oi := ⟨some 64, _, _, _, _, _⟩) (v := ?hdv25) rfl (by kernel_rfl) (by kernel_rfl) (by kernel_rfl) (fun _ _ _ h => h) (by kernel_rfl) ?hdy25 ?hdr25
                case hdy25 =>
                  intro wt hO
                  have f0 : wt.cell? ⟨lp, 1, none⟩ = some (.int .i64 (lv : Int)) := (HD1.out.rstay hO (by decide)).cell 1; go_simp
                  try with_reducible rfl
                try simp only [Act.put, List.setIfInBounds_toArray, List.set_cons_zero, List.set_cons_succ]
                refine wpG_call (RT.pre w0) (i := 26) (o := ⟨some 65, _, _, _, _, _⟩) rfl (by kernel_rfl) (by kernel_rfl) (fun K hK => ?_)
                go_simp
                rw [show (rd : Int) + 1 = ((rd + 1 : Nat) : Int) by omega]
                refine (rcover_any (rd + 1) lv w1 (by omega) (by omega)).mono ?_
                rintro ye wc ⟨gc, cc, rfl, _, _, Gc, Tc⟩
                rw [cover_length]
                have HLc := Lib.hid Gc.own.loose
                have HNc := Lib.hid (HN1.out.behind Tc)
                refine hK.out _ _ (Touch.of_old Tc) ?_
                clear hK Gc Tc
                try simp only [Act.put, List.setIfInBounds_toArray, List.set_cons_zero, List.set_cons_succ]
                refine wpG_call (RT.pre w0) (i := 27) (o := ⟨some 66, _, _, _, _, _⟩) rfl (by kernel_rfl) (by kernel_rfl) (fun K hK => ?_)
                go_simp
                refine (rlay_step HNc.out.1.1 HNc.out.1.2 (by have := HT1.out; omega) (Nat.le_trans H0.out HNc.out.2.size) r2 gc (cover (rd + 1) lv) cc (by rw [Hl1.out]; omega) (cover_trk _ _) HLc.out).mono ?_
                rintro ye w2 ⟨rfl, N2⟩
                rw [HB2.out]
                have HN2 := Lib.hid (HNc.out.trans N2)
                have HD2 := Lib.hid (HD0.out.rstay HN2.out.2 (by decide))
                refine hK.out _ _ N2.2 ?_
                clear hK N2 HNc HLc
                try simp only [Act.put, List.setIfInBounds_toArray, List.set_cons_zero, List.set_cons_succ]
                refine wpG_take (RT.pre w0) (i := 28) (oi := ⟨some 67, _, _, _, _, _⟩) (v := ?hdv28) rfl (by kernel_rfl) (by kernel_rfl) (by kernel_rfl) (fun _ _ _ h => h) (by kernel_rfl) ?hdy28 ?hdr28
                case hdy28 =>
                  intro wt hO
                  go_simp
                  try with_reducible rfl
                try simp only [Act.put, List.setIfInBounds_toArray, List.set_cons_zero, List.set_cons_succ]
                refine wpG_take (RT.pre w0) (i := 29) (oi := ⟨some 68, _, _, _, _, _⟩) (v := ?hdv29) rfl (by kernel_rfl) (by kernel_rfl) (by kernel_rfl) (fun _ _ _ h => h) (by kernel_rfl) ?hdy29 ?hdr29
                case hdy29 =>
                  intro wt hO
                  go_simp
                  try with_reducible rfl
                try simp only [Act.put, List.setIfInBounds_toArray, List.set_cons_zero, List.set_cons_succ]
                refine wpG_take (RT.pre w0) (i := 30) (oi := ⟨some 69, _, _, _, _, _⟩) (v := ?hdv30) rfl (by kernel_rfl) (by kernel_rfl) (by kernel_rfl) (fun _ _ _ h => h) (by kernel_rfl) ?hdy30 ?hdr30
                case hdy30 =>
                  intro wt hO
                  go_simp
                  try with_reducible rfl
                try simp only [Act.put, List.setIfInBounds_toArray, List.set_cons_zero, List.set_cons_succ]
                refine wpG_take (RT.pre w0) (i := 31) (oi := ⟨some 70, _, _, _, _, _⟩) (v := ?hdv31) rfl (by kernel_rfl) (by kernel_rfl) (by kernel_rfl) (fun _ _ _ h => h) (by kernel_rfl) ?hdy31 ?hdr31
                case hdy31 =>
                  intro wt hO
                  go_simp
                  try with_reducible rfl
                try simp only [Act.put, List.setIfInBounds_toArray, List.set_cons_zero, List.set_cons_succ]
                refine wpG_take (RT.pre w0) (i := 32) (oi := ⟨some 71, _, _, _, _, _⟩) (v := ?hdv32) rfl (by kernel_rfl) (by kernel_rfl) (by kernel_rfl) (fun _ _ _ h => h) (by kernel_rfl) ?hdy32 ?hdr32
                case hdy32 =>
                  intro wt hO
                  go_simp
                  try with_reducible rfl
                try simp only [Act.put, List.setIfInBounds_toArray, List.set_cons_zero, List.set_cons_succ]
                refine wpG_take (RT.pre w0) (i := 33) (oi := ⟨some 72, _, _, _, _, _⟩) (v := ?hdv33) rfl (by kernel_rfl) (by kernel_rfl) (by kernel_rfl) (fun _ _ _ h => h) (by kernel_rfl) ?hdy33 ?hdr33
                case hdy33 =>
                  intro wt hO
                  go_simp
                  try with_reducible rfl
                try simp only [Act.put, List.setIfInBounds_toArray, List.set_cons_zero, List.set_cons_succ]
                refine wpG_take (RT.pre w0) (i := 34) (oi := ⟨some 73, _, _, _, _, _⟩) (v := ?hdv34) rfl (by kernel_rfl) (by kernel_rfl) (by kernel_rfl) (fun _ _ _ h => h) (by kernel_rfl) ?hdy34 ?hdr34
                case hdy34 =>
                  intro wt hO
                  have f0 : wt.cell? ⟨lp, 0, none⟩ = some (.pointer (some ⟨r, 0, none⟩)) := (HD2.out.rstay hO (by decide)).cell 0; go_simp
                  try with_reducible rfl
                try simp only [Act.put, List.setIfInBounds_toArray, List.set_cons_zero, List.set_cons_succ]
                refine wpG_call (RT.pre w0) (i := 35) (o := ⟨some 74, _, _, _, _, _⟩) rfl (by kernel_rfl) (by kernel_rfl) (fun K hK => ?_)
                go_simp
                refine (rsettle_step HN2.out.1.1 HN2.out.1.2 (by have := HT2.out; omega) (Nat.le_trans H0.out HN2.out.2.size)).mono ?_
                rintro ye w3 ⟨rfl, N3⟩
                rw [HB3.out]
                have HN3 := Lib.hid (HN2.out.trans N3)
                refine hK.out _ _ N3.2 ?_
                clear hK N3
                try simp only [Act.put, List.setIfInBounds_toArray, List.set_cons_zero, List.set_cons_succ]
                refine wpG_take (RT.pre w0) (i := 36) (oi := ⟨some 75, _, _, _, _, _⟩) (v := ?hdv36) rfl (by kernel_rfl) (by kernel_rfl) (by kernel_rfl) (fun _ _ _ h => h) (by kernel_rfl) ?hdy36 ?hdr36
                case hdy36 =>
                  intro wt hO
                  go_simp
                  try with_reducible rfl
                try simp only [Act.put, List.setIfInBounds_toArray, List.set_cons_zero, List.set_cons_succ]
                refine wpG_take (RT.pre w0) (i := 37) (oi := ⟨some 76, _, _, _, _, _⟩) (v := ?hdv37) rfl (by kernel_rfl) (by kernel_rfl) (by kernel_rfl) (fun _ _ _ h => h) (by kernel_rfl) ?hdy37 ?hdr37
                case hdy37 =>
                  intro wt hO
                  go_simp
                  try with_reducible rfl
                try simp only [Act.put, List.setIfInBounds_toArray, List.set_cons_zero, List.set_cons_succ]
                refine wpG_done (by kernel_rfl) ?_ _
                go_wp2_with fail
                go_meet
                exact ⟨_, rfl, HDn.out.symm, by rw [← HDe.out]; exact HN3.out⟩
      case rest =>
        obtain ⟨bb, rfl, HCu⟩ := hcut
        clear HA HA2 HDe hD2 HD2e HS1 HT1 HT2 Hl1 HD0
        have A3 := HId.out.1.turn HCu.out.2
        have HT3 := Lib.hid (HId.out.2.ltrans (Touch.of_rmine HCu.out.2.2))
        cases bb with
        | true =>
          have HE : Hid (LN = { L with D := DD }) := by show _ = _; rw [HNx.out, ← HCu.out.1]; rfl
          have HA3 := Lib.hid A3
          clear A3 HNx
          go_wp2_with fail
          go_ret
          refine ⟨by rw [HE.out]; show _ = Ending.returned (.bool (!DD.down)); rw [← HCu.out.1]; rfl, ?_, HT3.out⟩
          rw [HE.out]
          exact ⟨m, n, HA3.out, Nat.le_refl _, fun q => by rw [show ({ L with D := DD } : LS).D.down = DD.down from rfl, ← HCu.out.1] at q; cases q⟩
        | false =>
          have HE : Hid (LN = { L with D := DD, round := L.round + 1, posts := 0, laid := 0, ws := List.replicate k none }) := by show _ = _; rw [HNx.out, ← HCu.out.1, HWn.out]; rfl
          have hmm := @run_makeMap Tryz.prog
          have hf2 := A3.head.frozen 2
          have hf3 := A3.head.frozen 3
          have hf4 := A3.head.frozen 4
          have hf5 := A3.head.frozen 5
          have hc2 : wc.cell? ⟨lp, 2, none⟩ = some (.int .i64 (rd : Int)) := by rw [← HRd.out]; exact A3.head.cell 2
          have hc3 : wc.cell? ⟨lp, 3, none⟩ = some (.int .i64 (L.posts : Int)) := A3.head.cell 3
          have hc4 : wc.cell? ⟨lp, 4, none⟩ = some (.int .i64 (L.laid : Int)) := A3.head.cell 4
          have hc5 : wc.cell? ⟨lp, 5, none⟩ = some (.map (some m)) := A3.head.cell 5
          have hB4 : Blk (((wc.setCell ⟨lp, 2, none⟩ (.int .i64 ((rd : Int) + 1))).setCell ⟨lp, 3, none⟩ (.int .i64 0)).setCell ⟨lp, 4, none⟩ (.int .i64 0)) lp 55 (rlhead r m { L with D := DD, round := rd + 1, posts := 0, laid := 0 }) := ((A3.head.set 2 (.int .i64 ((rd : Int) + 1))).set 3 (.int .i64 0)).set 4 (.int .i64 0)
          have T4 : Touch (fun q => q = lp) wc (((wc.setCell ⟨lp, 2, none⟩ (.int .i64 ((rd : Int) + 1))).setCell ⟨lp, 3, none⟩ (.int .i64 0)).setCell ⟨lp, 4, none⟩ (.int .i64 0)) := ((Touch.one ⟨lp, 2, none⟩ _).trans (Touch.one ⟨lp, 3, none⟩ _)).trans (Touch.one ⟨lp, 4, none⟩ _)
          have A4 : RL w0 lp r m n { L with D := DD, round := rd + 1, posts := 0, laid := 0 } (((wc.setCell ⟨lp, 2, none⟩ (.int .i64 ((rd : Int) + 1))).setCell ⟨lp, 3, none⟩ (.int .i64 0)).setCell ⟨lp, 4, none⟩ (.int .i64 0)) := A3.set rfl rfl hB4 T4
          have A5 := A4.fresh k
          have hs4 : (((wc.setCell ⟨lp, 2, none⟩ (.int .i64 ((rd : Int) + 1))).setCell ⟨lp, 3, none⟩ (.int .i64 0)).setCell ⟨lp, 4, none⟩ (.int .i64 0)).heap.size = wc.heap.size := by simp [World.setCell]
          rw [hs4] at A5
          have T5 : Touch (lmine w0 wc) wc (((((wc.setCell ⟨lp, 2, none⟩ (.int .i64 ((rd : Int) + 1))).setCell ⟨lp, 3, none⟩ (.int .i64 0)).setCell ⟨lp, 4, none⟩ (.int .i64 0)).alloc (.map #[] 0)).setCell ⟨lp, 5, none⟩ (.map (some wc.heap.size))) := ((T4.alloc _).trans (Touch.one ⟨lp, 5, none⟩ _)).mono (fun q _ hq => by rw [hq]; exact A3.lhead)
          have HA5 := Lib.hid A5
          have HT5 := Lib.hid (HT3.out.ltrans T5)
          have B6 := A4.head.touch ((Touch.refl (fun _ => False) _).alloc (.map #[] 0)) (fun q => q)
          have g5 := B6.cell 5
          have g6 := B6.frozen 5
          have g7 := A4.head.cell 5
          have g8 := A4.head.frozen 5
          rw [show (rlhead r m { L with D := DD, round := rd + 1, posts := 0, laid := 0 })[5]? = some (.map (some m)) from rfl] at g5 g7
          clear A3 A4 A5 T4 T5 hB4 B6
          go_upto_region 12 with (fail)
          generalize ((wc.setCell ⟨lp, 2, none⟩ (.int .i64 ((rd : Int) + 1))).setCell ⟨lp, 3, none⟩ (.int .i64 0)).setCell ⟨lp, 4, none⟩ (.int .i64 0) = wd at *
          have HS4 := Lib.hid hs4
          rw [← hs4] at HA5 HT5
          clear hs4 hf2 hf3 hf4 hf5 hc2 hc3 hc4 hc5
          go_wp2_with fail
          go_ret
          refine ⟨by rw [HE.out]; show _ = Ending.returned (.bool (!DD.down)); rw [← HCu.out.1]; rfl, ?_, HT5.out⟩
          rw [HE.out, HRd.out]
          exact ⟨_, 0, HA5.out, Nat.zero_le _, fun _ => rfl⟩
end Go.Proofs.YtmingbgohdhajaaGreat
