/- For lariatlaw6.VaultActs: a vault and its two maps. -/
import Derived.Test.YtjajenkagcdhlaaGreatJU
import Derived.Deep.CutBlock
namespace Go.Proofs.YtjajenkagcdhlaaGreat
open Go.RowKit
set_option maxRecDepth 100000

theorem wpList_delete_run {ops : Array Oper} {rest : List Oper} {o : Oper} {a : Act} {w : World} {Q : Exit → Act → World → Prop} (hgd : o.guard = none) (s x : Operand) (t tx : TypeId)
    (ho : o.op = .call { callee := .builtin .delete, args := #[s, x], argTypes := #[t, tx] }) (v u : Value) (hs : a.eval s = v) (hx : a.eval x = u) (v' : Value) (w' : World)
    (hr : (Builtin.delete_ #[t, tx] o.type #[v, u]).run Tryz.prog w = .ok v' w') (h : wpList Tryz.prog ops Q rest (a.put o.dst v') w') : wpList Tryz.prog ops Q (o :: rest) a w := by
  refine wpList_plain hgd fun K hK => ?_
  unfold Oper.wp execOp
  simp only [ho, resolve, invoke, builtin, Sem.run_bind, Sem.run_pure, Result.andThen_ok, List.map_toArray, List.map_cons, List.map_nil, hs, hx, hr]
  exact hK _ _ h
/-- The vault, what it should hold, and what was kept. -/
structure AcAt (w0 : World) (d h i vp mp kp lp x t : Nat) (P : Hom → Prop) (N : Hom) (a : Places) (rs rk : Recs) (w : World) : Prop where
  le : t ≤ 3 + i
  v : Vt w0 vp lp d x 34 h t true P N rs rk a w
  m : VMap mp rs w
  k : VMap kp rk w
  nm : w0.heap.size ≤ mp
  nk : w0.heap.size ≤ kp
  ne : mp ≠ kp
def Ac (w0 : World) (d h i vp mp kp : Nat) (w : World) : Prop := ∃ lp x t P N a rs rk, AcAt w0 d h i vp mp kp lp x t P N a rs rk w
/-- What is now was kept; one map of it. -/
def AcN (w0 : World) (d h i vp mp : Nat) (w : World) : Prop := ∃ lp x t P N a rs, t ≤ 3 + i ∧ Vt w0 vp lp d x 34 h t true P N rs rs a w ∧ VMap mp rs w ∧ w0.heap.size ≤ mp
section
variable {w0 w w' : World} {d h i vp mp kp lp x t : Nat} {P : Hom → Prop} {N : Hom} {a : Places} {rs rk : Recs} {B : List Nat}
theorem Ac.old (A : Ac w0 d h i vp mp kp w) (o : Old w w') : Ac w0 d h i vp mp kp w' := by
  obtain ⟨lp, x, t, P, N, a, rs, rk, A⟩ := A
  exact ⟨lp, x, t, P, N, a, rs, rk, A.le, A.v.old o, A.m.old o, A.k.old o, A.nm, A.nk, A.ne⟩
theorem Ac.more (A : Ac w0 d h i vp mp kp w) : Ac w0 d h (i + 1) vp mp kp w := by
  obtain ⟨lp, x, t, P, N, a, rs, rk, A⟩ := A
  exact ⟨lp, x, t, P, N, a, rs, rk, by have := A.le; omega, A.v, A.m, A.k, A.nm, A.nk, A.ne⟩
theorem Ac.old0 (A : Ac w0 d h i vp mp kp w) : Old w0 w := by
  obtain ⟨lp, x, t, P, N, a, rs, rk, A⟩ := A
  exact A.v.sail.old0
theorem AcN.copy (A : AcN w0 d h i vp mp w) : Calls Tryz.prog 14 #[.map (some mp)] w fun y w' => ∃ mo, y = .returned (.map (some mo)) ∧ Ac w0 d h i vp mp mo w' ∧ Ac w0 d h i vp mo mp w' := by
  obtain ⟨lp, x, t, P, N, a, rs, ht, V, M, hn⟩ := A
  refine (copied_any w M V.mem.rok).mono ?_
  rintro y w' ⟨mo, rfl, hmo, M', O⟩
  have h1 := M.lt
  have h2 : w0.heap.size ≤ w.heap.size := V.sail.old0.size
  exact ⟨mo, rfl, ⟨lp, x, t, P, N, a, rs, rs, ht, V.old O, M.old O, M', hn, by omega, by omega⟩, ⟨lp, x, t, P, N, a, rs, rs, ht, V.old O, M', M.old O, by omega, hn, by omega⟩⟩
theorem Ac.keep (A : Ac w0 d h i vp mp kp w) (hi : i ≤ 100) : Calls Tryz.prog 13 #[.pointer (some ⟨vp, 0, none⟩)] w fun y w' => (y = .returned (.int .i64 0) ∧ AcN w0 d h (i + 1) vp mp w') ∨ (y = .returned (.int .i64 5) ∧ AcN w0 d h (i + 1) vp kp w') := by
  obtain ⟨lp, x, t, P, N, a, rs, rk, A⟩ := A
  have ht := A.le
  refine (A.v.keep (by omega)).mono ?_
  rintro y w' (⟨rfl, e, o, V'⟩ | ⟨_, K, ⟨rfl, V'⟩ | ⟨rfl, _, x', V'⟩ | ⟨_, hq, _⟩⟩)
  · subst e
    exact .inl ⟨rfl, lp, x, t, _, _, _, _, by omega, V', A.m.old o, A.nm⟩
  · exact .inl ⟨rfl, lp, x, t + 1, _, _, _, _, by omega, V', A.m.keptV K, A.nm⟩
  · exact .inr ⟨rfl, lp, x', t + 1, _, _, _, _, by omega, V', A.k.keptV K, A.nk⟩
  · cases hq
theorem Ac.undo (A : Ac w0 d h i vp mp kp w) : Calls Tryz.prog 15 #[.pointer (some ⟨vp, 0, none⟩)] w fun y w' => y = .returned (.tuple #[]) ∧ AcN w0 d h i vp kp w' := by
  obtain ⟨lp, x, t, P, N, a, rs, rk, A⟩ := A
  refine A.v.undo.mono ?_
  rintro y w' ⟨rfl, x', V', T⟩
  exact ⟨rfl, lp, x', t, P, N, a, rk, A.le, V', A.k.put_ A.v (T.mono fun _ _ q => .inl q), A.nk⟩
theorem Ac.settle (A : Ac w0 d h i vp mp kp w) (hi : i ≤ 100) : Calls Tryz.prog 16 #[.pointer (some ⟨vp, 0, none⟩)] w fun y w' => y = .returned (.int .i64 0) ∧ Ac w0 d h (i + 1) vp mp kp w' := by
  obtain ⟨lp, x, t, P, N, a, rs, rk, A⟩ := A
  have ht := A.le
  refine (A.v.settle (by omega)).mono ?_
  rintro y w' ⟨K, ⟨rfl, V'⟩ | ⟨_, hq, _⟩⟩
  · exact ⟨rfl, lp, x, t + 1, _, N, a, rs, rk, by omega, V', A.m.keptV K, A.k.keptV K, A.nm, A.nk, A.ne⟩
  · cases hq
theorem Ac.open_ (A : Ac w0 d h i vp mp kp w) (hi : i ≤ 100) (h0 : 0 < h) : Calls Tryz.prog 17 #[.pointer (some ⟨d, 0, none⟩)] w fun y w' => ∃ vp', y = .returned (.tuple #[.pointer (some ⟨vp', 0, none⟩), .int .i64 0]) ∧ AcN w0 d h (i + 1) vp' kp w' := by
  obtain ⟨lp, x, t, P, N, a, rs, rk, A⟩ := A
  have ht := A.le
  refine (A.v.open_ (by omega) h0).mono ?_
  rintro y w' ⟨vp', lp', x', rfl, V', K⟩
  exact ⟨vp', rfl, lp', x', t + 1, _, N, a, rk, by omega, V', A.k.keptV K, A.nk⟩
theorem recs_none {rs : Recs} {k : Nat} (h : rs.getD k none = none) : rs.set k none = rs := by
  apply List.ext_getElem?
  intro i
  by_cases e : k = i
  · subst e
    rw [List.getD_eq_getElem?_getD] at h
    rw [List.getElem?_set]
    cases hq : rs[k]? with
    | none => rw [if_pos rfl, if_neg (by rw [List.getElem?_eq_none_iff] at hq; omega)]
    | some r =>
      rw [hq] at h
      have h : r = none := h
      rw [if_pos rfl, if_pos (lt_of_get hq), h]
  · rw [List.getElem?_set_ne e]
/-- Drop, and what is deleted behind it. -/
theorem AcAt.drop (A : AcAt w0 d h i vp mp kp lp x t P N a rs rk w) (id : Nat) (hid : id ≤ 42) : Calls Tryz.prog 12 #[.pointer (some ⟨vp, 0, none⟩), .int .i64 (id : Int)] w fun y w' => y = .returned (.bool (rs.getD id none).isSome) ∧
    ∃ w2, (∀ ty, (Builtin.delete_ #[29, 3] ty #[.map (some mp), .int .i64 (id : Int)]).run Tryz.prog w' = .ok (.tuple #[]) w2) ∧ Ac w0 d h i vp mp kp w2 := by
  have hrok := A.v.mem.rok
  have go : ∀ w', Vt w0 vp lp d x 34 h t true P N (rs.set id none) rk a w' → Touch (fun i => i = vp ∨ i = x) w w' → ∃ w2, (∀ ty, (Builtin.delete_ #[29, 3] ty #[.map (some mp), .int .i64 (id : Int)]).run Tryz.prog w' = .ok (.tuple #[]) w2) ∧ Ac w0 d h i vp mp kp w2 := fun w' V' T => by
    have M' := A.m.put_ A.v T
    have K' := A.k.put_ A.v T
    obtain ⟨w2, hrun, M2, T2⟩ := M'.drop (k := id) (by omega) 0
    have tr := M'.turn T2
    refine ⟨w2, fun ty => ?_, lp, x, t, P, N, a, _, rk, A.le, V'.map tr A.nm, M2, K'.aside tr A.ne.symm, A.nm, A.nk, A.ne⟩
    obtain ⟨w3, hrun3, _⟩ := M'.drop (k := id) (by omega) ty
    have e : (Builtin.delete_ #[29, 3] ty #[.map (some mp), .int .i64 (id : Int)]) = (Builtin.delete_ #[29, 3] 0 #[.map (some mp), .int .i64 (id : Int)]) := rfl
    rw [e]
    exact hrun
  by_cases hv : 1 ≤ id ∧ id ≤ 40
  · obtain ⟨r, hr⟩ := get_of_lt (l := rs) (n := id) (by rw [hrok.r41]; omega)
    rw [getD_of hr]
    refine (A.v.drop id hv.1 hv.2 r hr).mono ?_
    rintro y w' ⟨rfl, V', T⟩
    exact ⟨rfl, go w' V' T⟩
  · have hg : rs.getD id none = none := by
      by_cases e : id = 0
      · subst e
        exact hrok.get0
      · rw [List.getD_eq_getElem?_getD, List.getElem?_eq_none (by rw [hrok.r41]; omega)]
        rfl
    rw [hg]
    refine (vdrop_no w (id : Int) (decide_eq_false (by omega))).mono ?_
    rintro y w' ⟨rfl, rfl⟩
    exact ⟨rfl, go w (by rw [recs_none hg]; exact A.v) (Touch.refl _ _)⟩
/-- Put, of what is put again behind it into the map of what should be. -/
theorem AcAt.put (A : AcAt w0 d h i vp mp kp lp x t P N a rs rk w) (np id : Nat) (M : VMap np (rs.set id (some B)) w) (hn : w0.heap.size ≤ np) (hk : np ≠ kp) (h1 : 1 ≤ id) (h40 : id ≤ 40) (p : Option Addr) (l c : Nat) (hB : Has w p B) (hl : B.length = l) (hm : l ≤ 500) :
    Calls Tryz.prog 21 #[.pointer (some ⟨vp, 0, none⟩), .int .i64 (id : Int), .slice p l c] w fun y w' =>
      (h < 1 + sumT (rs.set id (some B)) ∧ y = .returned (.int .i64 3) ∧ Ac w0 d h i vp mp kp w') ∨ (1 + sumT (rs.set id (some B)) ≤ h ∧ y = .returned (.int .i64 0) ∧ Ac w0 d h i vp np kp w') := by
  refine (A.v.put id h1 h40 p B l c hB hl (by omega)).mono ?_
  rintro y w' ⟨T, ⟨rfl, hs, V'⟩ | ⟨rfl, hs, V'⟩⟩
  · exact .inl ⟨by omega, rfl, lp, x, t, P, N, a, rs, rk, A.le, V', A.m.put_ A.v T, A.k.put_ A.v T, A.nm, A.nk, A.ne⟩
  · exact .inr ⟨by omega, rfl, lp, x, t, P, N, a, _, rk, A.le, V', M.put_ A.v T, A.k.put_ A.v T, hn, A.nk, hk⟩
end
end Go.Proofs.YtjajenkagcdhlaaGreat
/- The walk of lariatlaw6.VaultActs. -/
namespace Go.Proofs.YtjajenkagcdhlaaGreat
open Go.RowKit
set_option maxRecDepth 100000
set_option linter.unusedSimpArgs false

/-- An act as a call has it in a block of its own. -/
def actCs (r : ActR) : List Value := [.int .i64 r.what, .int .i64 r.id, .int .i64 r.n, .int .i64 r.torn, .int .i64 r.cut, .slice r.ba r.bl r.bc, .slice r.ka r.kl r.kc]
theorem actC_blk {w : World} {g : Nat} {r : ActR} (h : Blk w g 33 (actCs r)) : ActC w g 0 r := ⟨h.cell 0, h.cell 1, h.cell 2, h.cell 3, h.cell 4, h.cell 5, h.cell 6⟩
set_option maxHeartbeats 12800000 in
theorem acts_law (a0 : Int) (pa : Option Addr) (la ca : Nat) (w : World) (hA : HasA w pa la) (hla : la ≤ 140737488355328) : Calls Tryz.prog 3 #[.int .i64 a0, .slice pa la ca] w fun e w' => e = .returned (.bool true) ∧ Below w.heap.size w w' := by
  have HA := Lib.hid hA
  have hla' := Lib.hid hla
  clear hA hla
  go_enter Tryz.func3, Tryz.ntmps3
  go_wp2_with fail
  refine (known_any w).mono ?_
  rintro y w1 ⟨rfl, O1⟩
  have HPk := Lib.hid (pick_at a0 30 (by decide) (by decide))
  have hp30 := pickN_lt (n := a0) (m := 30) (by decide)
  generalize pickN a0 30 = p at *
  obtain ⟨h, hh⟩ : ∃ h, 24 + p = h := ⟨_, rfl⟩
  have h24 : 24 ≤ h ∧ h ≤ 53 := by omega
  have hn : IntKind.i64.wrap (60 + (p : Int)) = ((2 + 34 + h : Nat) : Int) := wrap_fits' (by omega) ⟨by omega, by omega⟩
  have HFo : Hid (Calls Tryz.prog 10 #[.int .i64 ((2 + 34 + h : Nat) : Int), .int .i64 34] w1 fun y w' => ∃ vp lp d x, y = .returned (.tuple #[.pointer (some ⟨vp, 0, none⟩), .pointer (some ⟨d, 0, none⟩)]) ∧ Vt w vp lp d x 34 h 3 true (fun X => X = home0 h) (home0 h) rs0 rs0 ps0 w' ∧ KeptV w1 w') := lfound_any O1 (n := 2 + 34 + h) (l := 34) (h := h) rfl (by omega) (by omega) (by omega) (by omega)
  generalize (2 + 34 + h : Nat) = n at *
  clear O1 hh hp30
  go_wp2_with (first | ((with_reducible refine (HPk.out _).mono ?_); rintro y w' ⟨rfl, rfl⟩))
  refine HFo.out.mono ?_
  rintro y w2 ⟨vp, lp, d, x, rfl, V2, _⟩
  have HV2 := Lib.hid V2
  clear V2 HFo HPk hn
  go_wp2_with fail
  refine (known_any w2).mono ?_
  rintro y w3 ⟨rfl, O3⟩
  have HV3 := Lib.hid (HV2.out.old O3)
  clear O3 HV2
  have hmm := @run_makeMap Tryz.prog
  have O4 : Old w3 (w3.alloc (.map #[] 0)) := (Touch.refl _ _).alloc _
  have O5 : Old (w3.alloc (.map #[] 0)) ((w3.alloc (.map #[] 0)).alloc (.map #[] 0)) := (Touch.refl _ _).alloc _
  have HU3 : Hid (Ac w d h 0 vp w3.heap.size (w3.heap.size + 1) ((w3.alloc (.map #[] 0)).alloc (.map #[] 0))) := by
    have hs : w.heap.size ≤ w3.heap.size := HV3.out.sail.old0.size
    have M2 := VMap.made (w3.alloc (.map #[] 0))
    rw [World.size_alloc] at M2
    exact ⟨lp, x, 3, _, _, _, rs0, rs0, Nat.le_refl _, HV3.out.old (O4.trans O5), (VMap.made w3).old O5, M2, hs, by omega, by omega⟩
  clear HV3 O4 O5
  go_wp2_with fail
  clear hmm
  generalize (w3.alloc (.map #[] 0)).alloc (.map #[] 0) = w4 at *
  generalize w3.heap.size + 1 = kp at *
  generalize w3.heap.size = mp at *
  go_loopw [5, 7, 8, 9] (fun vv nv kv iv wx => ∃ i vp mp kp : Nat, i ≤ 30 ∧ iv = .int .i64 (i : Int) ∧ vv = .pointer (some ⟨vp, 0, none⟩) ∧ nv = .map (some mp) ∧ kv = .map (some kp) ∧ Hid (Ac w d h i vp mp kp wx)) (fun _ _ _ iv _ => 30 - (intOf iv).toNat)
  case atStart => exact ⟨0, vp, mp, kp, by omega, rfl, rfl, rfl, rfl, HU3⟩
  case round =>
    clear HU3
    obtain ⟨i, vp, mp, kp, hi30, rfl, rfl, rfl, rfl, HU⟩ := hrel
    obtain ⟨go, hgo⟩ : ∃ go, decide (i < la ∧ i < 30) = go := ⟨_, rfl⟩
    go_upto_region 9 with fail
    go_cut [46] (fun v wx => v = .bool go ∧ wx = wr)
    case first =>
      by_cases h1 : i < la
      · have i1 : (i : Int) < (la : Int) := by omega
        by_cases h2 : i < 30
        · have i2 : (i : Int) < 30 := by omega
          have e : go = true := by rw [← hgo]; exact decide_eq_true ⟨h1, h2⟩
          subst e
          clear hgo
          go_wp2_with fail
          go_meet
          exact ⟨rfl, rfl⟩
        · have i2 : ¬ (i : Int) < 30 := by omega
          have e : go = false := by rw [← hgo]; exact decide_eq_false (fun q => h2 q.2)
          subst e
          clear hgo
          go_wp2_with fail
          go_meet
          exact ⟨rfl, rfl⟩
      · have i1 : ¬ (i : Int) < (la : Int) := by omega
        have e : go = false := by rw [← hgo]; exact decide_eq_false (fun q => h1 q.1)
        subst e
        clear hgo
        go_wp2_with fail
        go_meet
        exact ⟨rfl, rfl⟩
    case rest =>
      obtain ⟨rfl, rfl⟩ := hcut
      cases go with
      | true =>
        obtain ⟨h1, h2⟩ := of_decide_eq_true hgo
        clear hgo
        have HOw := Lib.hid HU.out.old0
        obtain ⟨ba, oa, r, rfl, hc0, hin⟩ := HA.out i h1
        have hc := hc0.old HOw.out
        have c0 := hc.c0
        have c1 := hc.c1
        have c2 := hc.c2
        have c3 := hc.c3
        have c4 := hc.c4
        have c5 := hc.c5
        have c6 := hc.c6
        obtain ⟨B, l, hBl, hl500, hB256, hBy⟩ := act_bytes hin
        have HBy := Lib.hid hBy
        have HBl := Lib.hid hBl
        have HB2 := Lib.hid hB256
        have i0 : (0 : Int) ≤ (i : Int) := by omega
        have i1 : (i : Int) < (la : Int) := by omega
        have hwi : IntKind.i64.wrap ((i : Int) + 1) = (i : Int) + 1 := wrap_fits ⟨by omega, by omega⟩
        clear hin hBy hBl hB256 hc hc0
        go_upto_region 12 with fail
        have O7 : Old wc (wc.alloc (.cells #[.int .i64 r.what, .int .i64 r.id, .int .i64 r.n, .int .i64 r.torn, .int .i64 r.cut, .slice r.ba r.bl r.bc, .slice r.ka r.kl r.kc] 33)) := (Touch.refl _ _).alloc _
        have HM0 : Hid (Ac w d h i vp mp kp (wc.alloc (.cells #[.int .i64 r.what, .int .i64 r.id, .int .i64 r.n, .int .i64 r.torn, .int .i64 r.cut, .slice r.ba r.bl r.bc, .slice r.ka r.kl r.kc] 33)) ∧ Blk (wc.alloc (.cells #[.int .i64 r.what, .int .i64 r.id, .int .i64 r.n, .int .i64 r.torn, .int .i64 r.cut, .slice r.ba r.bl r.bc, .slice r.ka r.kl r.kc] 33)) wc.heap.size 33 (actCs r)) := ⟨HU.out.old O7, Blk.new wc 33 (actCs r)⟩
        clear HU c0 c1 c2 c3 c4 c5 c6 O7 HOw
        generalize wc.alloc (.cells #[.int .i64 r.what, .int .i64 r.id, .int .i64 r.n, .int .i64 r.torn, .int .i64 r.cut, .slice r.ba r.bl r.bc, .slice r.ka r.kl r.kc] 33) = w7 at *
        generalize wc.heap.size = gx at *
        have HT := Lib.hid HM0.out.1
        have HG := Lib.hid HM0.out.2
        have cx0 : w7.cell? ⟨gx, 0, none⟩ = some (.int .i64 r.what) := HM0.out.2.cell 0
        have cx1 : w7.cell? ⟨gx, 1, none⟩ = some (.int .i64 r.id) := HM0.out.2.cell 1
        have cx2 : w7.cell? ⟨gx, 2, none⟩ = some (.int .i64 r.n) := HM0.out.2.cell 2
        have HPi := Lib.hid (pick_at r.id 9 (by decide) (by decide))
        have HPn := Lib.hid (pick_at r.n 3 (by decide) (by decide))
        have HPw := Lib.hid (pick_at r.what 15 (by decide) (by decide))
        have hpi := pickN_lt (n := r.id) (m := 9) (by decide)
        have hpn := pickN_lt (n := r.n) (m := 3) (by decide)
        have hpw := pickN_lt (n := r.what) (m := 15) (by decide)
        generalize pickN r.id 9 = p9 at *
        generalize pickN r.n 3 = p3 at *
        generalize pickN r.what 15 = q at *
        obtain ⟨id, hid⟩ : ∃ id, 40 + p3 = id := ⟨_, rfl⟩
        have hw40 : IntKind.i64.wrap (40 + (p3 : Int)) = (id : Int) := wrap_fits' (by omega) ⟨by omega, by omega⟩
        clear HM0
        by_cases h49 : r.id.tmod 50 = 49
        · go_upto_block 2 with (first
            | ((with_reducible refine (HPi.out _).mono ?_); rintro y w' ⟨rfl, rfl⟩)
            | ((with_reducible refine (HPn.out _).mono ?_); rintro y w' ⟨rfl, rfl⟩)
            | ((with_reducible refine (HPw.out _).mono ?_); rintro y w' ⟨rfl, rfl⟩))
          have hid42 : id ≤ 42 := by omega
          clear hid hw40 cx0 cx1 cx2 HPi HPn HPw hpi hpn h49
          go_cut [5, 7, 8, 12, 13, 14, 15, 16, 17] from 67 to 154 (fun vv nv kv _ _ _ _ _ _ wx => ∃ vp' mp' kp' : Nat, vv = .pointer (some ⟨vp', 0, none⟩) ∧ nv = .map (some mp') ∧ kv = .map (some kp') ∧ Hid (Ac w d h (i + 1) vp' mp' kp' wx))
          case first =>
            have hq' : q = 6 ∨ q = 7 ∨ q = 8 ∨ q = 9 ∨ q = 10 ∨ q = 11 ∨ q = 12 ∨ q = 13 ∨ q = 14 ∨ (((q : Int) == 6) = false ∧ ((q : Int) == 7) = false ∧ ((q : Int) == 8) = false ∧ ((q : Int) == 9) = false ∧ ((q : Int) == 10) = false ∧ ((q : Int) == 11) = false ∧ ((q : Int) == 12) = false ∧ ((q : Int) == 13) = false ∧ ((q : Int) == 14) = false) := by
              simp only [beq_eq_false_iff_ne, ne_eq]
              omega
            rcases hq' with rfl | rfl | rfl | rfl | rfl | rfl | rfl | rfl | rfl | ⟨hq6, hq7, hq8, hq9, hq10, hq11, hq12, hq13, hq14⟩
            · as_aux_lemma =>
                clear hpw
                obtain ⟨lp, x, t, P, N, a, rs, rk, A⟩ := HT.out
                have hlo := A.m.look (k := id) (by omega)
                have HDr := Lib.hid (A.drop id hid42)
                clear A
                generalize strOf (bytesOf (rs.getD id none)) = s at *
                cases hc : (rs.getD id none).isSome
                all_goals
                  rw [hc] at hlo HDr
                  clear hc
                  go_wp2_with fail
                  refine HDr.out.mono ?_
                  rintro y w8 ⟨rfl, w9, hdel, A9⟩
                  have HA9 := Lib.hid A9.more
                  clear A9 HDr
                  go_wp2_with (first | (at_builtin; refine wpList_delete_run rfl _ _ 29 3 rfl _ _ rfl rfl _ _ (hdel _) ?_))
                  go_meet
                  exact ⟨vp, mp, kp, rfl, rfl, rfl, HA9⟩
            · as_aux_lemma =>
                clear hpw
                obtain ⟨lp, x, t, P, N, a, rs, rk, A⟩ := HT.out
                have hlo := A.m.look (k := id) (by omega)
                have HDr := Lib.hid (A.drop id hid42)
                clear A
                generalize strOf (bytesOf (rs.getD id none)) = s at *
                cases hc : (rs.getD id none).isSome
                all_goals
                  rw [hc] at hlo HDr
                  clear hc
                  go_wp2_with fail
                  refine HDr.out.mono ?_
                  rintro y w8 ⟨rfl, w9, hdel, A9⟩
                  have HA9 := Lib.hid A9.more
                  clear A9 HDr
                  go_wp2_with (first | (at_builtin; refine wpList_delete_run rfl _ _ 29 3 rfl _ _ rfl rfl _ _ (hdel _) ?_))
                  go_meet
                  exact ⟨vp, mp, kp, rfl, rfl, rfl, HA9⟩
            · as_aux_lemma =>
                clear hpw
                have HKe := Lib.hid (HT.out.keep (by omega))
                go_wp2_with fail
                refine HKe.out.mono ?_
                rintro y w8 (⟨rfl, A8⟩ | ⟨rfl, A8⟩)
                · have HCo := Lib.hid A8.copy
                  clear A8 HKe
                  go_wp2_with fail
                  refine HCo.out.mono ?_
                  rintro y w9 ⟨mo, rfl, A9, _⟩
                  have HA9 := Lib.hid A9
                  clear A9 HCo
                  go_wp2_with fail
                  go_meet
                  exact ⟨vp, mp, mo, rfl, rfl, rfl, HA9⟩
                · have HCo := Lib.hid A8.copy
                  clear A8 HKe
                  go_wp2_with fail
                  refine HCo.out.mono ?_
                  rintro y w9 ⟨mo, rfl, _, A9⟩
                  have HA9 := Lib.hid A9
                  clear A9 HCo
                  go_wp2_with fail
                  go_meet
                  exact ⟨vp, mo, kp, rfl, rfl, rfl, HA9⟩
            · as_aux_lemma =>
                clear hpw
                have HKe := Lib.hid (HT.out.keep (by omega))
                go_wp2_with fail
                refine HKe.out.mono ?_
                rintro y w8 (⟨rfl, A8⟩ | ⟨rfl, A8⟩)
                · have HCo := Lib.hid A8.copy
                  clear A8 HKe
                  go_wp2_with fail
                  refine HCo.out.mono ?_
                  rintro y w9 ⟨mo, rfl, A9, _⟩
                  have HA9 := Lib.hid A9
                  clear A9 HCo
                  go_wp2_with fail
                  go_meet
                  exact ⟨vp, mp, mo, rfl, rfl, rfl, HA9⟩
                · have HCo := Lib.hid A8.copy
                  clear A8 HKe
                  go_wp2_with fail
                  refine HCo.out.mono ?_
                  rintro y w9 ⟨mo, rfl, _, A9⟩
                  have HA9 := Lib.hid A9
                  clear A9 HCo
                  go_wp2_with fail
                  go_meet
                  exact ⟨vp, mo, kp, rfl, rfl, rfl, HA9⟩
            · as_aux_lemma =>
                clear hpw
                have HU := Lib.hid HT.out.undo
                go_wp2_with fail
                refine HU.out.mono ?_
                rintro y w8 ⟨rfl, A8⟩
                have HCo := Lib.hid A8.copy
                clear A8 HU
                go_wp2_with fail
                refine HCo.out.mono ?_
                rintro y w9 ⟨mo, rfl, _, A9⟩
                have HA9 := Lib.hid A9.more
                clear A9 HCo
                go_wp2_with fail
                go_meet
                exact ⟨vp, mo, kp, rfl, rfl, rfl, HA9⟩
            · as_aux_lemma =>
                clear hpw
                have HU := Lib.hid (HT.out.settle (by omega))
                go_wp2_with fail
                refine HU.out.mono ?_
                rintro y w8 ⟨rfl, A8⟩
                have HA8 := Lib.hid A8
                clear A8 HU
                go_wp2_with fail
                go_meet
                exact ⟨vp, mp, kp, rfl, rfl, rfl, HA8⟩
            · as_aux_lemma =>
                clear hpw
                have HU := Lib.hid (HT.out.open_ (by omega) (by omega))
                go_wp2_with fail
                refine HU.out.mono ?_
                rintro y w8 ⟨vp', rfl, A8⟩
                have HCo := Lib.hid A8.copy
                clear A8 HU
                go_wp2_with fail
                refine HCo.out.mono ?_
                rintro y w9 ⟨mo, rfl, _, A9⟩
                have HA9 := Lib.hid A9
                clear A9 HCo
                go_wp2_with fail
                go_meet
                exact ⟨vp', mo, kp, rfl, rfl, rfl, HA9⟩
            · as_aux_lemma =>
                clear hpw
                have HU := Lib.hid (HT.out.open_ (by omega) (by omega))
                go_wp2_with fail
                refine HU.out.mono ?_
                rintro y w8 ⟨vp', rfl, A8⟩
                have HCo := Lib.hid A8.copy
                clear A8 HU
                go_wp2_with fail
                refine HCo.out.mono ?_
                rintro y w9 ⟨mo, rfl, _, A9⟩
                have HA9 := Lib.hid A9
                clear A9 HCo
                go_wp2_with fail
                go_meet
                exact ⟨vp', mo, kp, rfl, rfl, rfl, HA9⟩
            · as_aux_lemma =>
                clear hpw
                have HU := Lib.hid (HT.out.open_ (by omega) (by omega))
                go_wp2_with fail
                refine HU.out.mono ?_
                rintro y w8 ⟨vp', rfl, A8⟩
                have HCo := Lib.hid A8.copy
                clear A8 HU
                go_wp2_with fail
                refine HCo.out.mono ?_
                rintro y w9 ⟨mo, rfl, _, A9⟩
                have HA9 := Lib.hid A9
                clear A9 HCo
                go_wp2_with fail
                go_meet
                exact ⟨vp', mo, kp, rfl, rfl, rfl, HA9⟩
            · as_aux_lemma =>
                clear hpw
                obtain ⟨lp, x, t, P, N, a, rs, rk, A⟩ := HT.out
                have HCo := Lib.hid (copied_any w7 A.m A.v.mem.rok)
                have HA7 := Lib.hid A
                have ht0 : w.heap.size ≤ w7.heap.size := A.v.sail.old0.size
                clear A
                go_wp2_with fail
                refine HCo.out.mono ?_
                rintro y w8 ⟨np, rfl, hnp, M8, O8⟩
                have HA8 : Hid (AcAt w d h i vp mp kp lp x t P N a rs rk w8) := ⟨HA7.out.le, HA7.out.v.old O8, HA7.out.m.old O8, HA7.out.k.old O8, HA7.out.nm, HA7.out.nk, HA7.out.ne⟩
                have HM8 := Lib.hid M8
                have hG8 := HG.out.touch O8 (fun q => q)
                have d0 : w8.cell? ⟨gx, 0, none⟩ = some (.int .i64 r.what) := hG8.cell 0
                have d1 : w8.cell? ⟨gx, 1, none⟩ = some (.int .i64 r.id) := hG8.cell 1
                have d2 : w8.cell? ⟨gx, 2, none⟩ = some (.int .i64 r.n) := hG8.cell 2
                have d3 : w8.cell? ⟨gx, 3, none⟩ = some (.int .i64 r.torn) := hG8.cell 3
                have d4 : w8.cell? ⟨gx, 4, none⟩ = some (.int .i64 r.cut) := hG8.cell 4
                have d5 : w8.cell? ⟨gx, 5, none⟩ = some (.slice r.ba r.bl r.bc) := hG8.cell 5
                have d6 : w8.cell? ⟨gx, 6, none⟩ = some (.slice r.ka r.kl r.kc) := hG8.cell 6
                have HG8 := Lib.hid hG8
                have hkl := HA7.out.k.lt
                have hkn : np ≠ kp := by omega
                have hml := HA7.out.m.lt
                have hmn : mp ≠ np := by omega
                have hn0 : w.heap.size ≤ np := by omega
                clear M8 O8 HCo HA7 hG8 hkl hml hnp ht0
                go_wp2_with fail
                refine (HBy.out w8 HA8.out.v.sail.old0).mono ?_
                rintro y w9 ⟨a9, b9, rfl, hb9, Hh9, O9⟩
                have hst := str_any w9 a9 B l b9 Hh9 HBl.out
                obtain ⟨w10, hput, M10, T10⟩ := (HM8.out.old O9).put0 (k := id) (by omega) (b := B) (by rw [HBl.out]; omega)
                have tr := (HM8.out.old O9).turn T10
                have HA10 : Hid (AcAt w d h i vp mp kp lp x t P N a rs rk w10) := ⟨HA8.out.le, (HA8.out.v.old O9).map tr hn0, (HA8.out.m.old O9).aside tr hmn, (HA8.out.k.old O9).aside tr hkn.symm, HA8.out.nm, HA8.out.nk, HA8.out.ne⟩
                have hG10 := tr.blk (HG8.out.touch O9 (fun q => q))
                have e0 : w10.cell? ⟨gx, 0, none⟩ = some (.int .i64 r.what) := hG10.cell 0
                have e1 : w10.cell? ⟨gx, 1, none⟩ = some (.int .i64 r.id) := hG10.cell 1
                have e2 : w10.cell? ⟨gx, 2, none⟩ = some (.int .i64 r.n) := hG10.cell 2
                have e3 : w10.cell? ⟨gx, 3, none⟩ = some (.int .i64 r.torn) := hG10.cell 3
                have e4 : w10.cell? ⟨gx, 4, none⟩ = some (.int .i64 r.cut) := hG10.cell 4
                have e5 : w10.cell? ⟨gx, 5, none⟩ = some (.slice r.ba r.bl r.bc) := hG10.cell 5
                have e6 : w10.cell? ⟨gx, 6, none⟩ = some (.slice r.ka r.kl r.kc) := hG10.cell 6
                have HM10 := Lib.hid M10
                clear Hh9 O9 hb9 M10 T10 tr hG10 HA8 HM8 HG8 d0 d1 d2 d3 d4 d5 d6 hmn
                by_cases hv : 1 ≤ id ∧ id ≤ 40
                · have g1 : ¬ (id : Int) < 1 := by omega
                  have g2 : ¬ (40 : Int) < (id : Int) := by omega
                  have hM := HM10.out (by omega)
                  have hok : RsOk (rs.set id (some B)) := HA10.out.v.mem.rok.set hv.1 (fun b e => by cases e; exact ⟨HB2.out, by rw [HBl.out]; omega⟩)
                  have hsl := hok.sum_le 41 (by omega)
                  rw [List.take_of_length_le (by rw [hok.r41]; exact Nat.le_refl _)] at hsl
                  have HSm := Lib.hid (sum_any w10 hM hok)
                  have HTr := Lib.hid HA10.out.v.tracks
                  have HPt : Hid (∀ p c w11, Old w10 w11 → Has w11 p B → Calls Tryz.prog 21 #[.pointer (some ⟨vp, 0, none⟩), .int .i64 (id : Int), .slice p l c] w11 fun y w' =>
                      (h < 1 + sumT (rs.set id (some B)) ∧ y = .returned (.int .i64 3) ∧ Ac w d h i vp mp kp w') ∨ (1 + sumT (rs.set id (some B)) ≤ h ∧ y = .returned (.int .i64 0) ∧ Ac w d h i vp np kp w')) := fun p c w11 O hB => by
                    have A11 : AcAt w d h i vp mp kp lp x t P N a rs rk w11 := ⟨HA10.out.le, HA10.out.v.old O, HA10.out.m.old O, HA10.out.k.old O, HA10.out.nm, HA10.out.nk, HA10.out.ne⟩
                    exact A11.put np id (hM.old O) hn0 hkn hv.1 hv.2 p l c hB HBl.out hl500
                  have HO10 := Lib.hid HA10.out.v.sail.old0
                  clear hM hok HM10 HA10
                  generalize 1 + sumT (rs.set id (some B)) = s at *
                  by_cases hs : h < s
                  · have g3 : (h : Int) < (s : Int) := by omega
                    go_wp2_with (first
                      | ((with_reducible refine HSm.out.mono ?_); rintro y w' ⟨rfl, rfl⟩)
                      | ((with_reducible refine HTr.out.mono ?_); rintro y w' ⟨rfl, rfl⟩))
                    refine (HBy.out w10 HO10.out).mono ?_
                    rintro y w11 ⟨a11, b11, rfl, hb11, Hh11, O11⟩
                    have HP := Lib.hid (HPt.out a11 b11 w11 O11 Hh11)
                    clear HPt Hh11 O11 hb11 HSm HTr
                    go_wp2_with fail
                    refine HP.out.mono ?_
                    rintro y w12 (⟨_, rfl, A12⟩ | ⟨hle, _⟩)
                    · have HA12 := Lib.hid A12.more
                      clear A12 HP
                      go_wp2_with fail
                      go_meet
                      exact ⟨vp, mp, kp, rfl, rfl, rfl, HA12⟩
                    · exact absurd hs (by omega)
                  · have g3 : ¬ (h : Int) < (s : Int) := by omega
                    go_wp2_with (first
                      | ((with_reducible refine HSm.out.mono ?_); rintro y w' ⟨rfl, rfl⟩)
                      | ((with_reducible refine HTr.out.mono ?_); rintro y w' ⟨rfl, rfl⟩))
                    refine (HBy.out w10 HO10.out).mono ?_
                    rintro y w11 ⟨a11, b11, rfl, hb11, Hh11, O11⟩
                    have HP := Lib.hid (HPt.out a11 b11 w11 O11 Hh11)
                    clear HPt Hh11 O11 hb11 HSm HTr
                    go_wp2_with fail
                    refine HP.out.mono ?_
                    rintro y w12 (⟨hlt, _⟩ | ⟨_, rfl, A12⟩)
                    · exact absurd hlt (by omega)
                    · have HA12 := Lib.hid A12.more
                      clear A12 HP
                      go_wp2_with fail
                      go_meet
                      exact ⟨vp, np, kp, rfl, rfl, rfl, HA12⟩
                · have HO10 := Lib.hid HA10.out.v.sail.old0
                  have HAc : Hid (Ac w d h (i + 1) vp mp kp w10) := Ac.more ⟨lp, x, t, P, N, a, rs, rk, HA10.out⟩
                  clear HA10 HM10
                  have fin : Hid (∀ p c w11, Calls Tryz.prog 21 #[.pointer (some ⟨vp, 0, none⟩), .int .i64 (id : Int), .slice p l c] w11 fun y w' => y = .returned (.int .i64 1) ∧ w11 = w') := fun p c w11 => vput_bad w11 (id : Int) p l c (.inl (decide_eq_false (by omega)))
                  by_cases hz : id < 1
                  · have g1 : (id : Int) < 1 := by omega
                    go_wp2_with fail
                    refine (HBy.out w10 HO10.out).mono ?_
                    rintro y w11 ⟨a11, b11, rfl, hb11, Hh11, O11⟩
                    have HA11 := Lib.hid (HAc.out.old O11)
                    clear Hh11 O11 hb11 HAc
                    go_wp2_with fail
                    refine (fin.out a11 b11 w11).mono ?_
                    rintro y w' ⟨rfl, rfl⟩
                    go_wp2_with fail
                    go_meet
                    exact ⟨vp, mp, kp, rfl, rfl, rfl, HA11⟩
                  · have g1 : ¬ (id : Int) < 1 := by omega
                    have g2 : (40 : Int) < (id : Int) := by omega
                    go_wp2_with fail
                    refine (HBy.out w10 HO10.out).mono ?_
                    rintro y w11 ⟨a11, b11, rfl, hb11, Hh11, O11⟩
                    have HA11 := Lib.hid (HAc.out.old O11)
                    clear Hh11 O11 hb11 HAc
                    go_wp2_with fail
                    refine (fin.out a11 b11 w11).mono ?_
                    rintro y w' ⟨rfl, rfl⟩
                    go_wp2_with fail
                    go_meet
                    exact ⟨vp, mp, kp, rfl, rfl, rfl, HA11⟩
          case rest =>
            obtain ⟨vp', mp', kp', rfl, rfl, rfl, HT2⟩ := hcut
            obtain ⟨lp, x, t, P, N, a, rs, rk, A⟩ := HT2.out
            have HI := Lib.hid (is_any A.v A.m A.v.mem.rok)
            have HA2 := Lib.hid A
            clear A HT HT2
            go_wp2_with fail
            refine HI.out.mono ?_
            rintro y w9 ⟨c, rfl, hc, O9⟩
            obtain rfl : c = true := by simpa using hc
            have HLo := Lib.hid (HA2.out.v.old O9).lost
            have HN : Hid (Ac w d h (i + 1) vp' mp' kp' w9) := Ac.old (w := wc) ⟨lp, x, t, P, N, a, rs, rk, HA2.out⟩ O9
            clear hc O9 HI HA2
            go_wp2_with fail
            refine HLo.out.mono ?_
            rintro y w' ⟨rfl, rfl⟩
            go_wp2_with fail
            go_roundw
            case rel => exact ⟨i + 1, vp', mp', kp', by omega, by go_num, rfl, rfl, rfl, HN⟩
            case measure => simp [intOf]; omega
        · go_upto_block 2 with (first
            | ((with_reducible refine (HPi.out _).mono ?_); rintro y w' ⟨rfl, rfl⟩)
            | ((with_reducible refine (HPn.out _).mono ?_); rintro y w' ⟨rfl, rfl⟩)
            | ((with_reducible refine (HPw.out _).mono ?_); rintro y w' ⟨rfl, rfl⟩))
          have hid42 : p9 ≤ 42 := by omega
          clear hid hw40 cx0 cx1 cx2 HPi HPn HPw hpi hpn h49
          go_cut [5, 7, 8, 12, 13, 14, 15, 16, 17] from 67 to 154 (fun vv nv kv _ _ _ _ _ _ wx => ∃ vp' mp' kp' : Nat, vv = .pointer (some ⟨vp', 0, none⟩) ∧ nv = .map (some mp') ∧ kv = .map (some kp') ∧ Hid (Ac w d h (i + 1) vp' mp' kp' wx))
          case first =>
            have hq' : q = 6 ∨ q = 7 ∨ q = 8 ∨ q = 9 ∨ q = 10 ∨ q = 11 ∨ q = 12 ∨ q = 13 ∨ q = 14 ∨ (((q : Int) == 6) = false ∧ ((q : Int) == 7) = false ∧ ((q : Int) == 8) = false ∧ ((q : Int) == 9) = false ∧ ((q : Int) == 10) = false ∧ ((q : Int) == 11) = false ∧ ((q : Int) == 12) = false ∧ ((q : Int) == 13) = false ∧ ((q : Int) == 14) = false) := by
              simp only [beq_eq_false_iff_ne, ne_eq]
              omega
            rcases hq' with rfl | rfl | rfl | rfl | rfl | rfl | rfl | rfl | rfl | ⟨hq6, hq7, hq8, hq9, hq10, hq11, hq12, hq13, hq14⟩
            · as_aux_lemma =>
                clear hpw
                obtain ⟨lp, x, t, P, N, a, rs, rk, A⟩ := HT.out
                have hlo := A.m.look (k := p9) (by omega)
                have HDr := Lib.hid (A.drop p9 hid42)
                clear A
                generalize strOf (bytesOf (rs.getD p9 none)) = s at *
                cases hc : (rs.getD p9 none).isSome
                all_goals
                  rw [hc] at hlo HDr
                  clear hc
                  go_wp2_with fail
                  refine HDr.out.mono ?_
                  rintro y w8 ⟨rfl, w9, hdel, A9⟩
                  have HA9 := Lib.hid A9.more
                  clear A9 HDr
                  go_wp2_with (first | (at_builtin; refine wpList_delete_run rfl _ _ 29 3 rfl _ _ rfl rfl _ _ (hdel _) ?_))
                  go_meet
                  exact ⟨vp, mp, kp, rfl, rfl, rfl, HA9⟩
            · as_aux_lemma =>
                clear hpw
                obtain ⟨lp, x, t, P, N, a, rs, rk, A⟩ := HT.out
                have hlo := A.m.look (k := p9) (by omega)
                have HDr := Lib.hid (A.drop p9 hid42)
                clear A
                generalize strOf (bytesOf (rs.getD p9 none)) = s at *
                cases hc : (rs.getD p9 none).isSome
                all_goals
                  rw [hc] at hlo HDr
                  clear hc
                  go_wp2_with fail
                  refine HDr.out.mono ?_
                  rintro y w8 ⟨rfl, w9, hdel, A9⟩
                  have HA9 := Lib.hid A9.more
                  clear A9 HDr
                  go_wp2_with (first | (at_builtin; refine wpList_delete_run rfl _ _ 29 3 rfl _ _ rfl rfl _ _ (hdel _) ?_))
                  go_meet
                  exact ⟨vp, mp, kp, rfl, rfl, rfl, HA9⟩
            · as_aux_lemma =>
                clear hpw
                have HKe := Lib.hid (HT.out.keep (by omega))
                go_wp2_with fail
                refine HKe.out.mono ?_
                rintro y w8 (⟨rfl, A8⟩ | ⟨rfl, A8⟩)
                · have HCo := Lib.hid A8.copy
                  clear A8 HKe
                  go_wp2_with fail
                  refine HCo.out.mono ?_
                  rintro y w9 ⟨mo, rfl, A9, _⟩
                  have HA9 := Lib.hid A9
                  clear A9 HCo
                  go_wp2_with fail
                  go_meet
                  exact ⟨vp, mp, mo, rfl, rfl, rfl, HA9⟩
                · have HCo := Lib.hid A8.copy
                  clear A8 HKe
                  go_wp2_with fail
                  refine HCo.out.mono ?_
                  rintro y w9 ⟨mo, rfl, _, A9⟩
                  have HA9 := Lib.hid A9
                  clear A9 HCo
                  go_wp2_with fail
                  go_meet
                  exact ⟨vp, mo, kp, rfl, rfl, rfl, HA9⟩
            · as_aux_lemma =>
                clear hpw
                have HKe := Lib.hid (HT.out.keep (by omega))
                go_wp2_with fail
                refine HKe.out.mono ?_
                rintro y w8 (⟨rfl, A8⟩ | ⟨rfl, A8⟩)
                · have HCo := Lib.hid A8.copy
                  clear A8 HKe
                  go_wp2_with fail
                  refine HCo.out.mono ?_
                  rintro y w9 ⟨mo, rfl, A9, _⟩
                  have HA9 := Lib.hid A9
                  clear A9 HCo
                  go_wp2_with fail
                  go_meet
                  exact ⟨vp, mp, mo, rfl, rfl, rfl, HA9⟩
                · have HCo := Lib.hid A8.copy
                  clear A8 HKe
                  go_wp2_with fail
                  refine HCo.out.mono ?_
                  rintro y w9 ⟨mo, rfl, _, A9⟩
                  have HA9 := Lib.hid A9
                  clear A9 HCo
                  go_wp2_with fail
                  go_meet
                  exact ⟨vp, mo, kp, rfl, rfl, rfl, HA9⟩
            · as_aux_lemma =>
                clear hpw
                have HU := Lib.hid HT.out.undo
                go_wp2_with fail
                refine HU.out.mono ?_
                rintro y w8 ⟨rfl, A8⟩
                have HCo := Lib.hid A8.copy
                clear A8 HU
                go_wp2_with fail
                refine HCo.out.mono ?_
                rintro y w9 ⟨mo, rfl, _, A9⟩
                have HA9 := Lib.hid A9.more
                clear A9 HCo
                go_wp2_with fail
                go_meet
                exact ⟨vp, mo, kp, rfl, rfl, rfl, HA9⟩
            · as_aux_lemma =>
                clear hpw
                have HU := Lib.hid (HT.out.settle (by omega))
                go_wp2_with fail
                refine HU.out.mono ?_
                rintro y w8 ⟨rfl, A8⟩
                have HA8 := Lib.hid A8
                clear A8 HU
                go_wp2_with fail
                go_meet
                exact ⟨vp, mp, kp, rfl, rfl, rfl, HA8⟩
            · as_aux_lemma =>
                clear hpw
                have HU := Lib.hid (HT.out.open_ (by omega) (by omega))
                go_wp2_with fail
                refine HU.out.mono ?_
                rintro y w8 ⟨vp', rfl, A8⟩
                have HCo := Lib.hid A8.copy
                clear A8 HU
                go_wp2_with fail
                refine HCo.out.mono ?_
                rintro y w9 ⟨mo, rfl, _, A9⟩
                have HA9 := Lib.hid A9
                clear A9 HCo
                go_wp2_with fail
                go_meet
                exact ⟨vp', mo, kp, rfl, rfl, rfl, HA9⟩
            · as_aux_lemma =>
                clear hpw
                have HU := Lib.hid (HT.out.open_ (by omega) (by omega))
                go_wp2_with fail
                refine HU.out.mono ?_
                rintro y w8 ⟨vp', rfl, A8⟩
                have HCo := Lib.hid A8.copy
                clear A8 HU
                go_wp2_with fail
                refine HCo.out.mono ?_
                rintro y w9 ⟨mo, rfl, _, A9⟩
                have HA9 := Lib.hid A9
                clear A9 HCo
                go_wp2_with fail
                go_meet
                exact ⟨vp', mo, kp, rfl, rfl, rfl, HA9⟩
            · as_aux_lemma =>
                clear hpw
                have HU := Lib.hid (HT.out.open_ (by omega) (by omega))
                go_wp2_with fail
                refine HU.out.mono ?_
                rintro y w8 ⟨vp', rfl, A8⟩
                have HCo := Lib.hid A8.copy
                clear A8 HU
                go_wp2_with fail
                refine HCo.out.mono ?_
                rintro y w9 ⟨mo, rfl, _, A9⟩
                have HA9 := Lib.hid A9
                clear A9 HCo
                go_wp2_with fail
                go_meet
                exact ⟨vp', mo, kp, rfl, rfl, rfl, HA9⟩
            · as_aux_lemma =>
                clear hpw
                obtain ⟨lp, x, t, P, N, a, rs, rk, A⟩ := HT.out
                have HCo := Lib.hid (copied_any w7 A.m A.v.mem.rok)
                have HA7 := Lib.hid A
                have ht0 : w.heap.size ≤ w7.heap.size := A.v.sail.old0.size
                clear A
                go_wp2_with fail
                refine HCo.out.mono ?_
                rintro y w8 ⟨np, rfl, hnp, M8, O8⟩
                have HA8 : Hid (AcAt w d h i vp mp kp lp x t P N a rs rk w8) := ⟨HA7.out.le, HA7.out.v.old O8, HA7.out.m.old O8, HA7.out.k.old O8, HA7.out.nm, HA7.out.nk, HA7.out.ne⟩
                have HM8 := Lib.hid M8
                have hG8 := HG.out.touch O8 (fun q => q)
                have d0 : w8.cell? ⟨gx, 0, none⟩ = some (.int .i64 r.what) := hG8.cell 0
                have d1 : w8.cell? ⟨gx, 1, none⟩ = some (.int .i64 r.id) := hG8.cell 1
                have d2 : w8.cell? ⟨gx, 2, none⟩ = some (.int .i64 r.n) := hG8.cell 2
                have d3 : w8.cell? ⟨gx, 3, none⟩ = some (.int .i64 r.torn) := hG8.cell 3
                have d4 : w8.cell? ⟨gx, 4, none⟩ = some (.int .i64 r.cut) := hG8.cell 4
                have d5 : w8.cell? ⟨gx, 5, none⟩ = some (.slice r.ba r.bl r.bc) := hG8.cell 5
                have d6 : w8.cell? ⟨gx, 6, none⟩ = some (.slice r.ka r.kl r.kc) := hG8.cell 6
                have HG8 := Lib.hid hG8
                have hkl := HA7.out.k.lt
                have hkn : np ≠ kp := by omega
                have hml := HA7.out.m.lt
                have hmn : mp ≠ np := by omega
                have hn0 : w.heap.size ≤ np := by omega
                clear M8 O8 HCo HA7 hG8 hkl hml hnp ht0
                go_wp2_with fail
                refine (HBy.out w8 HA8.out.v.sail.old0).mono ?_
                rintro y w9 ⟨a9, b9, rfl, hb9, Hh9, O9⟩
                have hst := str_any w9 a9 B l b9 Hh9 HBl.out
                obtain ⟨w10, hput, M10, T10⟩ := (HM8.out.old O9).put0 (k := p9) (by omega) (b := B) (by rw [HBl.out]; omega)
                have tr := (HM8.out.old O9).turn T10
                have HA10 : Hid (AcAt w d h i vp mp kp lp x t P N a rs rk w10) := ⟨HA8.out.le, (HA8.out.v.old O9).map tr hn0, (HA8.out.m.old O9).aside tr hmn, (HA8.out.k.old O9).aside tr hkn.symm, HA8.out.nm, HA8.out.nk, HA8.out.ne⟩
                have hG10 := tr.blk (HG8.out.touch O9 (fun q => q))
                have e0 : w10.cell? ⟨gx, 0, none⟩ = some (.int .i64 r.what) := hG10.cell 0
                have e1 : w10.cell? ⟨gx, 1, none⟩ = some (.int .i64 r.id) := hG10.cell 1
                have e2 : w10.cell? ⟨gx, 2, none⟩ = some (.int .i64 r.n) := hG10.cell 2
                have e3 : w10.cell? ⟨gx, 3, none⟩ = some (.int .i64 r.torn) := hG10.cell 3
                have e4 : w10.cell? ⟨gx, 4, none⟩ = some (.int .i64 r.cut) := hG10.cell 4
                have e5 : w10.cell? ⟨gx, 5, none⟩ = some (.slice r.ba r.bl r.bc) := hG10.cell 5
                have e6 : w10.cell? ⟨gx, 6, none⟩ = some (.slice r.ka r.kl r.kc) := hG10.cell 6
                have HM10 := Lib.hid M10
                clear Hh9 O9 hb9 M10 T10 tr hG10 HA8 HM8 HG8 d0 d1 d2 d3 d4 d5 d6 hmn
                by_cases hv : 1 ≤ p9 ∧ p9 ≤ 40
                · have g1 : ¬ (p9 : Int) < 1 := by omega
                  have g2 : ¬ (40 : Int) < (p9 : Int) := by omega
                  have hM := HM10.out (by omega)
                  have hok : RsOk (rs.set p9 (some B)) := HA10.out.v.mem.rok.set hv.1 (fun b e => by cases e; exact ⟨HB2.out, by rw [HBl.out]; omega⟩)
                  have hsl := hok.sum_le 41 (by omega)
                  rw [List.take_of_length_le (by rw [hok.r41]; exact Nat.le_refl _)] at hsl
                  have HSm := Lib.hid (sum_any w10 hM hok)
                  have HTr := Lib.hid HA10.out.v.tracks
                  have HPt : Hid (∀ p c w11, Old w10 w11 → Has w11 p B → Calls Tryz.prog 21 #[.pointer (some ⟨vp, 0, none⟩), .int .i64 (p9 : Int), .slice p l c] w11 fun y w' =>
                      (h < 1 + sumT (rs.set p9 (some B)) ∧ y = .returned (.int .i64 3) ∧ Ac w d h i vp mp kp w') ∨ (1 + sumT (rs.set p9 (some B)) ≤ h ∧ y = .returned (.int .i64 0) ∧ Ac w d h i vp np kp w')) := fun p c w11 O hB => by
                    have A11 : AcAt w d h i vp mp kp lp x t P N a rs rk w11 := ⟨HA10.out.le, HA10.out.v.old O, HA10.out.m.old O, HA10.out.k.old O, HA10.out.nm, HA10.out.nk, HA10.out.ne⟩
                    exact A11.put np p9 (hM.old O) hn0 hkn hv.1 hv.2 p l c hB HBl.out hl500
                  have HO10 := Lib.hid HA10.out.v.sail.old0
                  clear hM hok HM10 HA10
                  generalize 1 + sumT (rs.set p9 (some B)) = s at *
                  by_cases hs : h < s
                  · have g3 : (h : Int) < (s : Int) := by omega
                    go_wp2_with (first
                      | ((with_reducible refine HSm.out.mono ?_); rintro y w' ⟨rfl, rfl⟩)
                      | ((with_reducible refine HTr.out.mono ?_); rintro y w' ⟨rfl, rfl⟩))
                    refine (HBy.out w10 HO10.out).mono ?_
                    rintro y w11 ⟨a11, b11, rfl, hb11, Hh11, O11⟩
                    have HP := Lib.hid (HPt.out a11 b11 w11 O11 Hh11)
                    clear HPt Hh11 O11 hb11 HSm HTr
                    go_wp2_with fail
                    refine HP.out.mono ?_
                    rintro y w12 (⟨_, rfl, A12⟩ | ⟨hle, _⟩)
                    · have HA12 := Lib.hid A12.more
                      clear A12 HP
                      go_wp2_with fail
                      go_meet
                      exact ⟨vp, mp, kp, rfl, rfl, rfl, HA12⟩
                    · exact absurd hs (by omega)
                  · have g3 : ¬ (h : Int) < (s : Int) := by omega
                    go_wp2_with (first
                      | ((with_reducible refine HSm.out.mono ?_); rintro y w' ⟨rfl, rfl⟩)
                      | ((with_reducible refine HTr.out.mono ?_); rintro y w' ⟨rfl, rfl⟩))
                    refine (HBy.out w10 HO10.out).mono ?_
                    rintro y w11 ⟨a11, b11, rfl, hb11, Hh11, O11⟩
                    have HP := Lib.hid (HPt.out a11 b11 w11 O11 Hh11)
                    clear HPt Hh11 O11 hb11 HSm HTr
                    go_wp2_with fail
                    refine HP.out.mono ?_
                    rintro y w12 (⟨hlt, _⟩ | ⟨_, rfl, A12⟩)
                    · exact absurd hlt (by omega)
                    · have HA12 := Lib.hid A12.more
                      clear A12 HP
                      go_wp2_with fail
                      go_meet
                      exact ⟨vp, np, kp, rfl, rfl, rfl, HA12⟩
                · have HO10 := Lib.hid HA10.out.v.sail.old0
                  have HAc : Hid (Ac w d h (i + 1) vp mp kp w10) := Ac.more ⟨lp, x, t, P, N, a, rs, rk, HA10.out⟩
                  clear HA10 HM10
                  have fin : Hid (∀ p c w11, Calls Tryz.prog 21 #[.pointer (some ⟨vp, 0, none⟩), .int .i64 (p9 : Int), .slice p l c] w11 fun y w' => y = .returned (.int .i64 1) ∧ w11 = w') := fun p c w11 => vput_bad w11 (p9 : Int) p l c (.inl (decide_eq_false (by omega)))
                  by_cases hz : p9 < 1
                  · have g1 : (p9 : Int) < 1 := by omega
                    go_wp2_with fail
                    refine (HBy.out w10 HO10.out).mono ?_
                    rintro y w11 ⟨a11, b11, rfl, hb11, Hh11, O11⟩
                    have HA11 := Lib.hid (HAc.out.old O11)
                    clear Hh11 O11 hb11 HAc
                    go_wp2_with fail
                    refine (fin.out a11 b11 w11).mono ?_
                    rintro y w' ⟨rfl, rfl⟩
                    go_wp2_with fail
                    go_meet
                    exact ⟨vp, mp, kp, rfl, rfl, rfl, HA11⟩
                  · have g1 : ¬ (p9 : Int) < 1 := by omega
                    have g2 : (40 : Int) < (p9 : Int) := by omega
                    go_wp2_with fail
                    refine (HBy.out w10 HO10.out).mono ?_
                    rintro y w11 ⟨a11, b11, rfl, hb11, Hh11, O11⟩
                    have HA11 := Lib.hid (HAc.out.old O11)
                    clear Hh11 O11 hb11 HAc
                    go_wp2_with fail
                    refine (fin.out a11 b11 w11).mono ?_
                    rintro y w' ⟨rfl, rfl⟩
                    go_wp2_with fail
                    go_meet
                    exact ⟨vp, mp, kp, rfl, rfl, rfl, HA11⟩
          case rest =>
            obtain ⟨vp', mp', kp', rfl, rfl, rfl, HT2⟩ := hcut
            obtain ⟨lp, x, t, P, N, a, rs, rk, A⟩ := HT2.out
            have HI := Lib.hid (is_any A.v A.m A.v.mem.rok)
            have HA2 := Lib.hid A
            clear A HT HT2
            go_wp2_with fail
            refine HI.out.mono ?_
            rintro y w9 ⟨c, rfl, hc, O9⟩
            obtain rfl : c = true := by simpa using hc
            have HLo := Lib.hid (HA2.out.v.old O9).lost
            have HN : Hid (Ac w d h (i + 1) vp' mp' kp' w9) := Ac.old (w := wc) ⟨lp, x, t, P, N, a, rs, rk, HA2.out⟩ O9
            clear hc O9 HI HA2
            go_wp2_with fail
            refine HLo.out.mono ?_
            rintro y w' ⟨rfl, rfl⟩
            go_wp2_with fail
            go_roundw
            case rel => exact ⟨i + 1, vp', mp', kp', by omega, by go_num, rfl, rfl, rfl, HN⟩
            case measure => simp [intOf]; omega
      | false =>
        clear hgo
        have HO := Lib.hid HU.out.old0
        clear HU
        go_wp2_with fail
        go_ret
        exact ⟨rfl, HO.out.below (Nat.le_refl _) (fun _ _ q => q)⟩
end Go.Proofs.YtjajenkagcdhlaaGreat
