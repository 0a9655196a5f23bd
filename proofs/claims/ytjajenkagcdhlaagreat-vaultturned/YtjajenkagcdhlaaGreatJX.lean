/- For lariatlaw6.VaultRaw: a drum whatever lies on it; what Open answers of it. -/
import Derived.Test.YtjajenkagcdhlaaGreatJM
namespace Go.Proofs.YtjajenkagcdhlaaGreat
open Go.RowKit
set_option maxRecDepth 100000

theorem xor_byte (x y : Nat) : ∃ v : Nat, bits .xor .u8 (x : Int) (y : Int) = (v : Int) ∧ v < 256 := by
  have h := bits_within .xor .u8 (x : Int) (y : Int)
  have h1 : IntKind.u8.min = 0 := rfl
  have h2 : IntKind.u8.max = 255 := rfl
  rw [h1, h2] at h
  exact ⟨(bits .xor .u8 (x : Int) (y : Int)).toNat, by omega, by omega⟩
theorem set_trk {xs : List Nat} (h : Trk xs) {j v : Nat} (hv : v < 256) : Trk (xs.set j v) :=
  ⟨fun x hx => by rcases List.mem_or_eq_of_mem_set hx with q | rfl; exact h.byte x q; exact hv, by rw [List.length_set]; exact h.len⟩
theorem copy_trk {xs ys : List Nat} {l : Nat} (h : Trk xs) (hy : ∀ y ∈ ys, y < 256) (hl : ys.length = l) : Trk (ys.take 96 ++ xs.drop l) :=
  ⟨fun x hx => by
    rcases List.mem_append.1 hx with q | q
    · exact hy x (List.mem_of_mem_take q)
    · exact h.byte x (List.mem_of_mem_drop q), by rw [List.length_append, List.length_take, List.length_drop, h.len]; omega⟩
theorem openL_quiet {D : DS} (h : Quiet D) (k : Nat) : Quiet (openL D k).D := by
  show Quiet (LS.counted D k).reads.next.D
  rw [next_D]
  exact h.run _
theorem openL_ok {D : DS} {k : Nat} (h : coverK D = some k) (ok : D.Ok) : (openL D k).Ok := by
  refine (counted_ok h ok).reads.next ?_
  obtain ⟨_, hrd, _⟩ := pick_some h
  have hr : roundC (D.seen.getD k []) < 4294967296 := by
    refine num_lt (fun x hx => ?_) 4
    rcases Nat.lt_or_ge k D.seen.length with q | q
    · obtain ⟨y, hy⟩ := get_of_lt q
      rw [getD_of hy] at hx
      exact (DS.seen_trk ok y (mem_of_get hy)).byte x hx
    · rw [List.getD_eq_getElem?_getD, List.getElem?_eq_none q] at hx
      cases hx
  show roundC (D.seen.getD k []) < _
  omega

theorem openL_lost (D : DS) (k : Nat) : (openL D k).lost = false := by
  unfold openL LS.next LS.reads LS.counted
  simp only
  split <;> rfl
/-- The drum, and at most so many turns. -/
def Rw (w0 : World) (d k n : Nat) (w : World) : Prop := ∃ b D, St ⟨w0, []⟩ d b D w ∧ Quiet D ∧ D.turns ≤ 20000 + k ∧ D.T.length = n
/-- A vault that may stand on anything. -/
def Vr (w0 : World) (vp h : Nat) (rs : Recs) (w : World) : Prop := ∃ lp x d g L a, VM w vp lp x h rs rs a ∧ Blk w lp 129 (lhead d g L) ∧ L.ws.length = h ∧ Old w0 w
section
variable {w0 w w' wx : World} {vp lp d x l h t k n : Nat} {P : Hom → Prop} {N : Hom} {rs rk : Recs} {a : Places}
theorem Rw.old (R : Rw w0 d k n w) (o : Old w w') : Rw w0 d k n w' := by
  obtain ⟨b, D, S, r⟩ := R
  exact ⟨b, D, S.step o, r⟩
theorem Rw.old0 (R : Rw w0 d k n w) : Old w0 w := by
  obtain ⟨b, D, S, r⟩ := R
  exact S.old
theorem Vt.rw (v : Vt w0 vp lp d x l h t true P N rs rk a w) (ht : t ≤ 60) : Rw w0 d 0 (2 + l + h) w := by
  obtain ⟨g, b, L, r, H, fs, gs, A, hd, R, hq, hP, hN, hh, hr, hc, hx⟩ := v.sail.bare
  refine ⟨b, L.D, A.st, ⟨hq rfl, hd⟩, by omega, ?_⟩
  have := R.recE.len
  rw [DS.seen_length] at this
  rw [this, hN, hh]
theorem rw_look (R : Rw w0 d k n w) (i : Nat) (hi : i < n) : Calls Tryz.prog 28 #[.pointer (some ⟨d, 0, none⟩), .int .i64 (i : Int)] w fun y w' => ∃ g xs, y = .returned (.tuple #[.slice (some ⟨g, 0, none⟩) 96 96, .int .i64 0]) ∧ w.heap.size ≤ g ∧ Own w' g xs ∧ Trk xs ∧ Old w w' := by
  obtain ⟨b, D, S, Q, ht, hn⟩ := R
  obtain ⟨y0, hy0⟩ := get_of_lt (l := D.seen) (n := i) (by rw [DS.seen_length]; omega)
  have hT : Trk y0 := DS.seen_trk S.dr.ok y0 (mem_of_get hy0)
  refine (look_st S i (by omega) Q.down).mono ?_
  rintro y w' ⟨g, rfl, hg, B, O⟩
  rw [getD_of hy0] at B
  exact ⟨g, y0, rfl, hg, Own.of_blk hT.byte B, hT, O⟩
theorem rw_lay (R : Rw w0 d k n wx) (O : Old wx w) (hk : k ≤ 100) (i g : Nat) (xs : List Nat) (hi : i < n) (hg : wx.heap.size ≤ g) (hO : Own w g xs) (hT : Trk xs) (c : Nat) :
    Calls Tryz.prog 29 #[.pointer (some ⟨d, 0, none⟩), .int .i64 (i : Int), .slice (some ⟨g, 0, none⟩) 96 c] w fun y w' => y = .returned (.int .i64 0) ∧ Rw w0 d (k + 1) n w' := by
  obtain ⟨b, D, S, Q, ht, hn⟩ := R
  have nf : ¬ foot d b g := fun q => by have := S.dr.at_.lt g q; omega
  have S' := S.step O
  refine (lay_any d i b D w _ xs c S'.dr (by omega) (by omega) hO.has hT.len (fun g' o e => by cases e; exact nf)).mono ?_
  rintro y w' ⟨he, hd⟩
  have N := S'.next hd
  obtain ⟨b', S2⟩ := N.1
  have htu := DS.step_turns D (.lay i xs)
  exact ⟨by rw [he, DS.err_step D (.lay i xs), bad_quiet (Q.step _)]; rfl, b', D.step (.lay i xs), S2, Q.step _, by omega, by rw [DS.step_len]; exact hn⟩
theorem rw_settle (R : Rw w0 d k n w) (hk : k ≤ 100) : Calls Tryz.prog 30 #[.pointer (some ⟨d, 0, none⟩)] w fun y w' => y = .returned (.int .i64 0) ∧ Rw w0 d (k + 1) n w' := by
  obtain ⟨b, D, S, Q, ht, hn⟩ := R
  refine (settle_st S (by omega)).mono ?_
  rintro y w' ⟨he, N⟩
  obtain ⟨b', S2⟩ := N.1
  have htu := DS.step_turns D .settle
  exact ⟨by rw [he, DS.err_step D .settle, bad_quiet (Q.step _)]; rfl, b', D.step .settle, S2, Q.step _, by omega, by rw [DS.step_len]; exact hn⟩
/-- What Open answers of whatever drum. -/
theorem rw_open (R : Rw w0 d k n w) (hk : k ≤ 100) (hn : n ≤ 100) : Calls Tryz.prog 17 #[.pointer (some ⟨d, 0, none⟩)] w fun y w' => (y = .returned (.tuple #[.pointer none, .int .i64 11]) ∧ Old w0 w') ∨ ∃ vp h rs, y = .returned (.tuple #[.pointer (some ⟨vp, 0, none⟩), .int .i64 0]) ∧ Vr w0 vp h rs w' := by
  obtain ⟨b, D, S, Q, ht, hln⟩ := R
  refine (vopen_any _ w (fun e w' => e = 11 ∧ Old w0 w') (fun lp H w1 => Old w0 w1 ∧ ∃ d g L, Blk w1 lp 129 (lhead d g L) ∧ L.ws.length = H.length) ?_).mono ?_
  · refine (open_any S (by omega)).mono ?_
    rintro y w1 ⟨K, hsz, ⟨b', rfl, hE, S'⟩ | ⟨k', l, g, b', hk', hE, _, rfl, A⟩⟩
    · refine .inl ⟨openE D, hE, rfl, ?_, S'.old⟩
      cases hc : coverK D with
      | none => unfold openE; rw [Q.down, hc]; rfl
      | some k' =>
        refine absurd ?_ hE
        unfold openE
        rw [Q.down, hc]
        exact bad_quiet (openL_quiet Q k')
    · have ok := openL_ok hk' S.dr.ok
      have hq := openL_quiet Q k'
      have hlo : (openL D k').lost = false := openL_lost D k'
      have hlen := ok.len
      have hDl : (openL D k').D.T.length = n := by
        rw [show (openL D k').D = (LS.counted D k').reads.next.D from rfl, next_len]
        exact hln
      have hho := ok.home
      refine .inr ⟨l, (List.range (openL D k').ws.length).map (openL D k').homeAt, rfl, ⟨by simp; omega, by simp; omega, ⟨d, g, _, A.head, by simp⟩, fun bs hbs => ?_, fun w2 o i bs hi => ?_⟩, A.st.old, d, g, _, A.head, by simp⟩
      · obtain ⟨i, hi, rfl⟩ := List.mem_map.1 hbs
        have hi' : i < (openL D k').ws.length := List.mem_range.1 hi
        obtain ⟨x, hx⟩ := get_of_lt hi'
        unfold LS.homeAt
        rw [getD_of hx]
        cases x with
        | some bs =>
          obtain ⟨v, _, hv⟩ := A.wri.slot hx
          obtain ⟨_, _, _, _, hT, _⟩ := hv
          exact hT
        | none =>
          show Trk ((openL D k').D.seen.getD (2 + (openL D k').leaves + i) [])
          obtain ⟨y0, hy0⟩ := get_of_lt (l := (openL D k').D.seen) (n := 2 + (openL D k').leaves + i) (by rw [DS.seen_length]; omega)
          rw [getD_of hy0]
          exact DS.seen_trk A.st.dr.ok y0 (mem_of_get hy0)
      · rw [List.getElem?_map] at hi
        obtain ⟨i', hi1, hi2⟩ := Option.map_eq_some_iff.1 hi
        have hlt := lt_of_get hi1
        rw [List.length_range] at hlt
        rw [List.getElem?_range hlt] at hi1
        injection hi1 with hi1
        subst hi1
        rw [← hi2]
        exact look_home (A.step o) ok hlo hq.down i hlt
  · rintro y w' (⟨e, _, rfl, rfl, o⟩ | ⟨lp, H, w1, ⟨o1, d', g, L, hL, hl⟩, ok, o, ⟨rfl, _⟩ | ⟨vp, x, rs, a, hR, rfl, m, n1, n2⟩⟩)
    · exact .inl ⟨rfl, o⟩
    · exact .inl ⟨rfl, o1.trans o⟩
    · exact .inr ⟨vp, H.length, rs, rfl, lp, x, d', g, L, a, m, hL.touch o (fun q => q), hl, o1.trans o⟩
theorem raw_keep (V : Vt w0 vp lp d x l h 3 true P N rs rk a w) : Calls Tryz.prog 13 #[.pointer (some ⟨vp, 0, none⟩)] w fun y w' => (y = .returned (.int .i64 0) ∧ ∃ t P N a rs' x', t ≤ 4 ∧ Vt w0 vp lp d x' l h t true P N rs' rs' a w') ∨ (y = .returned (.int .i64 5) ∧ Old w0 w') := by
  refine (V.keep (by omega)).mono ?_
  rintro y w' (⟨rfl, e, o, V'⟩ | ⟨_, K, ⟨rfl, V'⟩ | ⟨rfl, _, x', V'⟩ | ⟨_, hq, _⟩⟩)
  · subst e
    exact .inl ⟨rfl, 3, _, _, _, _, _, by omega, V'⟩
  · exact .inl ⟨rfl, 4, _, _, _, _, _, by omega, V'⟩
  · exact .inr ⟨rfl, V'.sail.old0⟩
  · cases hq
theorem raw_close (V : Vt w0 vp lp d x l h t true P N rs rk a w) (ht : t ≤ 50) : Calls Tryz.prog 27 #[.pointer (some ⟨vp, 0, none⟩)] w fun y w' => y = .returned (.int .i64 0) ∧ Rw w0 d 0 (2 + l + h) w' := by
  refine (V.close (by omega)).mono ?_
  rintro y w' ⟨_, ⟨rfl, V'⟩ | ⟨_, hq, _⟩⟩
  · exact ⟨rfl, V'.rw (by omega)⟩
  · cases hq
theorem Vr.old {vp h : Nat} {rs : Recs} (v : Vr w0 vp h rs w) (o : Old w w') : Vr w0 vp h rs w' := by
  obtain ⟨lp, x, d, g, L, a, m, hL, hh, o0⟩ := v
  exact ⟨lp, x, d, g, L, a, m.old o, hL.touch o (fun q => q), hh, o0.trans o⟩
theorem Vr.old0 {vp h : Nat} {rs : Recs} (v : Vr w0 vp h rs w) : Old w0 w := by
  obtain ⟨lp, x, d, g, L, a, m, hL, hh, o0⟩ := v
  exact o0
theorem Vr.rok {vp h : Nat} {rs : Recs} (v : Vr w0 vp h rs w) : RsOk rs := by
  obtain ⟨lp, x, d, g, L, a, m, hL, hh, o0⟩ := v
  exact m.rok
theorem Vr.fit {vp h : Nat} {rs : Recs} (v : Vr w0 vp h rs w) : sumT rs + 1 ≤ 120 := by
  obtain ⟨lp, x, d, g, L, a, m, hL, hh, o0⟩ := v
  have h1 := m.fit
  have h2 := m.home
  omega
theorem Vr.few {vp h : Nat} {rs : Recs} (v : Vr w0 vp h rs w) : sumT rs + 1 ≤ h ∧ h ≤ 120 := by
  obtain ⟨lp, x, d, g, L, a, m, hL, hh, o0⟩ := v
  exact ⟨m.fit, m.home⟩
theorem Vr.ids {vp h : Nat} {rs : Recs} (f : Vr w0 vp h rs w) : Calls Tryz.prog 31 #[.pointer (some ⟨vp, 0, none⟩)] w fun y w' => ∃ p c, y = .returned (.slice p (cntR rs) c) ∧ cntR rs ≤ c ∧ Its w' p (idsTo rs 41) ∧ Old w w' := by
  obtain ⟨lp, x, d, g, L, a, m, hL, hh, o0⟩ := f
  refine (vids_any m).mono ?_
  rintro y w' ⟨v, rfl, M, O⟩
  obtain ⟨p, c, rfl, hc, I, _⟩ := mineI_its M
  have hl := idsTo_all m.rok.r41
  rw [hl] at hc ⊢
  exact ⟨p, c, rfl, hc, I, O⟩
theorem Vr.get {vp h : Nat} {rs : Recs} (f : Vr w0 vp h rs w) (k : Nat) (h1 : 1 ≤ k) (h40 : k ≤ 40) (b : List Nat) (hr : rs[k]? = some (some b)) : Calls Tryz.prog 32 #[.pointer (some ⟨vp, 0, none⟩), .int .i64 (k : Int)] w fun y w' => ∃ p c, y = .returned (.tuple #[.slice p b.length c, .bool true]) ∧ Old w w' := by
  obtain ⟨lp, x, d, g, L, a, m, hL, hh, o0⟩ := f
  refine (vget_any m k h1 h40 (some b) hr).mono ?_
  rintro y w' ⟨p, c, rfl, _, _, _, O⟩
  exact ⟨p, c, rfl, O⟩
theorem Vr.free {vp h : Nat} {rs : Recs} (f : Vr w0 vp h rs w) : Calls Tryz.prog 34 #[.pointer (some ⟨vp, 0, none⟩)] w fun y w' => y = .returned (.int .i64 ((h - 1 - sumT rs : Nat) : Int)) ∧ w = w' := by
  obtain ⟨lp, x, d, g, L, a, m, hL, hh, o0⟩ := f
  exact vfree_any m
theorem Vr.tracks {vp h : Nat} {rs : Recs} (f : Vr w0 vp h rs w) : Calls Tryz.prog 20 #[.pointer (some ⟨vp, 0, none⟩)] w fun y w' => y = .returned (.int .i64 (h : Int)) ∧ w = w' := by
  obtain ⟨lp, x, d, g, L, a, m, hL, hh, o0⟩ := f
  exact vtracks_any m.lp0 hL hh
end
end Go.Proofs.YtjajenkagcdhlaaGreat
/- For lariatlaw6.VaultUndoes: what Keep leaves. -/
namespace Go.Proofs.YtjajenkagcdhlaaGreat
open Go.RowKit
set_option maxRecDepth 100000

theorem VMap.keepV {m : Nat} {rs : Recs} {w w' : World} (h : VMap m rs w) (k : KeptV w w') : VMap m rs w' := h.keptV k
section
variable {w0 w w' : World} {vp lp d x l h t : Nat} {q : Bool} {P : Hom → Prop} {N : Hom} {rs rk : Recs} {a : Places}
/-- Kept: what is now is what was kept. -/
def Kpt (w0 : World) (vp lp d x l h t : Nat) (rs : Recs) (w : World) : Prop := ∃ t' P N a, t' ≤ t + 1 ∧ Vt w0 vp lp d x l h t' true P N rs rs a w
theorem un_keep {mp : Nat} (V : Vt w0 vp lp d x l h t true P N rs rk a w) (ht : t ≤ 200) (M : VMap mp rs w) : Calls Tryz.prog 13 #[.pointer (some ⟨vp, 0, none⟩)] w fun y w' => VMap mp rs w' ∧ ((y = .returned (.int .i64 0) ∧ Kpt w0 vp lp d x l h t rs w') ∨ (y = .returned (.int .i64 5) ∧ ∃ x', Vt w0 vp lp d x' l h (t + 1) true P N rk rk a w')) := by
  refine (V.keep ht).mono ?_
  rintro y w' (⟨rfl, e, o, V'⟩ | ⟨_, K, ⟨rfl, V'⟩ | ⟨rfl, _, x', V'⟩ | ⟨_, hq, _⟩⟩)
  · subst e
    exact ⟨M.old o, .inl ⟨rfl, t, _, _, _, by omega, V'⟩⟩
  · exact ⟨M.keptV K, .inl ⟨rfl, t + 1, _, _, _, Nat.le_refl _, V'⟩⟩
  · exact ⟨M.keptV K, .inr ⟨rfl, x', V'⟩⟩
  · cases hq
/-- A Keep of nothing. -/
theorem un_none (V : Vt w0 vp lp d x l h t true P N rs rs a w) (ht : t ≤ 200) : Calls Tryz.prog 13 #[.pointer (some ⟨vp, 0, none⟩)] w fun y w' => y = .returned (.int .i64 0) ∧ Old w w' := by
  refine (V.keep ht).mono ?_
  rintro y w' (⟨rfl, e, o, V'⟩ | ⟨hne, _⟩)
  · exact ⟨rfl, o⟩
  · exact absurd (turned_same V.mem.vld) hne
theorem recs_same {rs : Recs} {k : Nat} {r : Rec} (h : rs[k]? = some r) : rs.set k r = rs := by
  apply List.ext_getElem?
  intro i
  by_cases e : k = i
  · subst e
    rw [List.getElem?_set_self (lt_of_get h), h]
  · rw [List.getElem?_set_ne e]
/-- The same bytes again. -/
theorem un_same {mp T : Nat} {ms : Recs} (V : Vt w0 vp lp d x l h t true P N rs rs a w) (M : VMap mp ms w) (hT : TurnsAt d T w) (k : Nat) (h1 : 1 ≤ k) (h40 : k ≤ 40) (p : Option Addr) (b : List Nat) (n c : Nat) (hB : Has w p b) (hn : b.length = n) (hr : rs[k]? = some (some b)) :
    Calls Tryz.prog 21 #[.pointer (some ⟨vp, 0, none⟩), .int .i64 (k : Int), .slice p n c] w fun y w' => y = .returned (.int .i64 0) ∧ Vt w0 vp lp d x l h t true P N rs rs a w' ∧ VMap mp ms w' ∧ TurnsAt d T w' := by
  have hm := (V.mem.rok.ok k b hr).2
  have hfit := V.mem.fit
  refine (V.put k h1 h40 p b n c hB hn (by omega)).mono ?_
  rintro y w' ⟨T', ⟨rfl, hs, _⟩ | ⟨rfl, _, V'⟩⟩
  · rw [recs_same hr] at hs
    omega
  · rw [recs_same hr] at V'
    exact ⟨rfl, V', M.put_ V T', hT.put_ V T'⟩
end
end Go.Proofs.YtjajenkagcdhlaaGreat
/- The walk of lariatlaw6.VaultUndoes. -/
namespace Go.Proofs.YtjajenkagcdhlaaGreat
open Go.RowKit
set_option maxRecDepth 100000

/-- The vault of the first loop: all of it is wanted. -/
def UnA (w0 : World) (vp lp d x mp : Nat) (w : World) : Prop := ∃ rs, Vt w0 vp lp d x 60 58 3 true (fun X => X = home0 58) (home0 58) rs rs0 ps0 w ∧ VMap mp rs w
/-- The vault of the second. -/
def UnB (w0 : World) (vp lp d x mp t : Nat) (P : Hom → Prop) (N : Hom) (a : Places) (rk : Recs) (w : World) : Prop := ∃ rs, Vt w0 vp lp d x 60 58 t true P N rs rk a w ∧ VMap mp rk w
theorem act_bytes {w : World} {r : ActR} (hr : ActIn w r) : ∃ (b : List Nat) (l : Nat), b.length = l ∧ l ≤ 500 ∧ (∀ x ∈ b, x < 256) ∧ ∀ wz, Old w wz → Calls Tryz.prog 18 #[.agg #[.int .i64 r.what, .int .i64 r.id, .int .i64 r.n, .int .i64 r.torn, .int .i64 r.cut, .slice r.ba r.bl r.bc, .slice r.ka r.kl r.kc]] wz fun y w' =>
    ∃ a c, y = .returned (.slice a l c) ∧ l ≤ c ∧ Has w' a b ∧ Old wz w' := by
  refine ⟨bytesM r.id r.n r.bs, _, rfl, bytesM_length _ _ _, bytesM_byte hr.has.byte, fun wz O => ?_⟩
  exact bytes_any r.what r.id r.n r.torn r.cut r.ba r.bs r.bl r.bc r.ka r.kl r.kc wz hr.fn (hr.has.old O) hr.blen hr.bcap hr.bsm
set_option maxHeartbeats 12800000 in
theorem undoes_law (pa pm : Option Addr) (la ca lm cm : Nat) (w : World) (hA : HasA w pa la) (hM : HasA w pm lm) (hla : la ≤ 140737488355328) (hlm : lm ≤ 140737488355328) : Calls Tryz.prog 7 #[.slice pa la ca, .slice pm lm cm] w fun e w' => e = .returned (.bool true) ∧ Below w.heap.size w w' := by
  have HA := Lib.hid hA
  have HM := Lib.hid hM
  have hla' := Lib.hid hla
  have hlm' := Lib.hid hlm
  clear hA hM hla hlm
  go_enter Tryz.func7, Tryz.ntmps7
  go_wp2_with fail
  refine (known_any w).mono ?_
  rintro y w1 ⟨rfl, O1⟩
  have HFo : Hid (Calls Tryz.prog 10 #[.int .i64 120, .int .i64 60] w1 fun y w' => ∃ vp lp d x, y = .returned (.tuple #[.pointer (some ⟨vp, 0, none⟩), .pointer (some ⟨d, 0, none⟩)]) ∧ Vt w vp lp d x 60 58 3 true (fun X => X = home0 58) (home0 58) rs0 rs0 ps0 w' ∧ KeptV w1 w') := lfound_any O1 (n := 120) (l := 60) (h := 58) rfl (by omega) (by omega) (by omega) (by omega)
  clear O1
  go_wp2_with fail
  refine HFo.out.mono ?_
  rintro y w2 ⟨vp, lp, d, x, rfl, V2, _⟩
  have HV2 := Lib.hid V2
  clear V2 HFo
  go_wp2_with fail
  refine (known_any w2).mono ?_
  rintro y w3 ⟨rfl, O3⟩
  have HV3 := Lib.hid (HV2.out.old O3)
  clear O3 HV2
  have hmm := @run_makeMap Tryz.prog
  have HU3 : Hid (UnA w vp lp d x w3.heap.size (w3.alloc (.map #[] 0))) := ⟨rs0, HV3.out.old ((Touch.refl _ _).alloc _), VMap.made w3⟩
  have HMp : Hid (w.heap.size ≤ w3.heap.size) := HV3.out.sail.old0.size
  clear HV3
  go_wp2_with fail
  clear hmm
  generalize w3.alloc (.map #[] 0) = w4 at *
  generalize w3.heap.size = mp at *
  go_loopw [8, 9] (fun iv _ wx => ∃ i : Nat, i ≤ 12 ∧ iv = .int .i64 (i : Int) ∧ Hid (UnA w vp lp d x mp wx)) (fun iv _ _ => 12 - (intOf iv).toNat)
  case atStart => exact ⟨0, by omega, rfl, HU3⟩
  case round =>
    obtain ⟨i, hi12, rfl, HU⟩ := hrel
    clear HU3
    obtain ⟨go, hgo⟩ : ∃ go, decide (i < la ∧ i < 12) = go := ⟨_, rfl⟩
    go_upto_region 8 with fail
    go_cut [41] (fun v wx => v = .bool go ∧ wx = wr)
    case first =>
      by_cases h1 : i < la
      · have i1 : (i : Int) < (la : Int) := by omega
        by_cases h2 : i < 12
        · have i2 : (i : Int) < 12 := by omega
          have e : go = true := by rw [← hgo]; exact decide_eq_true ⟨h1, h2⟩
          subst e
          clear hgo
          go_wp2_with fail
          go_meet
          exact ⟨rfl, rfl⟩
        · have i2 : ¬ (i : Int) < 12 := by omega
          have e : go = false := by rw [← hgo]; exact decide_eq_false (fun q => h2 q.2)
          subst e
          clear hgo
          go_wp2_with fail
          go_meet
          exact ⟨rfl, rfl⟩
      · have i1 : ¬ (i : Int) < (la : Int) := by omega
        have e : go = false := by rw [← hgo]; exact decide_eq_false (fun q => h1 q.1)
        subst e
        clear hgo
        go_wp2_with fail
        go_meet
        exact ⟨rfl, rfl⟩
    case rest =>
      obtain ⟨rfl, rfl⟩ := hcut
      cases go with
      | true =>
        obtain ⟨h1, h2⟩ := of_decide_eq_true hgo
        clear hgo
        obtain ⟨rs, V, M⟩ := HU.out
        obtain ⟨ba, oa, r, rfl, hc0, hin⟩ := HA.out i h1
        have HOw := Lib.hid V.sail.old0
        have hc := hc0.old V.sail.old0
        have HC := Lib.hid hc0
        have c0 := hc.c0
        have c1 := hc.c1
        have c2 := hc.c2
        have c3 := hc.c3
        have c4 := hc.c4
        have c5 := hc.c5
        have c6 := hc.c6
        obtain ⟨B, l, hBl, hl500, hB256, hBy⟩ := act_bytes hin
        have HBy := Lib.hid hBy
        have HPk := Lib.hid (pick_at r.id 9 (by decide) (by decide))
        have hp9 := pickN_lt (n := r.id) (m := 9) (by decide)
        generalize pickN r.id 9 = p at *
        obtain ⟨id, hid⟩ : ∃ id, 1 + p = id := ⟨_, rfl⟩
        have hwid : IntKind.i64.wrap (1 + (p : Int)) = (id : Int) := wrap_fits' (by omega) ⟨by omega, by omega⟩
        have i0 : (0 : Int) ≤ (i : Int) := by omega
        have i1 : (i : Int) < (la : Int) := by omega
        have hwi : IntKind.i64.wrap ((i : Int) + 1) = (i : Int) + 1 := wrap_fits ⟨by omega, by omega⟩
        have HV := Lib.hid V
        have HMm := Lib.hid M
        have HBl := Lib.hid hBl
        have HB2 := Lib.hid hB256
        have hid1 : 1 ≤ id ∧ id ≤ 9 := by omega
        clear V M hin hBy hBl hB256 hid hc hc0 HU
        go_wp2_with (first | ((with_reducible refine (HPk.out _).mono ?_); rintro y w' ⟨rfl, rfl⟩))
        refine (HBy.out wc HOw.out).mono ?_
        rintro y w5 ⟨a5, b5, rfl, hb5, Hh5, O5⟩
        have HP := Lib.hid ((HV.out.old O5).put id (by omega) (by omega) a5 B l b5 Hh5 HBl.out (by omega))
        have HM5 := Lib.hid (HMm.out.old O5)
        have HO5 := Lib.hid O5
        have HV5 := Lib.hid (HV.out.old O5)
        clear Hh5 O5 hb5
        go_wp2_with fail
        refine HP.out.mono ?_
        rintro y w6 ⟨T6, ⟨rfl, _, V6⟩ | ⟨rfl, _, V6⟩⟩
        · have HN : Hid (UnA w vp lp d x mp w6) := ⟨rs, V6, HM5.out.put_ HV5.out T6⟩
          clear T6 V6 HP
          go_wp2_with fail
          exact ⟨⟨i + 1, by omega, by go_num, HN⟩, by simp [intOf]; omega⟩
        · have O6 : Old w w6 := old_put HV5.out HV5.out.sail.old0 T6
          have M6 := HM5.out.put_ HV5.out T6
          have hc6 := HC.out.old O6
          have c0' := hc6.c0
          have c1' := hc6.c1
          have c2' := hc6.c2
          have c3' := hc6.c3
          have c4' := hc6.c4
          have c5' := hc6.c5
          have c6' := hc6.c6
          have HV6 := Lib.hid V6
          have HM6 := Lib.hid M6
          have HO6 := Lib.hid O6
          clear T6 V6 M6 O6 HP hc6 HV5 HM5 HO5 HV HMm HOw c0 c1 c2 c3 c4 c5 c6
          go_wp2_with fail
          refine (HBy.out w6 HO6.out).mono ?_
          rintro y w7 ⟨a7, b7, rfl, hb7, Hh7, O7⟩
          have hst := str_any w7 a7 B l b7 Hh7 HBl.out
          obtain ⟨w8, hput, M8, T8⟩ := (HM6.out.old O7).put (k := id) (by omega) (b := B) (by rw [HBl.out]; omega)
          have HN : Hid (UnA w vp lp d x mp w8) := ⟨_, (HV6.out.old O7).map ((HM6.out.old O7).turn T8) HMp.out, M8⟩
          clear Hh7 O7 hb7 M8 T8 HV6 HM6 HO6 c0' c1' c2' c3' c4' c5' c6'
          go_wp2_with fail
          exact ⟨⟨i + 1, by omega, by go_num, HN⟩, by simp [intOf]; omega⟩
      | false =>
        clear hgo
        obtain ⟨rs, V, M⟩ := HU.out
        have HKe := Lib.hid (un_keep V (by omega) M)
        have HRk := Lib.hid V.mem.vld.rsOk
        have HRs := Lib.hid V.mem.rok
        clear V M HU
        go_wp2_with fail
        refine HKe.out.mono ?_
        rintro y w5 ⟨M5, ⟨rfl, K5⟩ | ⟨rfl, x', V5⟩⟩
        · obtain ⟨t, P, N, a, ht, V5⟩ := K5
          have H0 : Hid (UnB w vp lp d x mp t P N a rs w5) := ⟨rs, V5, M5⟩
          clear V5 M5 HKe
          go_wp2_with fail
          go_loopw [11, 12] (fun iv _ wx => ∃ i : Nat, i ≤ 12 ∧ iv = .int .i64 (i : Int) ∧ Hid (UnB w vp lp d x mp t P N a rs wx)) (fun iv _ _ => 12 - (intOf iv).toNat)
          case atStart => exact ⟨0, by omega, rfl, H0⟩
          case round =>
            obtain ⟨j, hj12, rfl, HU⟩ := hrel
            clear H0
            obtain ⟨go, hgo⟩ : ∃ go, decide (j < lm ∧ j < 12) = go := ⟨_, rfl⟩
            go_upto_region 17 with fail
            go_cut [86] (fun v wx => v = .bool go ∧ wx = wr)
            case first =>
              by_cases h1 : j < lm
              · have i1 : (j : Int) < (lm : Int) := by omega
                by_cases h2 : j < 12
                · have i2 : (j : Int) < 12 := by omega
                  have e : go = true := by rw [← hgo]; exact decide_eq_true ⟨h1, h2⟩
                  subst e
                  clear hgo
                  go_wp2_with fail
                  go_meet
                  exact ⟨rfl, rfl⟩
                · have i2 : ¬ (j : Int) < 12 := by omega
                  have e : go = false := by rw [← hgo]; exact decide_eq_false (fun q => h2 q.2)
                  subst e
                  clear hgo
                  go_wp2_with fail
                  go_meet
                  exact ⟨rfl, rfl⟩
              · have i1 : ¬ (j : Int) < (lm : Int) := by omega
                have e : go = false := by rw [← hgo]; exact decide_eq_false (fun q => h1 q.1)
                subst e
                clear hgo
                go_wp2_with fail
                go_meet
                exact ⟨rfl, rfl⟩
            case rest =>
              obtain ⟨rfl, rfl⟩ := hcut
              cases go with
              | true =>
                obtain ⟨h1, h2⟩ := of_decide_eq_true hgo
                clear hgo
                obtain ⟨rs', V, M⟩ := HU.out
                obtain ⟨ba, oa, r, rfl, hc0, hin⟩ := HM.out j h1
                have HOw := Lib.hid V.sail.old0
                have hc := hc0.old V.sail.old0
                have HC := Lib.hid hc0
                have c0 := hc.c0
                have c1 := hc.c1
                have c2 := hc.c2
                have c3 := hc.c3
                have c4 := hc.c4
                have c5 := hc.c5
                have c6 := hc.c6
                obtain ⟨B, l, hBl, hl500, hB256, hBy⟩ := act_bytes hin
                have HBy := Lib.hid hBy
                have HPk := Lib.hid (pick_at r.id 9 (by decide) (by decide))
                have hp9 := pickN_lt (n := r.id) (m := 9) (by decide)
                generalize pickN r.id 9 = pk at *
                obtain ⟨id, hid⟩ : ∃ id, 1 + pk = id := ⟨_, rfl⟩
                have hwid : IntKind.i64.wrap (1 + (pk : Int)) = (id : Int) := wrap_fits' (by omega) ⟨by omega, by omega⟩
                have i0 : (0 : Int) ≤ (j : Int) := by omega
                have i1 : (j : Int) < (lm : Int) := by omega
                have hwi : IntKind.i64.wrap ((j : Int) + 1) = (j : Int) + 1 := wrap_fits ⟨by omega, by omega⟩
                have HV := Lib.hid V
                have HMm := Lib.hid M
                have HBl := Lib.hid hBl
                have hid1 : 1 ≤ id ∧ id ≤ 9 := by omega
                clear V M hin hBy hBl hB256 hid hc hc0 HU
                by_cases h3 : r.what.tmod 3 = 0
                · obtain ⟨r0, hr0⟩ := get_of_lt (l := rs') (n := id) (by rw [HV.out.mem.rok.r41]; omega)
                  have HDr := Lib.hid (HV.out.drop id (by omega) (by omega) r0 hr0)
                  clear hr0
                  go_wp2_with (first | ((with_reducible refine (HPk.out _).mono ?_); rintro y w' ⟨rfl, rfl⟩))
                  refine HDr.out.mono ?_
                  rintro y w6 ⟨rfl, V6, T6⟩
                  have HN : Hid (UnB w vp lp d x mp t P N a rs w6) := ⟨_, V6, HMm.out.put_ HV.out T6⟩
                  clear V6 T6 HDr
                  go_wp2_with fail
                  exact ⟨⟨j + 1, by omega, by go_num, HN⟩, by simp [intOf]; omega⟩
                · go_wp2_with (first | ((with_reducible refine (HPk.out _).mono ?_); rintro y w' ⟨rfl, rfl⟩))
                  refine (HBy.out wc HOw.out).mono ?_
                  rintro y w5 ⟨a5, b5, rfl, hb5, Hh5, O5⟩
                  have HP := Lib.hid ((HV.out.old O5).put id (by omega) (by omega) a5 B l b5 Hh5 HBl.out (by omega))
                  have HM5 := Lib.hid (HMm.out.old O5)
                  have HV5 := Lib.hid (HV.out.old O5)
                  clear Hh5 O5 hb5
                  go_wp2_with fail
                  refine HP.out.mono ?_
                  rintro y w6 ⟨T6, ⟨rfl, _, V6⟩ | ⟨rfl, _, V6⟩⟩
                  · have HN : Hid (UnB w vp lp d x mp t P N a rs w6) := ⟨_, V6, HM5.out.put_ HV5.out T6⟩
                    clear T6 V6 HP
                    go_wp2_with fail
                    exact ⟨⟨j + 1, by omega, by go_num, HN⟩, by simp [intOf]; omega⟩
                  · have HN : Hid (UnB w vp lp d x mp t P N a rs w6) := ⟨_, V6, HM5.out.put_ HV5.out T6⟩
                    clear T6 V6 HP
                    go_wp2_with fail
                    exact ⟨⟨j + 1, by omega, by go_num, HN⟩, by simp [intOf]; omega⟩
              | false =>
                clear hgo
                obtain ⟨rs', V, M⟩ := HU.out
                have HUn := Lib.hid V.undo
                have HV := Lib.hid V
                have HMm := Lib.hid M
                clear V M HU
                go_wp2_with fail
                refine HUn.out.mono ?_
                rintro y w6 ⟨rfl, x6, V6, T6⟩
                have M6 := HMm.out.put_ HV.out (T6.mono fun _ _ q => .inl q)
                have HI := Lib.hid (is_any V6 M6 V6.mem.rok)
                have HV6 := Lib.hid V6
                have HM6 := Lib.hid M6
                clear V6 M6 T6 HUn HV HMm
                go_wp2_with fail
                refine HI.out.mono ?_
                rintro y w7 ⟨c, rfl, hc, O7⟩
                obtain rfl : c = true := by simpa using hc
                obtain ⟨T, hT⟩ := (HV6.out.old O7).turnsAt
                have HT := Lib.hid hT
                have HTu := Lib.hid hT.turns
                have H7 : Hid (Vt w vp lp d x6 60 58 t true P N rs rs a w7 ∧ VMap mp rs w7 ∧ TurnsAt d T w7) := ⟨HV6.out.old O7, HM6.out.old O7, hT⟩
                clear O7 hc HI HV6 HM6 hT HT
                go_wp2_with fail
                refine HTu.out.mono ?_
                rintro y w' ⟨rfl, rfl⟩
                clear HTu
                go_wp2_with fail
                go_loopw [14, 15, 16] (fun kv _ _ wx => ∃ k : Nat, 1 ≤ k ∧ k ≤ 10 ∧ kv = .int .i64 (k : Int) ∧ Hid (Vt w vp lp d x6 60 58 t true P N rs rs a wx ∧ VMap mp rs wx ∧ TurnsAt d T wx)) (fun kv _ _ _ => 10 - (intOf kv).toNat)
                case atStart => exact ⟨1, by omega, by omega, rfl, H7⟩
                case round =>
                  obtain ⟨k, hk1, hk10, rfl, HQ⟩ := hrel
                  clear H7
                  by_cases hlt : k < 10
                  · have i1 : (k : Int) ≤ 9 := by omega
                    have hlo := HQ.out.2.1.look (k := k) (by omega)
                    have hwk : IntKind.i64.wrap ((k : Int) + 1) = (k : Int) + 1 := wrap_fits ⟨by omega, by omega⟩
                    cases hr : rs.getD k none with
                    | none =>
                      rw [hr] at hlo
                      simp only [Option.isSome_none] at hlo
                      clear hr
                      go_wp2_with fail
                      exact ⟨⟨k + 1, by omega, by omega, by go_num, HQ⟩, by simp [intOf]; omega⟩
                    | some b =>
                      rw [hr] at hlo
                      simp only [Option.isSome_some] at hlo
                      have hrk := getD_some hr
                      have eb : bytesOf (some b) = b := rfl
                      rw [eb] at hlo
                      obtain ⟨c8, w8, hcv, hc8, Hh8, O8⟩ := bytes_of wr b (HRs.out.ok k b hrk).1
                      have HP8 := Lib.hid (un_same (HQ.out.1.old O8) (HQ.out.2.1.old O8) (HQ.out.2.2.old O8) k hk1 (by omega) _ b b.length c8 Hh8 rfl hrk)
                      clear hr hrk eb Hh8 O8 hc8 HQ
                      go_wp2_with fail
                      refine HP8.out.mono ?_
                      rintro y w9 ⟨rfl, hQ9⟩
                      have HQ9 := Lib.hid hQ9
                      clear hQ9 HP8
                      go_wp2_with fail
                      exact ⟨⟨k + 1, by omega, by omega, by go_num, HQ9⟩, by simp [intOf]; omega⟩
                  · obtain rfl : k = 10 := by omega
                    rw [show ((10 : Nat) : Int) = 10 from rfl]
                    have HKe := Lib.hid (un_none HQ.out.1 (by omega))
                    go_wp2_with fail
                    refine HKe.out.mono ?_
                    rintro y w8 ⟨rfl, O8⟩
                    have HQ8 : Hid (Vt w vp lp d x6 60 58 t true P N rs rs a w8 ∧ VMap mp rs w8 ∧ TurnsAt d T w8) := ⟨HQ.out.1.old O8, HQ.out.2.1.old O8, HQ.out.2.2.old O8⟩
                    have HTu := Lib.hid HQ8.out.2.2.turns
                    have HI := Lib.hid (is_any HQ8.out.1 HQ8.out.2.1 HQ8.out.1.mem.rok)
                    have HO := Lib.hid HQ8.out.1.sail.old0
                    clear O8 HQ HKe HQ8
                    go_wp2_with fail
                    refine HTu.out.mono ?_
                    rintro y w' ⟨rfl, rfl⟩
                    go_wp2_with fail
                    refine HI.out.mono ?_
                    rintro y w9 ⟨c, rfl, hc, O9⟩
                    obtain rfl : c = true := by simpa using hc
                    have HO9 := Lib.hid (HO.out.trans O9)
                    clear O9 hc HO HI
                    go_wp2_with fail
                    go_ret
                    exact ⟨rfl, HO9.out.below (Nat.le_refl _) (fun _ _ q => q)⟩
        · have hmm := @run_makeMap Tryz.prog
          have O6 : Old w5 (w5.alloc (.map #[] 0)) := (Touch.refl _ _).alloc _
          have HI := Lib.hid (is_any (V5.old O6) (VMap.made w5) HRk.out)
          have HO := Lib.hid ((V5.old O6).sail.old0)
          clear V5 M5 O6 HKe
          go_wp2_with fail
          refine HI.out.mono ?_
          rintro y w6 ⟨c, rfl, hc, O6⟩
          obtain rfl : c = true := by simpa using hc
          have HO6 := Lib.hid (HO.out.trans O6)
          clear O6 hc hmm HO HI
          go_wp2_with fail
          go_ret
          exact ⟨rfl, HO6.out.below (Nat.le_refl _) (fun _ _ q => q)⟩
end Go.Proofs.YtjajenkagcdhlaaGreat
