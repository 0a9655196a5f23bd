/- For lariatlaw6.VaultKnown: what is answered of no drum, of a blank one; a drum that breaks at once. -/
import Derived.Test.YtjajenkagcdhlaaJW
namespace Go.Proofs.Ytjajenkagcdhlaa
open Go.RowKit
set_option maxRecDepth 100000

theorem vfound_nil (l : Nat) (w : World) : Calls Try.prog 8 #[.pointer none, .int .i64 (l : Int)] w fun y w' => y = .returned (.int .i64 1) ∧ w = w' := by
  have HF := Lib.hid (found_nil l w)
  go_enter Try.func8, Try.ntmps8
  go_wp2_with (first | ((with_reducible refine HF.out.mono ?_); rintro y w' ⟨rfl, rfl⟩))
  go_ret
  exact ⟨rfl, rfl⟩
theorem vopen_nil (w : World) : Calls Try.prog 7 #[.pointer none] w fun y w' => y = .returned (.tuple #[.pointer none, .int .i64 1]) ∧ w = w' := by
  refine (vopen_any _ w (fun e w' => e = 1 ∧ w = w') (fun _ _ _ => False) ?_).mono ?_
  · refine (open_nil w).mono ?_
    rintro y w' ⟨rfl, rfl⟩
    exact .inl ⟨1, by decide, rfl, rfl, rfl⟩
  · rintro y w' (⟨e, _, rfl, rfl, rfl⟩ | ⟨_, _, _, q, _⟩)
    · exact ⟨rfl, rfl⟩
    · exact q.elim
theorem vopen_blank {w0 w : World} {d : Nat} {b : Bl} {n : Nat} (S : St ⟨w0, []⟩ d b (DS.new n) w) (hb : openE (DS.new n) = 11) : Calls Try.prog 7 #[.pointer (some ⟨d, 0, none⟩)] w fun y w' => y = .returned (.tuple #[.pointer none, .int .i64 11]) ∧ Old w0 w' := by
  refine (vopen_any _ w (fun e w' => e = 11 ∧ Old w0 w') (fun _ _ _ => False) ?_).mono ?_
  · refine (open_any S (by show 0 ≤ 90000; omega)).mono ?_
    rintro y w' ⟨K, _, ⟨b', rfl, hne, S'⟩ | ⟨_, _, _, _, _, h0, _⟩⟩
    · exact .inl ⟨openE (DS.new n), hne, rfl, hb, S'.old⟩
    · rw [hb] at h0; cases h0
  · rintro y w' (⟨e, _, rfl, rfl, o⟩ | ⟨_, _, _, q, _⟩)
    · exact ⟨rfl, o⟩
    · exact q.elim
/-- A blank drum has no cover. -/
theorem blank40 : openE (DS.new 40) = 11 := by decide +kernel
theorem run_zero {D : DS} (h0 : D.left = some 0) (hd : D.down = false) : ∀ {ts : List Trn}, ts ≠ [] → (D.run ts).down = true
  | [], h => absurd rfl h
  | t :: ts, _ => by
    rw [DS.run_cons]
    have hs : (D.step t).down = true := by
      rw [DS.step_goes]
      simp [DS.goes, h0, hd]
    rw [DS.run_down hs, hs]
theorem post_zero {L : LS} {e : List Ent} (h0 : L.D.left = some 0) (hd : L.D.down = false) (he : 0 < e.length) : (L.post e).D.down = true := by
  have hs : (L.D.step .settle).down = true := run_zero h0 hd (ts := [.settle]) (by simp)
  have hb : L.balanced.D.down = true := by
    unfold LS.balanced
    rw [if_pos hs]
    exact hs
  unfold LS.post
  split
  · first | exact hb | (rw [if_pos hb]; exact hb)
  · rw [layP_D]
    refine run_zero h0 hd (fun q => ?_)
    have hl := leavesOf_two he
    have hp : (posting L.round (L.posts + 1) e).length = leavesOf e.length := by simp [posting]
    cases hq : posting L.round (L.posts + 1) e with
    | nil => rw [hq] at hp; simp at hp; omega
    | cons b r => rw [hq] at q; simp [leafT] at q
theorem write_zero {L : LS} {e : List Ent} (h0 : L.D.left = some 0) (hd : L.D.down = false) (hl : L.lost = false) (hg : Goes e L.ws.length) (hv : leavesOf e.length ≤ L.leaves) : L.writeE e = 4 ∧ (L.write e).lost = true := by
  have hp := post_zero h0 hd hg.2.2
  constructor
  · unfold LS.writeE
    rw [if_pos hg, hl, if_neg (by decide), if_neg (by omega)]
    exact bad_down hp
  · unfold LS.write
    rw [if_pos hg, hl, if_neg (by decide), if_neg (by omega)]
    exact heed_lost (by rw [heed_D]; exact hp)
end Go.Proofs.Ytjajenkagcdhlaa
/- For lariatlaw6.VaultKnown: a vault whose drum breaks at once. -/
namespace Go.Proofs.Ytjajenkagcdhlaa
open Go.RowKit
set_option maxRecDepth 100000

/-- A vault whose drum breaks at once. -/
structure Vb (w0 : World) (vp lp d x l h : Nat) (N : Hom) (rs rk : Recs) (a : Places) (w : World) : Prop where
  led : ∃ g b L, LAt ⟨w0, [(x, bud (h - 1 - sumT rs) (h - 1))]⟩ lp d b g L w ∧ L.D.left = some 0 ∧ L.D.down = false ∧ L.lost = false ∧ L.Ok ∧ L.round ≤ 1000 ∧ L.posts ≤ 1000 ∧ L.D.turns ≤ 60000 ∧ L.leaves = l ∧ L.ws.length = h
  mem : VM w vp lp x h rs rk a
  holds : Holds N (layM rk a)
  len : N.length = h
  nv : w0.heap.size ≤ vp
  nx : w0.heap.size ≤ x
  hh : h ≤ 60
/-- It broke. -/
structure Vq (w0 : World) (vp lp d x h : Nat) (w : World) : Prop where
  led : ∃ g b bs L, LAt ⟨w0, [(x, bs)]⟩ lp d b g L w ∧ L.lost = true ∧ L.D.turns ≤ 90000
  lp0 : w.cell? ⟨vp, 0, none⟩ = some (.pointer (some ⟨lp, 0, none⟩))
section
variable {w0 w w' : World} {vp lp d x l h t : Nat} {q : Bool} {P : Hom → Prop} {N : Hom} {rs rk : Recs} {a : Places}
theorem Vb.old (v : Vb w0 vp lp d x l h N rs rk a w) (o : Old w w') : Vb w0 vp lp d x l h N rs rk a w' := by
  obtain ⟨⟨g, b, L, A, r⟩, h2, h3, h4, h5, h6, h7⟩ := v
  exact ⟨⟨g, b, L, A.step o, r⟩, h2.old o, h3, h4, h5, h6, h7⟩
theorem Vq.old (v : Vq w0 vp lp d x h w) (o : Old w w') : Vq w0 vp lp d x h w' := by
  obtain ⟨⟨g, b, bs, L, A, r⟩, h2⟩ := v
  refine ⟨⟨g, b, bs, L, A.step o, r⟩, ?_⟩
  exact (o.cell (lt_of_cell? h2) (fun q => q)).trans h2
theorem Vq.old0 (v : Vq w0 vp lp d x h w) : Old w0 w := by
  obtain ⟨⟨g, b, bs, L, A, r⟩, h2⟩ := v
  exact A.st.old
theorem vt_brk (v : Vt w0 vp lp d x l h t q P N rs rk a w) (ht : t ≤ 50) : Calls Try.prog 16 #[.pointer (some ⟨d, 0, none⟩), .int .i64 0] w fun y w' => y = .returned (.tuple #[]) ∧ Vb w0 vp lp d x l h N rs rk a w' := by
  have hlen := v.sail.len
  obtain ⟨g, b, L, r, H, fs, gs, A, hd, R, hq, hP, hN, hh, hr, hc, hx⟩ := v.sail
  have hok := calm_ok (R.live.ok (by rw [List.length_append]; omega))
  have hws : L.ws.length = h := by have h1 : L.ws.length = (tookHs H gs).length := R.live.hlen; rw [h1, hN, hh]
  have a1 : L.round = r := R.live.round
  have a2 : L.posts = (fs ++ gs).length := R.live.count
  have a3 : L.leaves = l := R.live.leaves
  rw [List.length_append] at a2
  refine (break_st A.st 0 (by omega)).mono ?_
  rintro y w' ⟨rfl, M⟩
  obtain ⟨b', A'⟩ := A.next M
  refine ⟨rfl, ⟨g, b', _, A', rfl, hd, R.live.lost, ⟨hok.leaves, hok.home, hok.len, hok.laid, hok.round, hok.posts⟩, ?_, ?_, ?_, a3, hws⟩, v.mem.keptL (.of_kept M.2.1) (A'.st.aside (x, bud (h - 1 - sumT rs) (h - 1)) (List.mem_singleton.2 rfl)).1, v.holds, hlen, v.nv, v.nx, v.hh⟩
  · show L.round ≤ 1000; omega
  · show L.posts ≤ 1000; omega
  · show L.D.turns ≤ 60000; omega
theorem Vb.put (v : Vb w0 vp lp d x l h N rs rk a w) (k : Nat) (h1 : 1 ≤ k) (h40 : k ≤ 40) (p : Option Addr) (b : List Nat) (n c : Nat) (hB : Has w p b) (hn : b.length = n) (hm : n ≤ 60000) (hs : sumT (rs.set k (some b)) + 1 ≤ h) :
    Calls Try.prog 11 #[.pointer (some ⟨vp, 0, none⟩), .int .i64 (k : Int), .slice p n c] w fun y w' => y = .returned (.int .i64 0) ∧ Vb w0 vp lp d x l h N (rs.set k (some b)) rk a w' := by
  obtain ⟨vs, hb⟩ := v.mem.blk
  obtain ⟨⟨g, bl, L, A, e1, e2, e3, e4⟩, h2, h3, h4, h5, h6, h7⟩ := v
  refine (vput_any0 h2 A.head e3 k h1 h40 p b n c hB hn hm).mono ?_
  rintro y w' ⟨T, ⟨rfl, hs', m⟩ | ⟨rfl, _, m⟩⟩
  · omega
  · exact ⟨rfl, ⟨g, bl, L, A.vt T hb h5 h6 (.inl rfl) m.bq, e1, e2, e3, e4⟩, m, h3, h4, h5, h6, h7⟩
theorem Vb.keep (v : Vb w0 vp lp d x l h N rs rk a w) (hne : rs ≠ rk) (hl : 2 * (sumT rs + 1) ≤ l) : Calls Try.prog 17 #[.pointer (some ⟨vp, 0, none⟩)] w fun y w' => y = .returned (.int .i64 4) ∧ Vq w0 vp lp d x h w' := by
  obtain ⟨⟨g, bl, L, A, e1, e2, e3, e4, e5, e6, e7, e8, e9⟩, h2, h3, h4, h5, h6, h7⟩ := v
  have vld' : Vld rs (placeM rs a h) h := place_vld h2.rok h2.vld.plOk h2.fit
  have hlen : (turnedM rs rk a h).length ≤ 60 := by
    have h1 := vld'.others_length (layW rk a h)
    have h2 := h2.fit
    show (othersM _ _).length ≤ 60
    omega
  have hlv := few_turned h2.rok h2.vld h2.fit
  refine (vkeep_any h2 A.head e9 (fun E w2 => E = 4 ∧ ∃ g b L', LAt ⟨w0, [(x, bud (h - 1 - sumT rs) (h - 1))]⟩ lp d b g L' w2 ∧ L'.lost = true ∧ L'.D.turns ≤ 90000) (fun w1 o p c En hc => ?_)).mono ?_
  · have A1 := A.step o
    have hn0 : turnedM rs rk a h ≠ [] := fun h0 => by
      have h0' : othersM (layW rk a N.length) (layW rs (placeM rs a h) N.length) = [] := by rw [h4]; exact h0
      exact hne (same_laid (N := N) (by rw [h4]; omega) (by rw [h4]; exact h2.vld) (by rw [h4]; exact vld') h3 h0').1
    have hg : Goes (turnedM rs rk a h) L.ws.length := by rw [e9]; exact others_goes vld' hn0
    have hz := write_zero e1 e2 e3 hg (by rw [e8]; omega)
    have htu := write_turns L (turnedM rs rk a h)
    have hle := leavesOf_le (turnedM rs rk a h).length
    refine (write_any A1 e4 (by omega) (by omega) (by omega) p _ _ c En rfl (by omega)).mono ?_
    rintro y w2 ⟨rfl, M⟩
    rw [hz.1]
    obtain ⟨b', A'⟩ := M.1
    exact ⟨4, rfl, M.2.1, ⟨d, g, _, A'.head, by rw [write_ws, e9]⟩, (A'.st.aside (x, bud (h - 1 - sumT rs) (h - 1)) (List.mem_singleton.2 rfl)).1, by omega, rfl, g, b', _, A', hz.2, by omega⟩
  · rintro y w' (⟨h0, rfl, o, m⟩ | ⟨hn0, E, w1, w2, rfl, o, K, ⟨rfl, g', b', L', A', hl1, hl2⟩, T, hm⟩)
    · have h0' : othersM (layW rk a N.length) (layW rs (placeM rs a h) N.length) = [] := by rw [h4]; exact h0
      exact absurd (same_laid (N := N) (by rw [h4]; omega) (by rw [h4]; exact h2.vld) (by rw [h4]; exact vld') h3 h0').1 hne
    · obtain ⟨vs, hb⟩ := h2.blk
      have hb2 : Blk w2 vp 63 vs := K.blk _ _ _ (by unfold otherL other; decide) (hb.touch o (fun q => q))
      rcases hm with ⟨q, _⟩ | ⟨q, _⟩ | ⟨_, _, m⟩
      · cases q
      · cases q
      · exact ⟨rfl, ⟨g', b', _, L', A'.vt (T.mono fun i _ hi => .inl hi) hb2 h5 h6 (.inl rfl) m.bq, hl1, hl2⟩, m.lp0⟩
theorem Vq.put (v : Vq w0 vp lp d x h w) (n : Int) (p : Option Addr) (m c : Nat) (hn : isId n = true) (hm : m ≤ 60000) : Calls Try.prog 11 #[.pointer (some ⟨vp, 0, none⟩), .int .i64 n, .slice p m c] w fun y w' => y = .returned (.int .i64 4) ∧ w = w' := by
  obtain ⟨⟨g, b, bs, L, A, r, _⟩, h2⟩ := v
  exact vput_lost h2 A.head r n p m c hn hm
theorem Vq.lost (v : Vq w0 vp lp d x h w) : Calls Try.prog 18 #[.pointer (some ⟨vp, 0, none⟩)] w fun y w' => y = .returned (.bool true) ∧ w = w' := by
  obtain ⟨⟨g, b, bs, L, A, r, _⟩, h2⟩ := v
  have := vlost_any h2 A.head
  rwa [r] at this
theorem Vq.settle (v : Vq w0 vp lp d x h w) : Calls Try.prog 19 #[.pointer (some ⟨vp, 0, none⟩)] w fun y w' => y = .returned (.int .i64 4) ∧ Old w0 w' := by
  obtain ⟨⟨g, b, bs, L, A, r, ht⟩, h2⟩ := v
  refine vsettle_any h2 ((lsettle_any A ht).mono ?_)
  rintro y w' ⟨rfl, M⟩
  obtain ⟨b', A'⟩ := M.1
  refine ⟨⟨_, rfl⟩, ?_, A'.st.old⟩
  unfold LS.settleE
  rw [r]
  rfl
end
end Go.Proofs.Ytjajenkagcdhlaa
/- The walk of lariatlaw6.VaultKnown. -/
namespace Go.Proofs.Ytjajenkagcdhlaa
open Go.RowKit
set_option maxRecDepth 100000

theorem kn_sum0 : sumT rs0 = 0 := by decide
theorem kn_sum {Z : List Nat} : sumT (rs0.set 1 (some Z)) = takesN Z.length := by
  have := sumT_set (rs := rs0) (k := 1) (r0 := none) (some Z) rfl
  rw [kn_sum0] at this
  have e1 : takesR (some Z) = takesN Z.length := rfl
  have e2 : takesR none = 0 := rfl
  omega
set_option maxHeartbeats 12800000 in
theorem vknown_law (w : World) : Calls Try.prog 3 #[] w fun e w' => e = .returned (.bool true) ∧ Below w.heap.size w w' := by
  have kc := fun (w : World) (C : Array Value) (n c : Nat) => Lib.run_convert_bytes_const (P := Try.prog) w 35 5 C n c Try.underlying35 Try.underlying5
  have HKc := Lib.hid kc
  clear kc
  go_enter Try.func3, Try.ntmps3
  go_wp2_with fail
  refine (known_any w).mono ?_
  rintro x w1 ⟨rfl, O1⟩
  have HFo : Hid (Calls Try.prog 6 #[.int .i64 40, .int .i64 20] w1 fun y w' => ∃ vp lp d x, y = .returned (.tuple #[.pointer (some ⟨vp, 0, none⟩), .pointer (some ⟨d, 0, none⟩)]) ∧ Vt w vp lp d x 20 18 3 true (fun X => X = home0 18) (home0 18) rs0 rs0 ps0 w' ∧ KeptV w1 w') := lfound_any O1 (n := 40) (l := 20) (h := 18) rfl (by omega) (by omega) (by omega) (by omega)
  clear O1
  go_wp2_with fail
  refine HFo.out.mono ?_
  rintro y w2 ⟨vp, lp, d, x, rfl, V2, _⟩
  have HV2 := Lib.hid V2
  clear V2 HFo
  go_wp2_with fail
  refine (known_any w2).mono ?_
  rintro y w3 ⟨rfl, O3⟩
  have HV3 := Lib.hid (HV2.out.old O3)
  clear O3 HV2
  go_wp2_with fail
  refine (vopen_nil w3).mono ?_
  rintro y w' ⟨rfl, rfl⟩
  go_wp2_with fail
  refine (vfound_nil 9 w3).mono ?_
  rintro y w' ⟨rfl, rfl⟩
  go_wp2_with fail
  refine (new_st (w0 := ⟨w3, []⟩) 40 (by omega) (by omega) (Touch.refl _ w3) (fun p hp => by cases hp)).mono ?_
  rintro y w4 ⟨r, br, rfl, S4, O4⟩
  have HB := Lib.hid (vopen_blank S4 blank40)
  clear S4 O4
  go_wp2_with fail
  refine HB.out.mono ?_
  rintro y w5 ⟨rfl, O5⟩
  have HV5 := Lib.hid (HV3.out.old O5)
  clear O5 HB HV3
  have HTr : Hid (Calls Try.prog 10 #[.pointer (some ⟨vp, 0, none⟩)] w5 fun y w' => y = .returned (.int .i64 18) ∧ w5 = w') := HV5.out.tracks
  go_wp2_with fail
  refine HTr.out.mono ?_
  rintro y w' ⟨rfl, rfl⟩
  clear HTr
  go_wp2_with fail
  refine (vput_bad w5 0 none 0 0 (.inl rfl)).mono ?_
  rintro y w' ⟨rfl, rfl⟩
  go_wp2_with fail
  refine (vput_bad w5 41 none 0 0 (.inl rfl)).mono ?_
  rintro y w' ⟨rfl, rfl⟩
  have hmk : ∀ (w : World), (Instr.makeSlice 35 (.int .i64 60001) (.int .i64 60001)).run Try.prog w = .ok (.slice (some ⟨w.heap.size, 0, none⟩) 60001 60001) (w.alloc (.cells (cells (zeros 60001)).toArray 5)) := fun w => make_bytes 60001 (by omega) w
  have O6 : Old w5 (w5.alloc (.cells (cells (zeros 60001)).toArray 5)) := (Touch.refl _ w5).alloc _
  have HV6 := Lib.hid (HV5.out.old O6)
  clear O6
  generalize (cells (zeros 60001)).toArray = Z1 at *
  go_wp2_with fail
  clear hmk
  refine (vput_bad _ 1 _ 60001 60001 (.inr (by omega))).mono ?_
  rintro y w' ⟨rfl, rfl⟩
  clear HV5
  generalize w5.alloc (.cells Z1 5) = w6 at *
  generalize w5.heap.size = g5 at *
  have hmk : ∀ (w : World), (Instr.makeSlice 35 (.int .i64 1361) (.int .i64 1361)).run Try.prog w = .ok (.slice (some ⟨w.heap.size, 0, none⟩) 1361 1361) (w.alloc (.cells (cells (zeros 1361)).toArray 5)) := fun w => make_bytes 1361 (by omega) w
  have O7 : Old w6 (w6.alloc (.cells (cells (zeros 1361)).toArray 5)) := (Touch.refl _ w6).alloc _
  have HP7 : Hid (Calls Try.prog 11 #[.pointer (some ⟨vp, 0, none⟩), .int .i64 1, .slice (some ⟨w6.heap.size, 0, none⟩) 1361 1361] (w6.alloc (.cells (cells (zeros 1361)).toArray 5)) fun y w' => y = .returned (.int .i64 3) ∧ Vt w vp lp d x 20 18 3 true (fun X => X = home0 18) (home0 18) rs0 rs0 ps0 w') := by
    refine ((HV6.out.old O7).put 1 (by omega) (by omega) _ (zeros 1361) 1361 1361 (blk_has (zeros_byte 1361) (Blk.new w6 5 (cells (zeros 1361)))) (zeros_length _) (by omega)).mono ?_
    rintro y w' ⟨_, ⟨rfl, _, V⟩ | ⟨_, hs, _⟩⟩
    · exact ⟨rfl, V⟩
    · rw [kn_sum, zeros_length] at hs
      have : takesN 1361 = 18 := by decide
      omega
  clear O7 HV6
  generalize (cells (zeros 1361)).toArray = Z1 at *
  go_wp2_with fail
  refine HP7.out.mono ?_
  rintro y w8 ⟨rfl, V8⟩
  have HV8 := Lib.hid V8
  clear V8 HP7 hmk
  generalize w6.heap.size = g6 at *
  have hmk : ∀ (w : World), (Instr.makeSlice 35 (.int .i64 1360) (.int .i64 1360)).run Try.prog w = .ok (.slice (some ⟨w.heap.size, 0, none⟩) 1360 1360) (w.alloc (.cells (cells (zeros 1360)).toArray 5)) := fun w => make_bytes 1360 (by omega) w
  have O9 : Old w8 (w8.alloc (.cells (cells (zeros 1360)).toArray 5)) := (Touch.refl _ w8).alloc _
  obtain ⟨Y, hY⟩ : ∃ Y, zeros 1360 = Y := ⟨_, rfl⟩
  have hYl : Y.length = 1360 := by rw [← hY]; exact zeros_length _
  have HP9 : Hid (Calls Try.prog 11 #[.pointer (some ⟨vp, 0, none⟩), .int .i64 1, .slice (some ⟨w8.heap.size, 0, none⟩) 1360 1360] (w8.alloc (.cells (cells (zeros 1360)).toArray 5)) fun y w' => y = .returned (.int .i64 0) ∧ Vt w vp lp d x 20 18 3 true (fun X => X = home0 18) (home0 18) (rs0.set 1 (some Y)) rs0 ps0 w') := by
    refine ((HV8.out.old O9).put 1 (by omega) (by omega) _ Y 1360 1360 (by rw [← hY]; exact blk_has (zeros_byte 1360) (Blk.new w8 5 (cells (zeros 1360)))) hYl (by omega)).mono ?_
    rintro y w' ⟨_, ⟨rfl, hs, V⟩ | ⟨rfl, hs, V⟩⟩
    · rw [kn_sum, hYl] at hs
      have : takesN 1360 = 17 := by decide
      omega
    · exact ⟨rfl, V⟩
  clear O9 HV8 hY
  generalize (cells (zeros 1360)).toArray = Z1 at *
  go_wp2_with fail
  refine HP9.out.mono ?_
  rintro y w10 ⟨rfl, V10⟩
  have HV10 := Lib.hid V10
  have HFr : Hid (Calls Try.prog 12 #[.pointer (some ⟨vp, 0, none⟩)] w10 fun y w' => y = .returned (.int .i64 0) ∧ w10 = w') := by
    have := vfree_any V10.mem
    rw [kn_sum, hYl] at this
    exact this
  have HDr : Hid (Calls Try.prog 13 #[.pointer (some ⟨vp, 0, none⟩), .int .i64 1] w10 fun y w' => y = .returned (.bool true) ∧ Vt w vp lp d x 20 18 3 true (fun X => X = home0 18) (home0 18) rs0 rs0 ps0 w') := by
    refine (V10.drop 1 (by omega) (by omega) (some Y) rfl).mono ?_
    rintro y w' ⟨rfl, V, _⟩
    rw [List.set_set] at V
    exact ⟨rfl, V⟩
  clear V10 HP9 hmk HV10 hYl
  generalize w8.heap.size = g8 at *
  go_wp2_with fail
  refine HFr.out.mono ?_
  rintro y w' ⟨rfl, rfl⟩
  clear HFr
  go_wp2_with fail
  refine HDr.out.mono ?_
  rintro y w11 ⟨rfl, V11⟩
  have HDr2 : Hid (Calls Try.prog 13 #[.pointer (some ⟨vp, 0, none⟩), .int .i64 1] w11 fun y w' => y = .returned (.bool false) ∧ Vt w vp lp d x 20 18 3 true (fun X => X = home0 18) (home0 18) rs0 rs0 ps0 w') := by
    refine (V11.drop 1 (by omega) (by omega) none rfl).mono ?_
    rintro y w' ⟨rfl, V, _⟩
    exact ⟨rfl, V⟩
  clear V11 HDr
  go_wp2_with fail
  refine HDr2.out.mono ?_
  rintro y w12 ⟨rfl, V12⟩
  have TA : Old w12 (w12.alloc (.cells #[.int .u8 120] 5 (1, 2))) := (Touch.refl _ w12).alloc _
  have HP13 : Hid (Calls Try.prog 11 #[.pointer (some ⟨vp, 0, none⟩), .int .i64 5, .slice (some ⟨w12.heap.size, 0, none⟩) 1 1] (w12.alloc (.cells #[.int .u8 120] 5 (1, 2))) fun y w' => y = .returned (.int .i64 0) ∧ Vt w vp lp d x 20 18 3 true (fun X => X = home0 18) (home0 18) (rs0.set 5 (some [120])) rs0 ps0 w') := by
    refine ((V12.old TA).put 5 (by omega) (by omega) _ [120] 1 1 (Has.new w12 [120] (by decide) (1, 2)) rfl (by omega)).mono ?_
    rintro y w' ⟨_, ⟨rfl, hs, V⟩ | ⟨rfl, hs, V⟩⟩
    · exact absurd hs (by decide)
    · exact ⟨rfl, V⟩
  clear V12 TA HDr2
  have kc := HKc.out
  go_wp2_with fail
  clear kc
  refine HP13.out.mono ?_
  rintro y w14 ⟨rfl, V14⟩
  have HU := Lib.hid V14.undo
  clear V14 HP13
  generalize w12.heap.size = g12 at *
  go_wp2_with fail
  refine HU.out.mono ?_
  rintro y w15 ⟨rfl, x2, V15, _⟩
  have HV15 := Lib.hid V15
  have HGe : Hid (Calls Try.prog 15 #[.pointer (some ⟨vp, 0, none⟩), .int .i64 5] w15 fun y w' => ∃ p c, y = .returned (.tuple #[.slice p 0 c, .bool false]) ∧ Old w15 w') := by
    refine (vget_any V15.mem 5 (by omega) (by omega) none rfl).mono ?_
    rintro y w' ⟨p, c, rfl, _, _, _, O⟩
    exact ⟨p, c, rfl, O⟩
  clear V15 HU
  go_wp2_with fail
  refine HGe.out.mono ?_
  rintro y w16 ⟨pg, cg, rfl, O16⟩
  have HBr := Lib.hid (vt_brk (HV15.out.old O16) (by omega))
  clear O16 HV15 HGe
  go_wp2_with fail
  refine HBr.out.mono ?_
  rintro y w17 ⟨rfl, V17⟩
  have TB : Old w17 (w17.alloc (.cells #[.int .u8 121] 5 (1, 2))) := (Touch.refl _ w17).alloc _
  have HP18 : Hid (Calls Try.prog 11 #[.pointer (some ⟨vp, 0, none⟩), .int .i64 6, .slice (some ⟨w17.heap.size, 0, none⟩) 1 1] (w17.alloc (.cells #[.int .u8 121] 5 (1, 2))) fun y w' => y = .returned (.int .i64 0) ∧ Vb w vp lp d x2 20 18 (home0 18) (rs0.set 6 (some [121])) rs0 ps0 w') :=
    (V17.old TB).put 6 (by omega) (by omega) _ [121] 1 1 (Has.new w17 [121] (by decide) (1, 2)) rfl (by omega) (by decide)
  clear V17 TB HBr
  have kc := HKc.out
  go_wp2_with fail
  clear kc
  refine HP18.out.mono ?_
  rintro y w19 ⟨rfl, V19⟩
  have HKe := Lib.hid (V19.keep (by decide) (by decide))
  clear V19 HP18
  generalize w17.heap.size = g17 at *
  go_wp2_with fail
  refine HKe.out.mono ?_
  rintro y w20 ⟨rfl, V20⟩
  have HP20 := Lib.hid (V20.put 7 none 0 0 rfl (by omega))
  have HLo := Lib.hid V20.lost
  have HSe := Lib.hid V20.settle
  clear V20 HKe
  go_wp2_with fail
  refine HP20.out.mono ?_
  rintro y w' ⟨rfl, rfl⟩
  clear HP20
  go_wp2_with fail
  refine HLo.out.mono ?_
  rintro y w' ⟨rfl, rfl⟩
  clear HLo
  go_wp2_with fail
  refine HSe.out.mono ?_
  rintro y w21 ⟨rfl, O21⟩
  have HO := Lib.hid O21
  clear O21 HSe
  go_wp2_with fail
  refine (takes_neg (-1) (by omega) w21).mono ?_
  rintro y w' ⟨rfl, rfl⟩
  go_wp2_with fail
  go_ret
  exact ⟨rfl, HO.out.below (Nat.le_refl _) (fun _ _ h => h)⟩
end Go.Proofs.Ytjajenkagcdhlaa
