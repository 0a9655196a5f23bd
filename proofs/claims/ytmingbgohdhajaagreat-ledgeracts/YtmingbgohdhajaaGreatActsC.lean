/- The program's ledger and the reference's side by side, whatever breaks: each call on both. -/
import Derived.Test.YtmingbgohdhajaaGreatActsB
import Derived.Test.YtmingbgohdhajaaGreatKnown
import Derived.Test.YtmingbgohdhajaaGreatNewL
namespace Go.Proofs.YtmingbgohdhajaaGreat
open Go.RowKit
set_option maxRecDepth 100000
set_option linter.unusedSimpArgs false

theorem owns_keptL {w w' : World} {base size n : Nat} {e : TypeId} {v : Value} {xs : List Value} (h : w.ownsRow base e size v n xs) (m : KeptL w w') (he : otherL e) : w'.ownsRow base e size v n xs := by
  refine ⟨h.1, ?_⟩
  rcases h.2 with h0 | ⟨g, cap, cur, rfl, hb, hg, h1, h2, h3, h4⟩
  · exact .inl h0
  · exact .inr ⟨g, cap, cur, rfl, hb, m.blk e g cur.toList he hg, h1, h2, h3, h4⟩
theorem Rs.keptL {w0 w w' : World} {r : Nat} {D : DS} (h : Rs w0 r D w) (m : KeptL w w') : Rs w0 r D w' := by
  obtain ⟨vt, va, ha⟩ := h.ex
  exact ⟨h.lo, vt, va, m.blk 59 r _ (by unfold otherL other; decide) ha.head, owns_keptL ha.tr m (by unfold otherL other; decide), owns_keptL ha.af m (by unfold otherL other; decide)⟩
theorem RMap.keptL {m n : Nat} {ws : Wri} {w w' : World} (h : RMap m n ws w) (K : KeptL w w') : RMap m n ws w' := by
  obtain ⟨D, ⟨es, clock, hb, r⟩, h2⟩ := h
  exact ⟨D, ⟨es, clock, K.map m es clock hb, r⟩, h2⟩
theorem RL.keptL {w0 w w' : World} {lp r m n : Nat} {L : LS} (h : RL w0 lp r m n L w) (K : KeptL w w') (hsz : w.heap.size ≤ w'.heap.size) : RL w0 lp r m n L w' :=
  ⟨h.rs.keptL K, h.ok, K.blk 55 lp _ (by unfold otherL other; decide) h.head, h.map.keptL K, h.nl, h.nm, Nat.le_trans h.n0 hsz⟩
theorem REnts.keptL {w w' : World} {a : Option Addr} {e : List Ent} (h : REnts w a e) (hb : ∀ g, a = some ⟨g, 0, none⟩ → ∃ cs, Blk w g 116 cs) (K : KeptL w w') : REnts w' a e ∧ (∀ g, a = some ⟨g, 0, none⟩ → ∃ cs, Blk w' g 116 cs) := by
  refine ⟨fun i x hx => ?_, fun g hg => ?_⟩
  · obtain ⟨g, ea, c0, c1⟩ := h i x hx
    obtain ⟨cs, hB⟩ := hb g ea
    have hB' := K.blk 116 g cs (by unfold otherL other; decide) hB
    exact ⟨g, ea, by rw [hB'.cell, ← hB.cell]; exact c0, by rw [hB'.cell, ← hB.cell]; exact c1⟩
  · obtain ⟨cs, hB⟩ := hb g hg
    exact ⟨cs, K.blk 116 g cs (by unfold otherL other; decide) hB⟩

/-- What the reference turns is no block of the program's drum. -/
theorem St.lstay {w0 w1 w w' : World} {d : Nat} {b : Bl} {D : DS} (h : St w0 d b D w) (m : Touch (lmine w1 w) w w') (h1 : w0.heap.size ≤ w1.heap.size) : St w0 d b D w' := by
  refine ⟨h.dr.touch m (fun k hk q => ?_), ⟨m.os.trans h.old.os, m.tape.trans h.old.tape, m.output.trans h.old.output, Nat.le_trans h.old.size m.size, fun k hk hn => (m.block k (Nat.lt_of_lt_of_le hk h.old.size) (fun q => by have := q.1; omega)).trans (h.old.block k hk hn)⟩, h.new⟩
  obtain ⟨_, ⟨t, cs, ht, hB⟩ | hm⟩ := q
  · rcases ht with rfl | rfl | rfl
    · exact h.dr.not_foot hB (by unfold other; decide) hk
    · exact h.dr.not_foot hB (by unfold other; decide) hk
    · exact h.dr.not_foot hB (by unfold other; decide) hk
  · exact h.dr.foot_cells hk hm
theorem blk_lstay {w1 w w' : World} {g : Nat} {t : TypeId} {cs : List Value} (h : Blk w g t cs) (m : Touch (lmine w1 w) w w') (ht : t ≠ 59 ∧ t ≠ 109 ∧ t ≠ 55) : Blk w' g t cs := h.touch m (h.lnot ht)
theorem LAt.lstay {w0 w1 w w' : World} {l d g : Nat} {b : Bl} {L : LS} (h : LAt w0 l d b g L w) (m : Touch (lmine w1 w) w w') (h1 : w0.heap.size ≤ w1.heap.size) : LAt w0 l d b g L w' :=
  ⟨h.st.lstay m h1, blk_lstay h.head m (by decide), h.wri.keep (fun _ _ hb => blk_lstay hb m (by decide)) (fun _ hb => blk_lstay hb m (by decide)), h.nl, h.ng⟩

/-- The program's ledger is L', the reference's L. -/
structure Mid (w w1 : World) (d z lp rp : Nat) (L' L : LS) (wx : World) : Prop where
  a : ∃ b g, LAt w lp d b g L' wx
  r : ∃ m n, RL w1 rp z m n L wx ∧ n ≤ L.laid
  lo : w.heap.size ≤ w1.heap.size
/-- Both are L. -/
structure Two (w w1 : World) (nT d z lp rp t : Nat) (L : LS) (wx : World) : Prop where
  m : Mid w w1 d z lp rp L L wx
  fit : Fit L t nT

section
variable {w w1 wx : World} {nT d z lp rp t : Nat} {L L' : LS}
theorem Mid.old {w' : World} (h : Mid w w1 d z lp rp L' L wx) (o : Old wx w') : Mid w w1 d z lp rp L' L w' := by
  obtain ⟨b, g, A⟩ := h.a
  obtain ⟨m, n, R, hn⟩ := h.r
  exact ⟨⟨b, g, A.step o⟩, ⟨m, n, R.old o, hn⟩, h.lo⟩
theorem Two.old {w' : World} (h : Two w w1 nT d z lp rp t L wx) (o : Old wx w') : Two w w1 nT d z lp rp t L w' := ⟨h.m.old o, h.fit⟩
theorem Mid.since (h : Mid w w1 d z lp rp L' L wx) : Old w wx := by
  obtain ⟨b, g, A⟩ := h.a
  exact A.st.old
/-- Behind the program's call. -/
theorem Mid.next {w' : World} {g : Nat} {L2 : LS} (h : Mid w w1 d z lp rp L' L wx) (N : NextL w lp d g L2 wx w') : Mid w w1 d z lp rp L2 L w' := by
  obtain ⟨⟨b', A⟩, K, hs⟩ := N
  obtain ⟨m, n, R, hn⟩ := h.r
  exact ⟨⟨b', g, A⟩, ⟨m, n, R.keptL K hs, hn⟩, h.lo⟩
/-- Behind the reference's. -/
theorem Mid.both {w' : World} {L2 : LS} (h : Mid w w1 d z lp rp L' L wx) (r : ∃ m n, RL w1 rp z m n L2 w' ∧ n ≤ L2.laid) (T : Touch (lmine w1 wx) wx w') : Mid w w1 d z lp rp L' L2 w' := by
  obtain ⟨b, g, A⟩ := h.a
  exact ⟨⟨b, g, A.lstay T h.lo⟩, r, h.lo⟩

theorem settle_laid (L : LS) : L.settle.laid = L.laid := by
  unfold LS.settle LS.heed
  split
  · rfl
  · split <;> rfl
theorem two_settle (h : Two w w1 nT d z lp rp t L wx) (ht : t ≤ 30) : Calls Tryz.prog 10 #[.pointer (some ⟨lp, 0, none⟩)] wx fun x w' => x = .returned (.int .i64 (L.settleE : Int)) ∧ Mid w w1 d z lp rp L.settle L w' := by
  obtain ⟨b, g, A⟩ := h.m.a
  have := h.fit.turns
  refine (lsettle_any A (by omega)).mono ?_
  rintro x w' ⟨rfl, N⟩
  exact ⟨rfl, h.m.next N⟩
theorem two_rsettle (h : Mid w w1 d z lp rp L.settle L wx) (f : Fit L t nT) (ht : t ≤ 30) : Calls Tryz.prog 11 #[.pointer (some ⟨rp, 0, none⟩)] wx fun x w' => x = .returned (.int .i64 (L.settleE : Int)) ∧ Two w w1 nT d z lp rp (t + 1) L.settle w' := by
  obtain ⟨m, n, R, hn⟩ := h.r
  have := f.turns
  refine (rlsettle_any R (by omega)).mono ?_
  rintro x w' ⟨rfl, R', T⟩
  exact ⟨rfl, h.both ⟨m, n, R', by rw [settle_laid]; exact hn⟩ T, f.settle⟩
theorem two_balance (h : Two w w1 nT d z lp rp t L wx) (ht : t ≤ 30) : Calls Tryz.prog 12 #[.pointer (some ⟨lp, 0, none⟩)] wx fun x w' => x = .returned (.int .i64 (L.balanceE : Int)) ∧ Mid w w1 d z lp rp L.balance L w' := by
  obtain ⟨b, g, A⟩ := h.m.a
  have := h.fit.turns
  refine (lbalance_any A h.fit.ok.ok (by omega)).mono ?_
  rintro x w' ⟨rfl, N⟩
  exact ⟨rfl, h.m.next N⟩
theorem heed_laid (L : LS) : L.heed.laid = L.laid := by unfold LS.heed; split <;> rfl
theorem two_rbalance (h : Mid w w1 d z lp rp L.balance L wx) (f : Fit L t nT) (ht : t ≤ 30) (hn : nT ≤ 60) : Calls Tryz.prog 13 #[.pointer (some ⟨rp, 0, none⟩)] wx fun x w' => x = .returned (.int .i64 (L.balanceE : Int)) ∧ Two w w1 nT d z lp rp (t + 1) L.balance w' := by
  obtain ⟨m, n, R, hnl⟩ := h.r
  have hft := f.turns
  have hF := f.balance ht hn
  cases hlo : L.lost with
  | true =>
    have e1 : L.balanceE = 4 := by unfold LS.balanceE; rw [if_pos hlo]
    have e2 : L.balance = L := by unfold LS.balance; rw [if_pos hlo]
    rw [e2] at hF h ⊢
    rw [e1]
    refine (rbalance_lost R hlo).mono ?_
    rintro x w' ⟨rfl, R', T⟩
    exact ⟨rfl, h.both ⟨m, n, R', hnl⟩ T, hF⟩
  | false =>
    have e1 : L.balanceE = L.balanced.D.bad := by unfold LS.balanceE; rw [if_neg (by rw [hlo]; simp)]
    have e2 : L.balance = L.balanced.heed := by unfold LS.balance; rw [if_neg (by rw [hlo]; simp)]
    rw [e2] at hF h ⊢
    rw [e1]
    refine (rbalance_any R f.ok (by omega) hlo).mono ?_
    rintro x w' ⟨rfl, ⟨m', n', R', hn'⟩, T⟩
    refine ⟨rfl, h.both ⟨m', n', R', ?_⟩ T, hF⟩
    rw [heed_laid, rbalanced_laid]
    split at hn'
    · rename_i q
      rw [if_pos q]; omega
    · omega
theorem two_write (h : Two w w1 nT d z lp rp t L wx) (ht : t ≤ 30) (a : Option Addr) (e : List Ent) (len cap : Nat) (En : Ents wx a e) (hlen : e.length = len) (hlm : len ≤ 5) {ra : Option Addr} (hR : REnts wx ra e) (hb : ∀ g, ra = some ⟨g, 0, none⟩ → ∃ cs, Blk wx g 116 cs) :
    Calls Tryz.prog 24 #[.pointer (some ⟨lp, 0, none⟩), .slice a len cap] wx fun x w' => x = .returned (.int .i64 (L.writeE e : Int)) ∧ Mid w w1 d z lp rp (L.write e) L w' ∧ REnts w' ra e ∧ (∀ g, ra = some ⟨g, 0, none⟩ → ∃ cs, Blk w' g 116 cs) := by
  obtain ⟨b, g, A⟩ := h.m.a
  have f := h.fit
  have h1 := f.turns
  have h2 := f.round
  have h3 := f.posts
  refine (write_any A f.ok.ok (by omega) (by omega) (by omega) a e len cap En hlen (by omega)).mono ?_
  rintro x w' ⟨rfl, N⟩
  exact ⟨rfl, h.m.next N, hR.keptL hb N.2.1⟩
theorem two_rwrite {e : List Ent} (h : Mid w w1 d z lp rp (L.write e) L wx) (f : Fit L t nT) (ht : t ≤ 30) (hn : nT ≤ 60) (a : Option Addr) (k c : Nat) (hE : REnts wx a e) (hb : ∀ g, a = some ⟨g, 0, none⟩ → ∃ cs, Blk wx g 116 cs) (hk : e.length = k) (hk2 : k ≤ 5) (het : ∀ x ∈ e, Trk x.2) :
    Calls Tryz.prog 25 #[.pointer (some ⟨rp, 0, none⟩), .slice a k c] wx fun x w' => x = .returned (.int .i64 (L.writeE e : Int)) ∧ Two w w1 nT d z lp rp (t + 1) (L.write e) w' := by
  obtain ⟨m, n, R, hnl⟩ := h.r
  have h1 := f.turns
  have h2 := f.round
  have h3 := f.posts
  refine (rwrite_any R hnl f.ok (by omega) (by omega) (by omega) a e k c hE hb hk (by omega) het).mono ?_
  rintro x w' ⟨rfl, r, T⟩
  exact ⟨rfl, h.both r T, f.write ht hn het (by omega)⟩
theorem two_break (h : Two w w1 nT d z lp rp t L wx) (n : Int) (hn : n ≤ 1000) : Calls Tryz.prog 20 #[.pointer (some ⟨d, 0, none⟩), .int .i64 n] wx fun x w' => x = .returned (.tuple #[]) ∧ Mid w w1 d z lp rp { L with D := L.D.brk (breakOf n) } L w' := by
  obtain ⟨b, g, A⟩ := h.m.a
  refine (break_st A.st n hn).mono ?_
  rintro x w' ⟨rfl, N⟩
  exact ⟨rfl, h.m.next (A.nextL N)⟩
theorem two_rbreak {n : Int} (h : Mid w w1 d z lp rp { L with D := L.D.brk (breakOf n) } L wx) (f : Fit L t nT) (hn : n ≤ 1000) (hn2 : -1000 ≤ n) : Calls Tryz.prog 21 #[.pointer (some ⟨z, 0, none⟩), .int .i64 n] wx fun x w' => x = .returned (.tuple #[]) ∧ Two w w1 nT d z lp rp (t + 1) { L with D := L.D.brk (breakOf n) } w' := by
  obtain ⟨m, k, R, hnl⟩ := h.r
  refine (rbreak_any R.rs n hn hn2).mono ?_
  rintro x w' ⟨rfl, N⟩
  have ok' : (L.D.brk (breakOf n)).Ok := R.ok.brk (fun m hm => by
    unfold breakOf at hm
    split at hm
    · cases hm
    · injection hm with hm; omega)
  exact ⟨rfl, h.both ⟨m, k, R.turn ⟨⟨N.1, ok'⟩, N.2⟩, hnl⟩ (Touch.of_rmine N.2), f.brk _⟩

/-- Both drums are D', D. -/
structure MidD (w w1 : World) (d z : Nat) (D' D : DS) (wx : World) : Prop where
  st : ∃ b, St w d b D' wx
  rs : Rs w1 z D wx
  lo : w.heap.size ≤ w1.heap.size
  up : w1.heap.size ≤ wx.heap.size
  ok : D.Ok
theorem MidD.old {D' D : DS} {w' : World} (h : MidD w w1 d z D' D wx) (o : Old wx w') : MidD w w1 d z D' D w' := by
  obtain ⟨b, S⟩ := h.st
  exact ⟨⟨b, S.step o⟩, h.rs.old o, h.lo, Nat.le_trans h.up o.size, h.ok⟩
theorem Two.drums (h : Two w w1 nT d z lp rp t L wx) : MidD w w1 d z L.D L.D wx := by
  obtain ⟨b, g, A⟩ := h.m.a
  obtain ⟨m, n, R, _⟩ := h.m.r
  exact ⟨⟨b, A.st⟩, R.rs, h.m.lo, R.n0, R.ok⟩
theorem MidD.since {D' D : DS} (h : MidD w w1 d z D' D wx) : Old w wx := by
  obtain ⟨b, S⟩ := h.st
  exact S.old
theorem MidD.next {D' D D2 : DS} {w' : World} (h : MidD w w1 d z D' D wx) (N : Next w d D2 wx w') : MidD w w1 d z D2 D w' :=
  ⟨N.1, h.rs.kept N.2.1, h.lo, Nat.le_trans h.up N.2.2, h.ok⟩
theorem MidD.both {D' D D2 : DS} {w' : World} (h : MidD w w1 d z D' D wx) (r : Rs w1 z D2 w') (ok : D2.Ok) (T : Touch (rmine w1 wx) wx w') : MidD w w1 d z D' D2 w' := by
  obtain ⟨b, S⟩ := h.st
  exact ⟨⟨b, S.lstay (Touch.of_rmine T) h.lo⟩, r, h.lo, Nat.le_trans h.up T.size, ok⟩
theorem two_fall {D : DS} (h : MidD w w1 d z D D wx) (ht : D.turns ≤ 60000) (a : Option Addr) (ys : List Int) (len cap : Nat) (torn cut : Int) (hI : HasI wx a ys) (hlen : ys.length = len) (hlm : len ≤ 20) (hn : ∀ k, (∃ o, a = some ⟨k, o, none⟩) → ∃ cs, Blk wx k 3 cs) :
    Calls Tryz.prog 16 #[.pointer (some ⟨d, 0, none⟩), .slice a len cap, .int .i64 torn, .int .i64 cut] wx fun x w' => x = .returned (.tuple #[]) ∧ MidD w w1 d z (D.fall (partOf ys torn cut)) D w' ∧ HasI w' a ys ∧ (∀ k, (∃ o, a = some ⟨k, o, none⟩) → ∃ cs, Blk w' k 3 cs) := by
  obtain ⟨b, S⟩ := h.st
  refine (fall_st S (by omega) a ys len cap torn cut hI hlen (by omega)).mono ?_
  rintro x w' ⟨rfl, N⟩
  refine ⟨rfl, h.next N, ⟨fun i hi => ?_⟩, fun k hk => ?_⟩
  · obtain ⟨g, o, ea, hc⟩ := hI.cell i hi
    obtain ⟨cs, hB⟩ := hn g ⟨o, ea⟩
    have hB' := N.2.1.ints hB
    exact ⟨g, o, ea, by rw [hB'.cell, ← hB.cell]; exact hc⟩
  · obtain ⟨cs, hB⟩ := hn k hk
    exact ⟨cs, N.2.1.ints hB⟩
theorem two_rfall {D : DS} (a : Option Addr) (ys : List Int) (len cap : Nat) (torn cut : Int) (h : MidD w w1 d z (D.fall (partOf ys torn cut)) D wx) (ht : D.turns ≤ 60000) (hI : HasI wx a ys) (hlen : ys.length = len) (hlm : len ≤ 20) (hn : ∀ k, (∃ o, a = some ⟨k, o, none⟩) → ∃ cs, Blk wx k 3 cs) :
    Calls Tryz.prog 17 #[.pointer (some ⟨z, 0, none⟩), .slice a len cap, .int .i64 torn, .int .i64 cut] wx fun x w' => x = .returned (.tuple #[]) ∧ MidD w w1 d z (D.fall (partOf ys torn cut)) (D.fall (partOf ys torn cut)) w' := by
  refine (rfall_any h.rs h.ok (by omega) h.up a ys len cap torn cut hlen (by omega) (fun w' T => ⟨fun i hi => ?_⟩)).mono ?_
  · obtain ⟨g, o, ea, hc⟩ := hI.cell i hi
    obtain ⟨cs, hB⟩ := hn g ⟨o, ea⟩
    have hB' := hB.rstay T (by decide)
    exact ⟨g, o, ea, by rw [hB'.cell, ← hB.cell]; exact hc⟩
  · rintro x w' ⟨rfl, N⟩
    exact ⟨rfl, h.both N.1 (h.ok.fall (partOf_le ys torn cut)) N.2⟩
theorem two_found {D : DS} (h : MidD w w1 d z D D wx) (ht : D.turns ≤ 60000) (l : Nat) (hf : fits l D.T.length = true) :
    Calls Tryz.prog 18 #[.pointer (some ⟨d, 0, none⟩), .int .i64 (l : Int)] wx fun x w' => x = .returned (.int .i64 ((D.run (foundT l)).bad : Int)) ∧ MidD w w1 d z (D.run (foundT l)) D w' := by
  obtain ⟨b, S⟩ := h.st
  refine (found_any S (by omega) l hf).mono ?_
  rintro x w' ⟨rfl, N⟩
  exact ⟨rfl, h.next N⟩
theorem two_rfound {D : DS} (l : Nat) (h : MidD w w1 d z (D.run (foundT l)) D wx) (ht : D.turns ≤ 60000) (hf : fits l D.T.length = true) :
    Calls Tryz.prog 8 #[.pointer (some ⟨z, 0, none⟩), .int .i64 (l : Int)] wx fun x w' => x = .returned (.int .i64 ((D.run (foundT l)).bad : Int)) ∧ MidD w w1 d z (D.run (foundT l)) (D.run (foundT l)) w' := by
  refine (rfound_any h.rs h.ok (by omega) h.up l hf).mono ?_
  rintro x w' ⟨rfl, N, T⟩
  exact ⟨rfl, h.both N.1 N.2 T⟩
/-- What the program's Open leaves. -/
structure Opn (w w1 : World) (d z : Nat) (D : DS) (v : Value) (E : Nat) (wx : World) : Prop where
  is : (E ≠ 0 ∧ v = .pointer none) ∨ (E = 0 ∧ ∃ k l g b, coverK D = some k ∧ D.down = false ∧ (openL D k).D.down = false ∧ v = .pointer (some ⟨l, 0, none⟩) ∧ LAt w l d b g (openL D k) wx)
  e : E = openE D
  rs : Rs w1 z D wx
  lo : w.heap.size ≤ w1.heap.size
  up : w1.heap.size ≤ wx.heap.size
  ok : D.Ok
  old : Old w wx
theorem two_open {D : DS} (h : MidD w w1 d z D D wx) (ht : D.turns ≤ 60000) :
    Calls Tryz.prog 19 #[.pointer (some ⟨d, 0, none⟩)] wx fun x w' => ∃ v E, x = .returned (.tuple #[v, .int .i64 ((E : Nat) : Int)]) ∧ Opn w w1 d z D v E w' := by
  obtain ⟨b, S⟩ := h.st
  refine (open_any S (by omega)).mono ?_
  rintro x w' ⟨K, hsz, hh⟩
  have hup := Nat.le_trans h.up hsz
  rcases hh with ⟨b', rfl, hE, S'⟩ | ⟨k', l, g, b', hk', hE, hd, rfl, A⟩
  · exact ⟨_, _, rfl, ⟨.inl ⟨hE, rfl⟩, rfl, h.rs.keptL K, h.lo, hup, h.ok, S'.old⟩⟩
  · have hdn : (openL D k').D.down = false := by
      unfold openE at hE
      rw [hd, hk'] at hE
      simp only [Bool.false_eq_true, if_false] at hE
      cases hq : (openL D k').D.down with
      | false => rfl
      | true => have hE' : (openL D k').D.bad = 0 := hE; rw [bad_down hq] at hE'; cases hE'
    exact ⟨_, 0, rfl, ⟨.inr ⟨rfl, k', l, g, b', hk', hd, hdn, rfl, A⟩, hE.symm, h.rs.keptL K, h.lo, hup, h.ok, A.st.old⟩⟩
theorem two_ropen {D : DS} {v : Value} {E : Nat} (h : Opn w w1 d z D v E wx) (ht : D.turns ≤ 60000) (hn : D.T.length = nT) (hn2 : nT ≤ 60) (ht2 : D.turns + 100 ≤ 1000 + 1000 * t) :
    Calls Tryz.prog 9 #[.pointer (some ⟨z, 0, none⟩)] wx fun x w' => ∃ v', x = .returned (.tuple #[v', .int .i64 (E : Int)]) ∧ ((E ≠ 0 ∧ Old w w') ∨ (E = 0 ∧ ∃ l rp L, v = .pointer (some ⟨l, 0, none⟩) ∧ v' = .pointer (some ⟨rp, 0, none⟩) ∧ Two w w1 nT d z l rp t L w')) := by
  have hE := h.e
  cases hd : D.down with
  | true =>
    have e4 : E = 4 := by rw [hE]; unfold openE; rw [if_pos hd]
    refine (ropen_down h.rs h.ok hd).mono ?_
    rintro x w' ⟨rfl, O⟩
    exact ⟨_, by rw [e4]; rfl, .inl ⟨by omega, h.old.trans O⟩⟩
  | false =>
    refine (ropen_any h.rs h.ok (by omega) h.up hd (by omega)).mono ?_
    intro x w' hx
    unfold ROpens at hx
    cases hc : coverK D with
    | none =>
      rw [hc] at hx
      obtain ⟨rfl, O⟩ := hx
      have e11 : E = 11 := by rw [hE]; unfold openE; rw [hd, hc]; rfl
      exact ⟨_, by rw [e11]; rfl, .inl ⟨by omega, h.old.trans O⟩⟩
    | some k =>
      rw [hc] at hx
      have eb : E = (openL D k).D.bad := by rw [hE]; unfold openE; rw [hd, hc]; rfl
      obtain ⟨T, ⟨hdn, rfl, _⟩ | ⟨hdn, lp', m, rfl, _, R⟩⟩ := hx
      · rw [bad_down hdn] at eb
        have hold : Old w w' := ⟨T.os.trans h.old.os, T.tape.trans h.old.tape, T.output.trans h.old.output, Nat.le_trans h.old.size T.size, fun i hi hn' => (T.block i (Nat.lt_of_lt_of_le hi h.old.size) (fun q => by have := q.1; have := h.lo; omega)).trans (h.old.block i hi hn')⟩
        exact ⟨_, by rw [eb]; rfl, .inl ⟨by omega, hold⟩⟩
      · rw [bad_up hdn] at eb
        rcases h.is with ⟨q, _⟩ | ⟨_, k', l, g, b, hk', _, _, rfl, A⟩
        · exact absurd eb q
        · rw [hc] at hk'
          injection hk' with hk'
          subst hk'
          exact ⟨_, by rw [eb]; rfl, .inr ⟨eb, l, lp', _, rfl, rfl, ⟨⟨⟨b, g, A.lstay T h.lo⟩, ⟨m, 0, R, Nat.zero_le _⟩, h.lo⟩, Fit.opened hc h.ok hdn hn hn2 ht2⟩⟩⟩

/-- What a track of a drum looks like. -/
def lookE (D : DS) : Nat := if D.down then 4 else 0
def lookB (D : DS) (k : Nat) : List Nat := if D.down then [] else D.seen.getD k []
def Looks (E : Nat) (bs : List Nat) (wx : World) (x : Ending) (w' : World) : Prop := ∃ p l c, x = .returned (.tuple #[.slice p l c, .int .i64 (E : Int)]) ∧ Has w' p bs ∧ bs.length = l ∧ Old wx w'
theorem looks_nil (E : Nat) (wx w' : World) (o : Old wx w') : Looks E [] wx (.returned (.tuple #[.slice none 0 0, .int .i64 (E : Int)])) w' := ⟨none, 0, 0, rfl, Has.nil _ _, rfl, o⟩
theorem two_dlook (h : Two w w1 nT d z lp rp t L wx) (k : Nat) (hk : k < nT) : Calls Tryz.prog 32 #[.pointer (some ⟨d, 0, none⟩), .int .i64 k] wx (Looks (lookE L.D) (lookB L.D k) wx) := by
  obtain ⟨b, g, A⟩ := h.m.a
  have hkn : k < L.D.T.length := by rw [h.fit.n]; exact hk
  unfold lookE lookB
  cases hd : L.D.down with
  | true =>
    refine (look_down d k b L.D _ wx A.st.dr.at_ hkn hd).mono ?_
    rintro x w' ⟨rfl, rfl⟩
    exact looks_nil 4 _ _ (Touch.refl _ _)
  | false =>
    refine (look_st A.st k hkn hd).mono ?_
    rintro x w' ⟨g', rfl, hg, B, O⟩
    obtain ⟨bs, hbs⟩ := get_of_lt (l := L.D.seen) (n := k) (by rw [DS.seen_length]; exact hkn)
    have hT := DS.seen_trk A.st.dr.ok bs (mem_of_get hbs)
    rw [getD_of hbs] at B
    simp only [Bool.false_eq_true, if_false]
    rw [getD_of hbs]
    exact ⟨_, _, _, rfl, blk_has hT.byte B, hT.len, O⟩
theorem two_rdlook (h : Two w w1 nT d z lp rp t L wx) (ht : t ≤ 30) (k : Nat) (hk : k < nT) : Calls Tryz.prog 33 #[.pointer (some ⟨z, 0, none⟩), .int .i64 k] wx (Looks (lookE L.D) (lookB L.D k) wx) := by
  obtain ⟨m, n, R, _⟩ := h.m.r
  have hkn : k < L.D.T.length := by rw [h.fit.n]; exact hk
  have := h.fit.turns
  unfold lookE lookB
  cases hd : L.D.down with
  | true =>
    refine (rlook_down R.rs k hkn hd).mono ?_
    rintro x w' ⟨rfl, rfl⟩
    exact looks_nil 4 _ _ (Touch.refl _ _)
  | false =>
    refine (rlook_ok R.rs R.ok (by omega) k hkn hd).mono ?_
    rintro x w' ⟨g', c, rfl, hc, hg, B, O⟩
    obtain ⟨bs, hbs⟩ := get_of_lt (l := L.D.seen) (n := k) (by rw [DS.seen_length]; exact hkn)
    have hT := DS.seen_trk R.ok bs (mem_of_get hbs)
    rw [getD_of hbs] at B
    simp only [Bool.false_eq_true, if_false]
    rw [getD_of hbs]
    exact ⟨_, _, _, rfl, B.has, hT.len, O⟩
/-- What a home track looks like. -/
def hlookE (L : LS) (k : Int) : Nat := if k < 0 ∨ (L.ws.length : Int) ≤ k then 1 else if L.lost then 4 else 0
def hlookB (L : LS) (k : Int) : List Nat := if k < 0 ∨ (L.ws.length : Int) ≤ k then [] else if L.lost then [] else L.homeAt k.toNat
theorem up_of_kept (f : Fit L t nT) (hl : L.lost = false) : L.D.down = false := by
  cases hd : L.D.down with
  | false => rfl
  | true => rw [f.low hd] at hl; cases hl
theorem two_look (h : Two w w1 nT d z lp rp t L wx) (k : Int) : Calls Tryz.prog 34 #[.pointer (some ⟨lp, 0, none⟩), .int .i64 k] wx (Looks (hlookE L k) (hlookB L k) wx) := by
  obtain ⟨b, g, A⟩ := h.m.a
  unfold hlookE hlookB
  by_cases hk : k < 0 ∨ (L.ws.length : Int) ≤ k
  · rw [if_pos hk, if_pos hk]
    refine (look_far A.head k hk).mono ?_
    rintro x w' ⟨rfl, rfl⟩
    exact looks_nil 1 _ _ (Touch.refl _ _)
  · rw [if_neg hk, if_neg hk]
    obtain ⟨j, rfl⟩ : ∃ j : Nat, k = (j : Int) := ⟨k.toNat, by omega⟩
    have hj : j < L.ws.length := by omega
    cases hl : L.lost with
    | true =>
      refine (look_lost A hl j hj).mono ?_
      rintro x w' ⟨rfl, rfl⟩
      exact looks_nil 4 _ _ (Touch.refl _ _)
    | false =>
      refine (look_home A h.fit.ok.ok hl (up_of_kept h.fit hl) j hj).mono ?_
      rintro x w' ⟨g', o, c, rfl, hlen, B, O⟩
      exact ⟨_, _, _, rfl, B.has, hlen, O⟩
theorem two_rlook (h : Two w w1 nT d z lp rp t L wx) (ht : t ≤ 30) (k : Int) : Calls Tryz.prog 35 #[.pointer (some ⟨rp, 0, none⟩), .int .i64 k] wx (Looks (hlookE L k) (hlookB L k) wx) := by
  obtain ⟨m, n, R, _⟩ := h.m.r
  have := h.fit.turns
  have hfew := h.fit.ok.few
  unfold hlookE hlookB
  by_cases hk : k < 0 ∨ (L.ws.length : Int) ≤ k
  · rw [if_pos hk, if_pos hk]
    refine (rllook_far R h.fit.ok.len k hk).mono ?_
    rintro x w' ⟨rfl, O⟩
    exact looks_nil 1 _ _ O
  · rw [if_neg hk, if_neg hk]
    obtain ⟨j, rfl⟩ : ∃ j : Nat, k = (j : Int) := ⟨k.toNat, by omega⟩
    have hj : j < L.ws.length := by omega
    cases hl : L.lost with
    | true =>
      refine (rllook_lost R h.fit.ok.len hl j hj).mono ?_
      rintro x w' ⟨rfl, O⟩
      exact looks_nil 4 _ _ O
    | false =>
      refine (rllook_home R h.fit.ok.len hl (up_of_kept h.fit hl) (by omega) (by omega) h.fit.ok.trk j hj).mono ?_
      rintro x w' ⟨g', c, rfl, hc, hg, B, O⟩
      have hlen : (L.homeAt j).length = 96 := by
        obtain ⟨b, g, A⟩ := h.m.a
        unfold LS.homeAt
        obtain ⟨y, hy⟩ := get_of_lt hj
        rw [show L.ws.getD j none = y from getD_of hy]
        cases y with
        | some bs => exact (h.fit.ok.trk j bs hy).len
        | none =>
          have hl1 := h.fit.ok.len
          obtain ⟨bs, hbs⟩ := get_of_lt (l := L.D.seen) (n := 2 + L.leaves + j) (by rw [DS.seen_length]; omega)
          show (L.D.seen.getD (2 + L.leaves + j) []).length = 96
          rw [getD_of hbs]
          exact (DS.seen_trk R.ok bs (mem_of_get hbs)).len
      exact ⟨_, _, _, rfl, B.has, hlen, O⟩
end
theorem two_broken {w w1 wx : World} {nT d z lp rp t : Nat} {L : LS} (h : Two w w1 nT d z lp rp t L wx) : Calls Tryz.prog 14 #[.pointer (some ⟨d, 0, none⟩)] wx fun x w' => x = .returned (.bool L.D.down) ∧ wx = w' := by
  obtain ⟨b, g, A⟩ := h.m.a
  exact broken_any d b L.D _ wx A.st.dr.at_
theorem two_rhome {w w1 wx : World} {nT d z lp rp t : Nat} {L : LS} (h : Two w w1 nT d z lp rp t L wx) : Calls Tryz.prog 23 #[.pointer (some ⟨rp, 0, none⟩)] wx fun x w' => x = .returned (.int .i64 (L.ws.length : Int)) ∧ Old wx w' := by
  obtain ⟨m, n, R, _⟩ := h.m.r
  exact rlhome_any R h.fit.ok.len
/-- The reference's ledger of a drum that was founded. -/
theorem two_new {w w3 w4 : World} {nT l h d z lp : Nat} (hn : nT = 2 + l + h) (hl : 5 ≤ l) (hh : 3 ≤ h) (hm : nT ≤ 60) (A : ∃ b g, LAt w lp d b g (newL nT l) w4) (R : Rs w3 z (newD nT l) w4) (ok : (newD nT l).Ok) (lo : w.heap.size ≤ w3.heap.size) (up : w3.heap.size ≤ w4.heap.size) :
    Calls Tryz.prog 9 #[.pointer (some ⟨z, 0, none⟩)] w4 fun x w' => ∃ rp, x = .returned (.tuple #[.pointer (some ⟨rp, 0, none⟩), .int .i64 0]) ∧ Two w w3 nT d z lp rp 0 (newL nT l) w' := by
  obtain ⟨F, Lv, _⟩ := newL_live hn hl hh (by omega)
  have hc := F.cover
  have htn : (newD nT l).turns ≤ l + 5 := by
    have := DS.run_turns (DS.new nT) (foundT l)
    have e : (foundT l).length = 2 + l + 3 := by simp [foundT, beginT]
    rw [e] at this
    show ((DS.new nT).run (foundT l)).turns ≤ _
    have : (DS.new nT).turns = 0 := rfl
    omega
  have hlen : (newD nT l).T.length = nT := by show ((DS.new nT).run (foundT l)).T.length = nT; rw [DS.run_len]; simp [DS.new]
  refine (ropen_any R ok (by omega) up (newD_quiet nT l).down (by omega)).mono ?_
  intro x w' hx
  unfold ROpens at hx
  rw [hc] at hx
  obtain ⟨T, ⟨hd, _⟩ | ⟨hd, rp, m, rfl, _, R'⟩⟩ := hx
  · have := Lv.quiet.down
    rw [show newL nT l = openL (newD nT l) 1 from rfl, hd] at this
    cases this
  · obtain ⟨b, g, A⟩ := A
    exact ⟨rp, rfl, ⟨⟨b, g, A.lstay T lo⟩, ⟨m, 0, R', Nat.zero_le _⟩, lo⟩, Fit.opened hc ok hd hlen hm (by omega)⟩
section
variable {w w1 wx : World} {nT d z lp rp t : Nat} {L : LS}
theorem two_lost (h : Two w w1 nT d z lp rp t L wx) : Calls Tryz.prog 26 #[.pointer (some ⟨lp, 0, none⟩)] wx fun x w' => x = .returned (.bool L.lost) ∧ wx = w' := by
  obtain ⟨b, g, A⟩ := h.m.a
  exact lost_any A.head
theorem two_blank (h : Two w w1 nT d z lp rp t L wx) : Calls Tryz.prog 27 #[.pointer (some ⟨lp, 0, none⟩)] wx fun x w' => x = .returned (.int .i64 ((L.leaves - L.laid : Nat) : Int)) ∧ Old wx w' := by
  obtain ⟨b, g, A⟩ := h.m.a
  exact blank_any A.head h.fit.ok.laid (by have := h.fit.ok.len; have := h.fit.ok.few; omega)
theorem two_rblank (h : Two w w1 nT d z lp rp t L wx) : Calls Tryz.prog 28 #[.pointer (some ⟨rp, 0, none⟩)] wx fun x w' => x = .returned (.int .i64 ((L.leaves - L.laid : Nat) : Int)) ∧ Old wx w' := by
  obtain ⟨m, n, R, _⟩ := h.m.r
  exact rlblank_any R h.fit.ok.laid (by have := h.fit.ok.len; have := h.fit.ok.few; omega)
theorem two_home (h : Two w w1 nT d z lp rp t L wx) : Calls Tryz.prog 29 #[.pointer (some ⟨lp, 0, none⟩)] wx fun x w' => x = .returned (.int .i64 (L.ws.length : Int)) ∧ wx = w' := by
  obtain ⟨b, g, A⟩ := h.m.a
  exact home_any A.head
theorem two_turns (h : Two w w1 nT d z lp rp t L wx) : Calls Tryz.prog 30 #[.pointer (some ⟨d, 0, none⟩)] wx fun x w' => x = .returned (.int .i64 (L.D.turns : Int)) ∧ wx = w' := by
  obtain ⟨b, g, A⟩ := h.m.a
  exact turns_any d b L.D _ wx A.st.dr.at_
theorem two_afloat (h : Two w w1 nT d z lp rp t L wx) (ht : t ≤ 30) : Calls Tryz.prog 31 #[.pointer (some ⟨d, 0, none⟩)] wx fun x w' => ∃ g, x = .returned (.slice (some ⟨g, 0, none⟩) L.D.A.length L.D.A.length) ∧ Old wx w' := by
  obtain ⟨b, g, A⟩ := h.m.a
  refine (afloat_any d b L.D _ wx A.st.dr.at_ A.st.dr.ok (by have := h.fit.turns; omega)).mono ?_
  rintro x w' ⟨rfl, _, O⟩
  exact ⟨_, rfl, O⟩
theorem two_cells (h : Two w w1 nT d z lp rp t L wx) : wx.cell? ⟨rp, 6, none⟩ = some (.bool L.lost) ∧ wx.cell? ⟨z, 4, none⟩ = some (.int .i64 (L.D.turns : Int)) ∧ ∃ aa ca, wx.cell? ⟨z, 1, none⟩ = some (.slice aa L.D.A.length ca) := by
  obtain ⟨m, n, R, _⟩ := h.m.r
  obtain ⟨vt, va, ha⟩ := R.rs.ex
  obtain ⟨aa, ca, rfl⟩ := rlain_form ha.af
  exact ⟨R.head.cell 6, ha.head.cell 4, aa, ca, ha.head.cell 1⟩
end
end Go.Proofs.YtmingbgohdhajaaGreat
