/- A ledger that runs, no break being set: what Settle, Balance, Write leave. -/
import Derived.Test.YtjajenkagcdhlaaGreatLive
namespace Go.Proofs.YtjajenkagcdhlaaGreat
open Go.RowKit
set_option maxRecDepth 100000

/-- Home tracks as a posting has them. -/
def tookH (H : List (List Nat)) (e : List Ent) : List (List Nat) := e.foldl (fun H x => H.set x.1 x.2) H
theorem tookH_length (H : List (List Nat)) : ∀ e : List Ent, (tookH H e).length = H.length := fun e => by
  induction e generalizing H with
  | nil => rfl
  | cons x r ih => show (tookH (H.set x.1 x.2) r).length = _; rw [ih, List.length_set]
theorem homeOf_set {V : List (List Nat)} {l : Nat} {ws : Wri} {a k : Nat} {b : List Nat} (ha : a < ws.length) : homeOf V l (ws.set a (some b)) k = if a = k then b else homeOf V l ws k := by
  unfold homeOf
  by_cases e : a = k
  · subst e
    rw [if_pos rfl, List.getD_eq_getElem?_getD, List.getElem?_set_self ha]
    rfl
  · simp only [List.getD_eq_getElem?_getD]
    rw [if_neg e, List.getElem?_set_ne e]
theorem homeOf_took {V : List (List Nat)} {l n : Nat} : ∀ {e : List Ent} {ws : Wri} {H : List (List Nat)}, ws.length = n → H.length = n → (∀ x ∈ e, x.1 < n) → (∀ k, k < n → H[k]? = some (homeOf V l ws k)) → ∀ k, k < n → (tookH H e)[k]? = some (homeOf V l (took ws e) k) := fun {e} => by
  induction e with
  | nil => intro ws H _ _ _ h; exact h
  | cons x r ih =>
    intro ws H hw hH hx h
    have hx1 := hx x (by simp)
    refine ih (ws := ws.set x.1 (some x.2)) (H := H.set x.1 x.2) (by rw [List.length_set]; exact hw) (by rw [List.length_set]; exact hH) (fun y hy => hx y (by simp [hy])) (fun k hk => ?_)
    rw [homeOf_set (by omega)]
    by_cases e1 : x.1 = k
    · subst e1
      rw [if_pos rfl, List.getElem?_set_self (by omega)]
    · rw [if_neg e1, List.getElem?_set_ne e1]
      exact h k hk
/-- Only the leaves of other tracks matter not to what is home. -/
theorem homeOf_same {V V' : List (List Nat)} {l k : Nat} {ws : Wri} (h : V'[2 + l + k]? = V[2 + l + k]?) : homeOf V' l ws k = homeOf V l ws k := by
  unfold homeOf
  rw [List.getD_eq_getElem?_getD (l := V'), h, ← List.getD_eq_getElem?_getD]

theorem posting_get {r n k : Nat} {e : List Ent} {b : List Nat} (h : (posting r n e)[k]? = some b) : k < leavesOf e.length ∧ b = leaf r n e k := by
  have hk : k < leavesOf e.length := by have := lt_of_get h; rwa [posting_length] at this
  unfold posting at h
  rw [List.getElem?_map, List.getElem?_range hk] at h
  injection h with h
  exact ⟨hk, h.symm⟩
theorem leaf_trk {r n k : Nat} {e : List Ent} (h : ∀ x ∈ e, Trk x.2) (h0 : 0 < e.length) (hk : k < leavesOf e.length) : Trk (leaf r n e k) := by
  refine ⟨?_, leaf_length (fun x hx => (h x hx).len) h0 hk⟩
  unfold leaf
  refine track_byte (fun x hx => ?_)
  unfold leafText at hx
  have hp : ∀ y ∈ ptext e, y < 256 := fun y hy => by
    unfold ptext etext at hy
    rcases List.mem_append.1 hy with q | q
    · rcases List.mem_append.1 q with q | q
      · exact high_byte _ _ y q
      · obtain ⟨z, hz, hy'⟩ := List.mem_flatten.1 q
        obtain ⟨w, hw, rfl⟩ := List.mem_map.1 hz
        unfold entText at hy'
        rcases List.mem_append.1 hy' with q | q
        · exact high_byte _ _ y q
        · exact (h w hw).byte y q
    · exact zeros_byte _ y q
  simp only [List.mem_append] at hx
  rcases hx with q | q | q | q | q | q | q
  · exact high_byte _ _ x q
  · exact high_byte _ _ x q
  · exact high_byte _ _ x q
  · exact high_byte _ _ x q
  · exact hp x (List.mem_of_mem_drop (List.mem_of_mem_take q))
  · exact high_byte _ _ x q
  · exact high_byte _ _ x q

/-- The leaves of a posting laid behind those of this round. -/
theorem Live.lay {V : List (List Nat)} {l r : Nat} {H : List (List Nat)} {es : List (List Ent)} (h : Live V l r H es) {e : List Ent} (hg : Goes e H.length) (ht : ∀ x ∈ e, Trk x.2) (hroom : (posts r 1 es).length + leavesOf e.length ≤ l) :
    Live (over V (leafA (2 + (posts r 1 es).length) (posting r (es.length + 1) e))) l r (tookH H e) (es ++ [e]) := by
  have R := h.is
  have hpl := posting_length r (es.length + 1) e
  have h2 := leavesOf_two hg.2.2
  obtain ⟨P, hP⟩ : ∃ P, posting r (es.length + 1) e = P := ⟨_, rfl⟩
  obtain ⟨p, hp⟩ : ∃ p, (posts r 1 es).length = p := ⟨_, rfl⟩
  have hPg : ∀ k b, P[k]? = some b → Trk b ∧ Ends b r := fun k b hb => by
    rw [← hP] at hb
    obtain ⟨hk, rfl⟩ := posting_get hb
    exact ⟨leaf_trk ht hg.2.2 hk, leaf_ends (by have := R.r2; omega) (fun x hx => (hg.1 x hx).2) hg.2.2 hk⟩
  rw [hP] at hpl ⊢
  rw [hp] at hroom ⊢
  have hget := over_leaf (T := V) (k := 2 + p) (bs := P) (by rw [hpl, R.len]; omega)
  have hlen : (over V (leafA (2 + p) P)).length = V.length := over_length _ _
  obtain ⟨rest, hr1, hr2⟩ := h.fresh
  have hlt : leavesT (over V (leafA (2 + p) P)) l = posts r 1 (es ++ [e]) ++ rest.drop (leavesOf e.length) := by
    have hpe : posts r 1 (es ++ [e]) = posts r 1 es ++ P := by
      rw [posts_append]
      show posts r 1 es ++ (posting r (1 + es.length) e ++ []) = _
      rw [List.append_nil, Nat.add_comm, hP]
    rw [hpe, List.append_assoc]
    apply List.ext_getElem?
    intro i
    have hVi : (leavesT V l)[i]? = if i < l then V[2 + i]? else none := leavesT_get V l i
    rw [leavesT_get, hget]
    rw [hr1] at hVi
    by_cases hi : i < l
    · rw [if_pos hi] at hVi ⊢
      by_cases h1 : i < p
      · rw [if_neg (by omega), ← hVi, List.getElem?_append_left (by omega), List.getElem?_append_left (by omega)]
      · by_cases h3 : i < p + leavesOf e.length
        · rw [if_pos (by omega), List.getElem?_append_right (by omega), hp, List.getElem?_append_left (by omega), show 2 + i - (2 + p) = i - p by omega]
        · rw [if_neg (by omega), ← hVi, List.getElem?_append_right (by omega), List.getElem?_append_right (by omega), hp, List.getElem?_append_right (by omega), List.getElem?_drop, hpl, show leavesOf e.length + (i - p - leavesOf e.length) = i - p by omega]
    · rw [if_neg hi] at hVi ⊢
      have hlr : (posts r 1 es ++ rest).length = l := by
        rw [← hr1]
        unfold leavesT
        rw [List.length_take, List.length_drop, R.len]
        omega
      rw [List.length_append, hp] at hlr
      rw [List.getElem?_eq_none (by rw [List.length_append, List.length_append, List.length_drop]; omega)]
  have hfresh : ∀ b ∈ rest.drop (leavesOf e.length), at0 b 83 < r := fun b hb => hr2 b (List.mem_of_mem_drop hb)
  have hnl : (es ++ [e]).length = es.length + 1 := by simp
  have hhl := tookH_length H e
  refine ⟨⟨fun b hb => ?_, by rw [hlen, hhl]; exact R.len, by rw [hlen]; exact R.many, R.lv, by rw [hhl]; exact R.hm, R.r1, R.r2, ?_, ?_, fun i hi => ?_, ?_, ?_, ⟨_, hlt, ?_⟩, fun k hk => ?_⟩, ?_, ⟨_, hlt, hfresh⟩⟩
  · refine over_trk R.trk _ (fun x hx => ?_) b hb
    obtain ⟨j, h1, _⟩ := leafA_mem hx
    exact (hPg j x.2 h1).1
  · rw [hget, if_neg (by omega)]; exact R.cov
  · obtain ⟨o, h1, h3⟩ := R.oth
    exact ⟨o, by rw [hget, if_neg (by omega)]; exact h1, h3⟩
  · rw [hget]
    by_cases hq : 2 + p ≤ 2 + i ∧ 2 + i < 2 + p + P.length
    · rw [if_pos hq]
      obtain ⟨b, hb⟩ := get_of_lt (l := P) (n := 2 + i - (2 + p)) (by omega)
      exact ⟨b, hb, by rw [(hPg _ b hb).2.2.2.2]; exact Nat.le_refl _⟩
    · rw [if_neg hq]; exact R.low i hi
  · intro f hf
    rw [hhl]
    rcases List.mem_append.1 hf with q | q
    · exact R.goes f q
    · obtain rfl := List.mem_singleton.1 q; exact hg
  · intro f hf
    rcases List.mem_append.1 hf with q | q
    · exact R.etrk f q
    · obtain rfl := List.mem_singleton.1 q; exact ht
  · refine readP_low (by have := R.r2; omega) (fun b hb => ?_)
    have := hfresh b (mem_of_get hb)
    omega
  · rw [hhl] at hk ⊢
    rw [tookAll_snoc]
    have e1 := homeOf_took (V := V) (l := l) (n := H.length) (e := e) (ws := wrote H es) (H := H) (wrote_length H es) rfl (fun x hx => (hg.1 x hx).1) (fun k hk => R.home k hk) k hk
    rw [e1]
    congr 1
    refine (homeOf_same ?_).symm
    rw [hget, if_neg (by omega)]
  · obtain ⟨o, s, h1, h3, h4⟩ := h.other
    exact ⟨o, s, by rw [hget, if_neg (by omega)]; exact h1, h3, h4⟩

theorem bad_quiet {D : DS} (h : Quiet D) : D.bad = 0 := bad_up h.down
theorem heed_quiet {L : LS} (h : Quiet L.D) : L.heed = L := by unfold LS.heed; rw [h.down]; rfl
theorem layP_live {L : LS} {l r : Nat} {H : List (List Nat)} {es : List (List Ent)} (h : LiveL L l r H es) {e : List Ent} (hg : Goes e H.length) (ht : ∀ x ∈ e, Trk x.2) (hroom : L.laid + leavesOf e.length ≤ l) : LiveL (L.layP e) l r (tookH H e) (es ++ [e]) := by
  have hq := h.quiet.run (leafT (2 + L.laid) (posting L.round (L.posts + 1) e))
  have hta := h.quiet.ta (leafT (2 + L.laid) (posting L.round (L.posts + 1) e))
  rw [show L.D.ta = (L.D.T, L.D.A) from rfl, ideals_leaf] at hta
  have hS : (L.D.run (leafT (2 + L.laid) (posting L.round (L.posts + 1) e))).seen = over L.D.seen (leafA (2 + (posts r 1 es).length) (posting r (es.length + 1) e)) := by
    unfold DS.seen
    rw [show (L.D.run (leafT (2 + L.laid) (posting L.round (L.posts + 1) e))).T = L.D.T from congrArg Prod.fst hta, show (L.D.run (leafT (2 + L.laid) (posting L.round (L.posts + 1) e))).A = L.D.A ++ leafA (2 + L.laid) (posting L.round (L.posts + 1) e) from congrArg Prod.snd hta, over_append, h.laid, h.round, h.count]
  have hlv := h.live.lay hg ht (by rw [← h.laid]; exact hroom)
  unfold LS.layP
  simp only [hq.down, Bool.false_eq_true, if_false]
  refine ⟨hq, h.lost, h.leaves, h.round, ?_, ?_, ?_, ?_⟩
  · show L.posts + 1 = _; rw [h.count]; simp
  · show L.laid + leavesOf e.length = _; rw [h.laid, posts_append, List.length_append]; congr 1; show _ = (posting r (1 + es.length) e ++ []).length; rw [List.append_nil, posting_length]
  · show took L.ws e = _; rw [h.ws]; show _ = tookAll (List.replicate (tookH H e).length none) (es ++ [e]); rw [tookH_length, tookAll_snoc]
  · show Live (L.D.run _).seen _ _ _ _; rw [hS]; exact hlv

theorem step_settle_seen {D : DS} (h : Quiet D) : (D.step .settle).seen = D.seen ∧ (D.step .settle).A = [] ∧ (D.step .settle).T = D.seen := by
  have := step_ta (D := D) (t := .settle) (h.step _).down
  have h1 : (D.step .settle).T = D.seen := congrArg Prod.fst this
  have h2 : (D.step .settle).A = [] := congrArg Prod.snd this
  exact ⟨by unfold DS.seen; rw [h1, h2]; rfl, h2, h1⟩
theorem LiveL.settled {L : LS} {l r : Nat} {H : List (List Nat)} {es : List (List Ent)} (h : LiveL L l r H es) : LiveL { L with D := L.D.step .settle } l r H es :=
  ⟨h.quiet.step .settle, h.lost, h.leaves, h.round, h.count, h.laid, h.ws, by show Live (L.D.step .settle).seen _ _ _ _; rw [(step_settle_seen h.quiet).1]; exact h.live⟩
theorem settle_live {L : LS} {l r : Nat} {H : List (List Nat)} {es : List (List Ent)} (h : LiveL L l r H es) : L.settleE = 0 ∧ LiveL L.settle l r H es ∧ L.settle = { L with D := L.D.step .settle } := by
  have hs := h.settled
  have e : L.settle = { L with D := L.D.step .settle } := by unfold LS.settle; rw [h.lost]; exact heed_quiet hs.quiet
  refine ⟨?_, by rw [e]; exact hs, e⟩
  unfold LS.settleE
  rw [h.lost]
  exact bad_quiet hs.quiet
theorem balanced_live {L : LS} {l r : Nat} {H : List (List Nat)} {es : List (List Ent)} (h : LiveL L l r H es) (hr : r + 1 < 255) : LiveL L.balanced l (r + 1) H [] ∧ L.balanced.D.A = [] := by
  have hs := h.settled
  have hn := next_live hs.quiet hs.lost hs.leaves hs.round hs.ws hs.live.is hr
  have e : L.balanced = ({ L with D := L.D.step .settle } : LS).next := by unfold LS.balanced; rw [show (L.D.step .settle).down = false from hs.quiet.down]; rfl
  rw [e]
  exact ⟨hn.1, hn.2.1⟩
theorem balance_live {L : LS} {l r : Nat} {H : List (List Nat)} {es : List (List Ent)} (h : LiveL L l r H es) (hr : r + 1 < 255) : L.balanceE = 0 ∧ LiveL L.balance l (r + 1) H [] ∧ L.balance = L.balanced := by
  have hb := (balanced_live h hr).1
  have e : L.balance = L.balanced := by unfold LS.balance; rw [h.lost]; exact heed_quiet hb.quiet
  refine ⟨?_, by rw [e]; exact hb, e⟩
  unfold LS.balanceE
  rw [h.lost]
  exact bad_quiet hb.quiet
/-- Write. -/
theorem write_live {L : LS} {l r : Nat} {H : List (List Nat)} {es : List (List Ent)} (h : LiveL L l r H es) (hr : r + 1 < 255) {e : List Ent} (ht : ∀ x ∈ e, Trk x.2) :
    (L.writeE e = 1 ∧ L.write e = L ∧ ¬ Goes e H.length) ∨ (L.writeE e = 5 ∧ L.write e = L ∧ Goes e H.length ∧ l < leavesOf e.length) ∨ (L.writeE e = 0 ∧ Goes e H.length ∧ ∃ r' es', (r' = r ∨ r' = r + 1) ∧ es'.length ≤ es.length + 1 ∧ LiveL (L.write e) l r' (tookH H e) es') := by
  by_cases hg : Goes e H.length
  · have hg' : Goes e L.ws.length := by rw [h.hlen]; exact hg
    by_cases hbig : l < leavesOf e.length
    · refine .inr (.inl ⟨?_, ?_, hg, hbig⟩)
      · unfold LS.writeE; rw [if_pos hg', h.lost, h.leaves, if_pos hbig]; rfl
      · unfold LS.write; rw [if_pos hg', h.lost, h.leaves, if_pos hbig]; rfl
    · right; right
      have e1 : L.writeE e = (L.post e).D.bad := by unfold LS.writeE; rw [if_pos hg', h.lost, h.leaves, if_neg hbig]; rfl
      have e2 : L.write e = (L.post e).heed := by unfold LS.write; rw [if_pos hg', h.lost, h.leaves, if_neg hbig]; rfl
      rw [e1, e2]
      by_cases hroom : L.leaves - L.laid < leavesOf e.length
      · have hb := (balanced_live h hr).1
        have hl := layP_live hb hg ht (by rw [hb.laid]; show 0 + _ ≤ _; omega)
        have ep : L.post e = L.balanced.layP e := by unfold LS.post; rw [if_pos hroom, hb.quiet.down]; rfl
        rw [ep, heed_quiet hl.quiet]
        exact ⟨bad_quiet hl.quiet, hg, r + 1, _, .inr rfl, by simp, hl⟩
      · have hlaid := (h.ok (by
          have h1 : es.length ≤ (posts r 1 es).length := by
            have : ∀ (n : Nat) (fs : List (List Ent)), (∀ f ∈ fs, Goes f H.length) → fs.length ≤ (posts r n fs).length := fun n fs => by
              induction fs generalizing n with
              | nil => intro _; exact Nat.zero_le _
              | cons f fs ih =>
                intro hf
                have h2 := ih (n + 1) (fun x hx => hf x (by simp [hx]))
                have h3 := leavesOf_two (hf f (by simp)).2.2
                show fs.length + 1 ≤ (posting r n f ++ posts r (n + 1) fs).length
                rw [List.length_append, posting_length]
                omega
            exact this 1 es h.live.is.goes
          obtain ⟨rest, hq, _⟩ := h.live.is.pages
          have h2 : (leavesT L.D.seen l).length ≤ l := by unfold leavesT; rw [List.length_take]; omega
          rw [hq, List.length_append] at h2
          have := h.live.is.len
          have := h.live.is.many
          omega)).laid
        rw [h.leaves] at hroom hlaid
        have hl := layP_live h hg ht (by omega)
        have ep : L.post e = L.layP e := by unfold LS.post; rw [h.leaves, if_neg hroom]
        rw [ep, heed_quiet hl.quiet]
        exact ⟨bad_quiet hl.quiet, hg, r, _, .inl rfl, by simp, hl⟩
  · refine .inl ⟨?_, ?_, hg⟩
    · exact by unfold LS.writeE; rw [if_neg (by rw [h.hlen]; exact hg)]
    · exact by unfold LS.write; rw [if_neg (by rw [h.hlen]; exact hg)]
end Go.Proofs.YtjajenkagcdhlaaGreat
