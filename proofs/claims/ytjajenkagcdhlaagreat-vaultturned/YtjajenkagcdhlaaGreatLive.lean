/- A ledger that runs: what stands on its drum; a round's end, an opening, a posting. -/
import Derived.Test.YtjajenkagcdhlaaGreatRec
namespace Go.Proofs.YtjajenkagcdhlaaGreat
open Go.RowKit
set_option maxRecDepth 100000

theorem over_append (T : List (List Nat)) (A B : List (Nat × List Nat)) : over T (A ++ B) = over (over T A) B := by simp [over]
theorem took_trk {ws : Wri} (h : ∀ (k : Nat) (b : List Nat), ws[k]? = some (some b) → Trk b) : ∀ {e : List Ent}, (∀ x ∈ e, Trk x.2) → ∀ (k : Nat) (b : List Nat), (took ws e)[k]? = some (some b) → Trk b := fun {e} => by
  induction e generalizing ws with
  | nil => intro _; exact h
  | cons x r ih =>
    intro he k b hk
    refine ih (ws := ws.set x.1 (some x.2)) (fun k b hk => ?_) (fun y hy => he y (by simp [hy])) k b hk
    by_cases e1 : x.1 = k
    · subst e1
      have hl : x.1 < ws.length := by have := lt_of_get hk; rwa [List.length_set] at this
      rw [List.getElem?_set_self hl] at hk
      injection hk with hk
      injection hk with hk
      subst hk
      exact he x (by simp)
    · rw [List.getElem?_set_ne e1] at hk
      exact h k b hk
theorem tookAll_trk : ∀ {es : List (List Ent)} {ws : Wri}, (∀ (k : Nat) (b : List Nat), ws[k]? = some (some b) → Trk b) → (∀ e ∈ es, ∀ x ∈ e, Trk x.2) → ∀ (k : Nat) (b : List Nat), (tookAll ws es)[k]? = some (some b) → Trk b := fun {es} => by
  induction es with
  | nil => intro ws h _; exact h
  | cons e es ih =>
    intro ws h he
    exact ih (ws := took ws e) (took_trk h (he e (by simp))) (fun f hf => he f (by simp [hf]))
theorem none_trk (n : Nat) : ∀ (k : Nat) (b : List Nat), (List.replicate n (none : Option (List Nat)))[k]? = some (some b) → Trk b := fun k b h => by
  rw [List.getElem?_replicate] at h
  split at h
  · injection h with h; cases h
  · cases h
theorem cover_trk (r l : Nat) : Trk (cover r l) := ⟨track_byte (fun x hx => by
  unfold coverText at hx
  rcases List.mem_append.1 hx with h | h
  · exact high_byte _ _ x h
  · rcases List.mem_append.1 h with h | h
    · exact high_byte _ _ x h
    · rcases List.mem_append.1 h with h | h
      · exact zeros_byte _ x h
      · exact high_byte _ _ x h), cover_length r l⟩

/-- What is written in a round. -/
abbrev wrote (H : List (List Nat)) (es : List (List Ent)) : Wri := tookAll (List.replicate H.length none) es
theorem wrote_length (H : List (List Nat)) (es : List (List Ent)) : (wrote H es).length = H.length := by rw [tookAll_length, List.length_replicate]

structure Live (V : List (List Nat)) (l r : Nat) (H : List (List Nat)) (es : List (List Ent)) : Prop where
  is : RecE V l r H es
  other : ∃ o s, V[(r + 1) % 2]? = some o ∧ Ends o s ∧ s < r
  fresh : ∃ rest, leavesT V l = posts r 1 es ++ rest ∧ ∀ b ∈ rest, at0 b 83 < r

/-- A round's end: what is written is laid home, then the next cover. -/
def renewed (V : List (List Nat)) (l r : Nat) (ws : Wri) : List (List Nat) := (over V (homeA l 0 ws)).set ((r + 1) % 2) (cover (r + 1) l)
theorem renewed_get {V : List (List Nat)} {l r : Nat} {ws : Wri} (h : 2 + l + ws.length ≤ V.length) (i : Nat) : (renewed V l r ws)[i]? = if i = (r + 1) % 2 then some (cover (r + 1) l) else if 2 + l ≤ i then (match ws.getD (i - (2 + l)) none with | some b => some b | none => V[i]?) else V[i]? := by
  unfold renewed
  by_cases hi : i = (r + 1) % 2
  · subst hi
    rw [if_pos rfl, List.getElem?_set_self (by rw [over_length]; omega)]
  · rw [if_neg hi, List.getElem?_set_ne (fun q => hi q.symm), over_home h]
    rfl
theorem Live.renew {V : List (List Nat)} {l r : Nat} {H : List (List Nat)} {es : List (List Ent)} (R : RecE V l r H es) (hr : r + 1 < 255) : Live (renewed V l r (wrote H es)) l (r + 1) H [] := by
  have hwl := wrote_length H es
  have hg := renewed_get (V := V) (l := l) (r := r) (ws := wrote H es) (by rw [hwl, R.len]; exact Nat.le_refl _)
  have hlen : (renewed V l r (wrote H es)).length = V.length := by unfold renewed; rw [List.length_set, over_length]
  have hleaf : ∀ i, i < l → (renewed V l r (wrote H es))[2 + i]? = V[2 + i]? := fun i hi => by rw [hg, if_neg (by omega), if_neg (by omega)]
  have hlt : leavesT (renewed V l r (wrote H es)) l = leavesT V l := by
    apply List.ext_getElem?
    intro i
    rw [leavesT_get, leavesT_get]
    by_cases h : i < l
    · rw [if_pos h, if_pos h, hleaf i h]
    · rw [if_neg h, if_neg h]
  have hlow : ∀ b ∈ leavesT V l, at0 b 83 < r + 1 := fun b hb => by
    obtain ⟨i, hi⟩ := List.getElem?_of_mem hb
    rw [leavesT_get] at hi
    split at hi
    · rename_i h
      obtain ⟨c, hc, hc'⟩ := R.low i h
      rw [hc] at hi
      injection hi with hi
      subst hi
      omega
    · cases hi
  have hother : (renewed V l r (wrote H es))[(r + 1 + 1) % 2]? = some (cover r l) := by
    have := R.r1
    rw [hg, if_neg (by omega), if_neg (by have := R.lv; omega), show (r + 1 + 1) % 2 = r % 2 by omega]
    exact R.cov
  have hends : Ends (cover r l) r := cover_ends (by omega)
  refine ⟨⟨fun b hb => ?_, by rw [hlen]; exact R.len, by rw [hlen]; exact R.many, R.lv, R.hm, by omega, hr, ?_, ⟨_, hother, .inl ⟨r, hends, by omega⟩⟩, fun i hi => ?_, (fun e he => by cases he), (fun e he => by cases he), ⟨leavesT V l, by rw [hlt]; rfl, ?_⟩, fun k hk => ?_⟩, ⟨_, r, hother, hends, by omega⟩, ⟨leavesT V l, by rw [hlt]; rfl, hlow⟩⟩
  · obtain ⟨i, hi⟩ := List.getElem?_of_mem hb
    rw [hg] at hi
    split at hi
    · injection hi with hi
      subst hi
      exact cover_trk _ _
    · split at hi
      · split at hi
        · rename_i b' hb'
          injection hi with hi
          subst hi
          refine tookAll_trk (none_trk H.length) R.etrk (i - (2 + l)) b' ?_
          rw [List.getD_eq_getElem?_getD] at hb'
          cases hq : (wrote H es)[i - (2 + l)]? with
          | none => rw [hq] at hb'; cases hb'
          | some y => rw [hq] at hb'; exact congrArg some hb'
        · exact R.trk b (mem_of_get hi)
      · exact R.trk b (mem_of_get hi)
  · rw [hg, if_pos rfl]
  · obtain ⟨b, h1, h2⟩ := R.low i hi
    exact ⟨b, by rw [hleaf i hi]; exact h1, by omega⟩
  · refine readP_low (by omega) (fun b hb => ?_)
    have := hlow b (mem_of_get hb)
    omega
  · have h0 : (tookAll (List.replicate H.length none) ([] : List (List Ent))).getD k none = none := by
      show (List.replicate H.length none).getD k none = none
      rw [List.getD_eq_getElem?_getD, List.getElem?_replicate]
      split <;> rfl
    unfold homeOf
    rw [h0]
    simp only
    have hv := hg (2 + l + k)
    rw [if_neg (by omega), if_pos (by omega), show 2 + l + k - (2 + l) = k by omega] at hv
    have hH := R.home k hk
    unfold homeOf at hH
    cases hw : (wrote H es).getD k none with
    | some b =>
      rw [hw] at hv hH
      simp only at hv hH
      rw [getD_of hv]
      exact hH
    | none =>
      rw [hw] at hv hH
      simp only at hv hH
      rw [hH]
      congr 1
      rw [List.getD_eq_getElem?_getD, List.getD_eq_getElem?_getD, hv]

theorem ideals_next (T : List (List Nat)) (A : List (Nat × List Nat)) (l r : Nat) (ws : Wri) : ideals (T, A) (homeT l 0 ws ++ beginT (r + 1) l) = (renewed (over T A) l r ws, []) := by
  rw [ideals_append, ideals_home]
  show (over (over T (A ++ homeA l 0 ws)) [((r + 1) % 2, cover (r + 1) l)], []) = _
  rw [over_append]
  rfl

/-- A ledger that runs, no break being set. -/
structure LiveL (L : LS) (l r : Nat) (H : List (List Nat)) (es : List (List Ent)) : Prop where
  quiet : Quiet L.D
  lost : L.lost = false
  leaves : L.leaves = l
  round : L.round = r
  count : L.posts = es.length
  laid : L.laid = (posts r 1 es).length
  ws : L.ws = wrote H es
  live : Live L.D.seen l r H es

theorem LiveL.home {L : LS} {l r : Nat} {H : List (List Nat)} {es : List (List Ent)} (h : LiveL L l r H es) {k : Nat} (hk : k < H.length) : H[k]? = some (L.homeAt k) := by
  rw [h.live.is.home k hk]
  unfold LS.homeAt homeOf
  rw [h.ws, h.leaves]
  rfl
theorem LiveL.hlen {L : LS} {l r : Nat} {H : List (List Nat)} {es : List (List Ent)} (h : LiveL L l r H es) : L.ws.length = H.length := by rw [h.ws, wrote_length]
theorem LiveL.ok {L : LS} {l r : Nat} {H : List (List Nat)} {es : List (List Ent)} (h : LiveL L l r H es) (hp : es.length ≤ 1000000) : L.Ok := by
  have R := h.live.is
  have hl := R.len
  rw [DS.seen_length] at hl
  have hr := R.r2
  refine ⟨by rw [h.leaves]; exact R.lv, by rw [h.hlen]; exact R.hm, by rw [h.leaves, h.hlen]; exact hl, ?_, by rw [h.round]; omega, by rw [h.count]; exact hp⟩
  obtain ⟨rest, h1, _⟩ := R.pages
  have h2 : (leavesT L.D.seen l).length = l := by
    unfold leavesT
    rw [List.length_take, List.length_drop, R.len]
    omega
  rw [h1, List.length_append] at h2
  rw [h.laid, h.leaves]
  omega

/-- The next round of a ledger over tracks of which one can be opened. -/
theorem next_live {L : LS} {l r : Nat} {H : List (List Nat)} {es : List (List Ent)} (q : Quiet L.D) (hlost : L.lost = false) (hl : L.leaves = l) (hrd : L.round = r) (hws : L.ws = wrote H es) (R : RecE L.D.seen l r H es) (hr : r + 1 < 255) : LiveL L.next l (r + 1) H [] ∧ L.next.D.A = [] ∧ L.next.D.down = false := by
  have hta := q.ta L.nextT
  have hq := q.run L.nextT
  have hnt : L.nextT = homeT l 0 (wrote H es) ++ beginT (r + 1) l := by unfold LS.nextT; rw [hl, hrd, hws]
  rw [hnt] at hta
  rw [show L.D.ta = (L.D.T, L.D.A) from rfl, ideals_next, ← hnt] at hta
  have hT : (L.D.run L.nextT).T = renewed L.D.seen l r (wrote H es) := congrArg Prod.fst hta
  have hA : (L.D.run L.nextT).A = [] := congrArg Prod.snd hta
  have hS : (L.D.run L.nextT).seen = renewed L.D.seen l r (wrote H es) := by unfold DS.seen; rw [hA, hT]; rfl
  rw [next_up hq.down]
  refine ⟨⟨hq, hlost, hl, by show L.round + 1 = _; rw [hrd], rfl, rfl, ?_, ?_⟩, hA, hq.down⟩
  · show List.replicate L.ws.length none = _; rw [hws, wrote_length]; rfl
  · show Live (L.D.run L.nextT).seen _ _ _ _; rw [hS]; exact Live.renew R hr
/-- What is opened, no break being set. -/
theorem open_live {D : DS} {l r : Nat} {H : List (List Nat)} {es : List (List Ent)} (q : Quiet D) (R : RecE D.seen l r H es) (hr : r + 1 < 255) : coverK D = some (r % 2) ∧ openE D = 0 ∧ openD D = (openL D (r % 2)).D ∧ LiveL (openL D (r % 2)) l (r + 1) H [] ∧ (openL D (r % 2)).D.A = [] := by
  have hk := R.coverK
  have hrd := R.reads
  have hn := next_live (L := (LS.counted D (r % 2)).reads) (by rw [hrd]; exact q) (by rw [hrd]) (by rw [hrd]) (by rw [hrd]) (by rw [hrd]) (by rw [hrd]; exact R) hr
  refine ⟨hk, ?_, ?_, hn.1, hn.2.1⟩
  · unfold openE
    rw [q.down, hk]
    exact bad_up hn.2.2
  · unfold openD
    rw [q.down, hk]
    rfl
end Go.Proofs.YtjajenkagcdhlaaGreat
