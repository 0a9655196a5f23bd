/- A ledger over its drum; the contracts of nextRound and balance. -/
import Derived.Test.YtjajenkagcdhlaaGreatJT
namespace Go.Proofs.YtjajenkagcdhlaaGreat
open Go.RowKit
set_option maxRecDepth 100000

/-- A type that no block of a ledger or its drum has. -/
def otherL (t : TypeId) : Prop := other t ∧ t ≠ 129 ∧ t ≠ 30
structure KeptL (w w' : World) : Prop where
  blk : ∀ t g cs, otherL t → Blk w g t cs → Blk w' g t cs
  map : ∀ (g : Nat) es clock, w.heap[g]? = some (Obj.map es clock) → w'.heap[g]? = some (Obj.map es clock)
theorem KeptL.refl (w : World) : KeptL w w := ⟨fun _ _ _ _ h => h, fun _ _ _ h => h⟩
theorem KeptL.trans {a b c : World} (h : KeptL a b) (k : KeptL b c) : KeptL a c := ⟨fun t g cs ht hb => k.blk t g cs ht (h.blk t g cs ht hb), fun g es cl hg => k.map g es cl (h.map g es cl hg)⟩
theorem KeptL.of_kept {w w' : World} (h : Kept w w') : KeptL w w' := ⟨fun t g cs ht hb => h.blk t g cs ht.1 hb, h.map⟩
theorem KeptL.of_old {w w' : World} (h : Old w w') : KeptL w w' := .of_kept (.of_old h)
theorem KeptL.bytes {w w' : World} (h : KeptL w w') {g : Nat} {cs : List Value} (hb : Blk w g 5 cs) : Blk w' g 5 cs := h.blk 5 g cs (by unfold otherL other; decide) hb
theorem KeptL.of_touch {w w' : World} {k : Nat} {t : TypeId} {cs : List Value} (hk : Blk w k t cs) (ht : t = 129 ∨ t = 30) (h : Touch (fun i => i = k) w w') : KeptL w w' := ⟨fun t' g ds ht' hb => hb.touch h (hb.ne hk (by rcases ht with rfl | rfl; exact ht'.2.1; exact ht'.2.2)), fun g es cl hg => (h.block g (Array.getElem?_eq_some_iff.1 hg).1 (fun q => by have q' : g = k := q; subst q'; unfold Blk at hk; rw [hg] at hk; cases hk)).trans hg⟩
theorem Byt.keptL {w w' : World} {p : Option Addr} {xs : List Nat} (h : Byt w p xs) (m : KeptL w w') : Byt w' p xs := h.keep fun _ _ hb => m.bytes hb
theorem Ents.keptL {w w' : World} {a : Option Addr} {e : List Ent} (h : Ents w a e) (m : KeptL w w') : Ents w' a e := h.keep (fun _ _ hb => m.bytes hb) (fun g cs hb => m.blk 115 g cs (by unfold otherL other; decide) hb)

/-- Such a ledger as may be. -/
structure LS.Ok (L : LS) : Prop where
  leaves : 5 ≤ L.leaves
  home : 2 ≤ L.ws.length
  len : L.D.T.length = 2 + L.leaves + L.ws.length
  laid : L.laid ≤ L.leaves
  round : L.round ≤ 1000000000000
  posts : L.posts ≤ 1000000

/-- A ledger of a law that began in w0. -/
structure LAt (w0 : Fr) (l d : Nat) (b : Bl) (g : Nat) (L : LS) (w : World) : Prop where
  st : St w0 d b L.D w
  head : Blk w l 129 (lhead d g L)
  wri : WriAt w g L.ws
  nl : w0.w.heap.size ≤ l
  ng : w0.w.heap.size ≤ g
theorem LAt.step {w0 : Fr} {w w' : World} {l d g : Nat} {b : Bl} {L : LS} (h : LAt w0 l d b g L w) (m : Old w w') : LAt w0 l d b g L w' := ⟨h.st.step m, h.head.touch m (fun q => q), h.wri.old m, h.nl, h.ng⟩
theorem LAt.next {w0 : Fr} {w w' : World} {l d g : Nat} {b : Bl} {L : LS} {D' : DS} (h : LAt w0 l d b g L w) (m : Next w0 d D' w w') : ∃ b', LAt w0 l d b' g { L with D := D' } w' := by
  obtain ⟨b', S⟩ := m.1
  exact ⟨b', S, m.2.1.blk 129 l _ (by unfold other; decide) h.head, h.wri.kept m.2.1, h.nl, h.ng⟩
theorem St.touch {w0 : Fr} {w w' : World} {d k : Nat} {b : Bl} {D : DS} {t : TypeId} {cs : List Value} (h : St w0 d b D w) (hk : Blk w k t cs) (ht : other t) (hn : w0.w.heap.size ≤ k) (m : Touch (fun i => i = k) w w') : St w0 d b D w' :=
  ⟨h.dr.touch m (fun i hi e => h.dr.not_foot hk ht (by rw [← show i = k from e]; exact hi)), h.old.own m hn, h.new, fun p hp => ⟨(h.aside p hp).1.touch m (fun q => (h.aside p hp).1.ne hk (fun e => ht.2.2.2.2 e.symm) q), (h.aside p hp).2⟩⟩
/-- A change of the ledger itself. -/
theorem LAt.head_set {w0 : Fr} {w w' : World} {l d g : Nat} {b : Bl} {L L' : LS} (h : LAt w0 l d b g L w) (hD : L'.D = L.D) (hws : L'.ws = L.ws) (hb : Blk w' l 129 (lhead d g L')) (m : Touch (fun i => i = l) w w') : LAt w0 l d b g L' w' := by
  obtain ⟨cs, hc⟩ := h.wri.blk
  refine ⟨by rw [hD]; exact h.st.touch h.head (by unfold other; decide) h.nl m, hb, ?_, h.nl, h.ng⟩
  rw [hws]
  exact h.wri.keep (fun k ds hd => hd.touch m (hd.ne h.head (by decide))) (fun ds hd => hd.touch m (hd.ne h.head (by decide)))
/-- A change of what is written. -/
theorem LAt.wri_set {w0 : Fr} {w w' : World} {l d g : Nat} {b : Bl} {L L' : LS} (h : LAt w0 l d b g L w) (hD : L'.D = L.D) (hh : lhead d g L' = lhead d g L) (hw : WriAt w' g L'.ws) (m : Touch (fun i => i = g) w w') : LAt w0 l d b g L' w' := by
  obtain ⟨cs, hc⟩ := h.wri.blk
  exact ⟨by rw [hD]; exact h.st.touch hc (by unfold other; decide) h.ng m, by rw [hh]; exact h.head.touch m (h.head.ne hc (by decide)), hw, h.nl, h.ng⟩

/-- What a call leaves of a ledger. -/
def NextL (w0 : Fr) (l d g : Nat) (L' : LS) (w w' : World) : Prop := (∃ b', LAt w0 l d b' g L' w') ∧ KeptL w w' ∧ w.heap.size ≤ w'.heap.size
theorem NextL.trans {w0 : Fr} {w w1 w2 : World} {l d g : Nat} {L1 L2 : LS} (h : NextL w0 l d g L1 w w1) (k : NextL w0 l d g L2 w1 w2) : NextL w0 l d g L2 w w2 := ⟨k.1, h.2.1.trans k.2.1, Nat.le_trans h.2.2 k.2.2⟩
theorem LAt.same {w0 : Fr} {w : World} {l d g : Nat} {b : Bl} {L : LS} (h : LAt w0 l d b g L w) : NextL w0 l d g L w w := ⟨⟨b, h⟩, KeptL.refl w, Nat.le_refl _⟩
theorem LAt.nextL {w0 : Fr} {w w' : World} {l d g : Nat} {b : Bl} {L : LS} {D' : DS} (h : LAt w0 l d b g L w) (m : Next w0 d D' w w') : NextL w0 l d g { L with D := D' } w w' := ⟨h.next m, .of_kept m.2.1, m.2.2⟩
theorem LAt.old {w0 : Fr} {w w' : World} {l d g : Nat} {b : Bl} {L : LS} (h : LAt w0 l d b g L w) (m : Old w w') : NextL w0 l d g L w w' := ⟨⟨b, h.step m⟩, .of_old m, m.size⟩

theorem homeT_append (l : Nat) : ∀ (k : Nat) (xs ys : Wri), homeT l k (xs ++ ys) = homeT l k xs ++ homeT l (k + xs.length) ys
  | k, [], ys => rfl
  | k, none :: xs, ys => by
    show homeT l (k + 1) (xs ++ ys) = _
    rw [homeT_append l (k + 1) xs ys, List.length_cons, show k + 1 + xs.length = k + (xs.length + 1) by omega]
    rfl
  | k, some b :: xs, ys => by
    show Trn.lay (2 + l + k) b :: homeT l (k + 1) (xs ++ ys) = _
    rw [homeT_append l (k + 1) xs ys, List.length_cons, show k + 1 + xs.length = k + (xs.length + 1) by omega]
    rfl
theorem homeT_length (l : Nat) : ∀ (k : Nat) (xs : Wri), (homeT l k xs).length ≤ xs.length
  | k, [] => Nat.le_refl _
  | k, none :: xs => by have := homeT_length l (k + 1) xs; show (homeT l (k + 1) xs).length ≤ _; rw [List.length_cons]; omega
  | k, some b :: xs => by have := homeT_length l (k + 1) xs; show (_ :: homeT l (k + 1) xs).length ≤ _; rw [List.length_cons, List.length_cons]; omega
/-- What is laid home of the first k. -/
def homeTo (L : LS) (k : Nat) : List Trn := homeT L.leaves 0 (L.ws.take k)
theorem homeTo_none {L : LS} {k : Nat} (h : L.ws[k]? = some none) : homeTo L (k + 1) = homeTo L k := by
  have hl := lt_of_get h
  unfold homeTo
  rw [take_get h, homeT_append]
  exact List.append_nil _
theorem homeTo_some {L : LS} {k : Nat} {b : List Nat} (h : L.ws[k]? = some (some b)) : homeTo L (k + 1) = homeTo L k ++ [.lay (2 + L.leaves + k) b] := by
  have hl := lt_of_get h
  unfold homeTo
  rw [take_get h, homeT_append, List.length_take, Nat.min_eq_left (by omega), Nat.zero_add]
  rfl
theorem homeTo_part (L : LS) (k : Nat) : ∃ r, L.nextT = homeTo L k ++ r := by
  unfold LS.nextT homeTo
  refine ⟨homeT L.leaves (0 + (L.ws.take k).length) (L.ws.drop k) ++ beginT (L.round + 1) L.leaves, ?_⟩
  rw [← List.append_assoc, ← homeT_append, List.take_append_drop]
theorem homeTo_length (L : LS) (k : Nat) (hk : k ≤ L.ws.length) : (homeTo L k).length ≤ L.ws.length := by
  have := homeT_length L.leaves 0 (L.ws.take k)
  rw [List.length_take] at this
  unfold homeTo
  omega
theorem nextT_all (L : LS) : L.nextT = homeTo L L.ws.length ++ beginT (L.round + 1) L.leaves := by unfold LS.nextT homeTo; rw [List.take_length]

set_option maxRecDepth 100000 in
theorem wpList_clear_run {ops : Array Oper} {rest : List Oper} {o : Oper} {a : Act} {w : World} {Q : Exit → Act → World → Prop} (hgd : o.guard = none) (s : Operand) (t : TypeId)
    (ho : o.op = .call { callee := .builtin .clear, args := #[s], argTypes := #[t] }) (v : Value) (hs : a.eval s = v) (v' : Value) (w' : World)
    (hr : (Builtin.clear_ #[t] o.type #[v]).run Tryz.prog w = .ok v' w') (h : wpList Tryz.prog ops Q rest (a.put o.dst v') w') : wpList Tryz.prog ops Q (o :: rest) a w := by
  refine wpList_plain hgd fun K hK => ?_
  unfold Oper.wp execOp
  simp only [ho, resolve, invoke, builtin, Sem.run_bind, Sem.run_pure, Result.andThen_ok, List.map_toArray, List.map_cons, List.map_nil, hs, hr]
  exact hK _ _ h
theorem clear_run (w : World) (g n : Nat) (cs : List Value) (hb : Blk w g 30 cs) (hl : cs.length = n) (hn : 0 < n) (ty : TypeId) :
    (Builtin.clear_ #[54] ty #[.slice (some ⟨g, 0, none⟩) n n]).run Tryz.prog w = .ok (.tuple #[]) (w.setCells g 0 (nils n)) := by
  obtain ⟨i, hi, hz, hs, _⟩ := info_parts info30
  exact Lib.run_clear_slice w 54 30 ty (.slice none 0 0) Tryz.underlying54 (fun w => by simp [zeroValue, typeInfo, hi, hz]) rfl rfl g 0 n n hn (fun j hj => by rw [hb.cell, List.getElem?_eq_getElem (by omega)]; rfl) (fun j _ => hb.frozen _)
theorem WriAt.clear {w : World} {g n : Nat} {ws : Wri} (h : WriAt w g ws) (hn : ws.length = n) : WriAt (w.setCells g 0 (nils n)) g (List.replicate n none) := by
  obtain ⟨cs, hb, hl, _⟩ := h
  have hb' := Blk.setCells (nils n) 0 cs w hb (by simp [nils]; omega)
  have e : splice cs 0 (nils n) = nils n := by
    unfold splice
    rw [List.drop_eq_nil_of_le (by simp [nils]; omega)]
    simp
  rw [e] at hb'
  refine ⟨nils n, hb', by simp [nils], fun i x hx => ?_⟩
  have hi : i < n := by have := lt_of_get hx; simpa using this
  rw [List.getElem?_replicate, if_pos hi] at hx
  injection hx with hx
  subst hx
  exact ⟨.slice none 0 0, by simp [nils, hi], rfl⟩
end Go.Proofs.YtjajenkagcdhlaaGreat
/- The contracts of nextRound and balance. -/
namespace Go.Proofs.YtjajenkagcdhlaaGreat
open Go.RowKit
set_option maxRecDepth 100000

set_option maxHeartbeats 3200000 in
theorem nextRound_any {w0 : Fr} {w : World} {l d g : Nat} {b : Bl} {L : LS} (h : LAt w0 l d b g L w) (ok : L.Ok) (ht : L.D.turns ≤ 90000) :
    Calls Tryz.prog 78 #[.pointer (some ⟨l, 0, none⟩)] w fun e w' => e = .returned (.int .i64 L.next.D.bad) ∧ NextL w0 l d g L.next w w' := by
  have hmany := h.st.dr.ok.many
  have hlen := ok.len
  have hround := ok.round
  have hhome := ok.home
  have hc5 : w.cell? ⟨l, 5, none⟩ = some (.slice (some ⟨g, 0, none⟩) L.ws.length L.ws.length) := h.head.cell 5
  have HT := Lib.hid ht
  have HLen := Lib.hid hlen
  have H0 : Hid (NextL w0 l d g { L with D := L.D.run (homeTo L 0) } w w) := h.same
  obtain ⟨DD, hDD⟩ : ∃ DD, L.D.run L.nextT = DD := ⟨_, rfl⟩
  have HDD := Lib.hid hDD
  have HNx : Hid (L.next = if DD.down then { L with D := DD } else { L with D := DD, round := L.round + 1, posts := 0, laid := 0, ws := List.replicate L.ws.length none }) := by
    show _ = _
    unfold LS.next
    rw [hDD]
  obtain ⟨n, hn⟩ : ∃ n, L.ws.length = n := ⟨_, rfl⟩
  have HWn := Lib.hid hn
  rw [hn] at hc5 hlen hhome
  have hn5 : n ≤ 4096 := by omega
  have hl5 : L.leaves ≤ 4096 := by omega
  generalize L.next = LN at *
  clear h ok ht hDD hn
  go_enter Tryz.func78, Tryz.ntmps78
  go_wp2_with fail
  go_loopw [12] (fun i wx => ∃ k : Nat, k ≤ n ∧ i = .int .i64 k ∧ Hid (NextL w0 l d g { L with D := L.D.run (homeTo L k) } w wx)) (fun i _ => n - (intOf i).toNat)
  case atStart => exact ⟨0, by omega, rfl, H0⟩
  case round =>
    obtain ⟨k, hk, rfl, HN⟩ := hrel
    clear H0 hc5
    have htk := DS.run_turns L.D (homeTo L k)
    have hlk := DS.run_len L.D (homeTo L k)
    have hhk := homeTo_length L k (by rw [HWn.out]; exact hk)
    rw [HWn.out] at hhk
    obtain ⟨bk, AL⟩ := HN.out.1
    have HA := Lib.hid AL
    by_cases hlt : k < n
    · obtain ⟨x, hx⟩ := get_of_lt (l := L.ws) (n := k) (by rw [HWn.out]; exact hlt)
      obtain ⟨v, hcv, hsv⟩ := AL.wri.slot hx
      have HX := Lib.hid hx
      have i0 : (0 : Int) ≤ (k : Int) := by omega
      have i1 : (k : Int) < (n : Int) := by omega
      clear hx AL
      cases x with
      | none =>
        obtain rfl : v = .slice none 0 0 := hsv
        have hq := eql_nil none 0 0
        have HR : Hid (NextL w0 l d g { L with D := L.D.run (homeTo L (k + 1)) } w wr) := by
          show NextL _ _ _ _ _ _ _
          rw [homeTo_none HX.out]
          exact HN.out
        clear htk hlk hhk
        go_wp2_with fail
        exact ⟨⟨k + 1, by omega, by go_num, HR⟩, by simp [intOf]; omega⟩
      | some bs =>
        obtain ⟨h1, o1, c1, rfl, ht1, hb1⟩ := hsv
        have hq := eql_nil (some ⟨h1, o1, none⟩) 96 c1
        have HR : Hid (L.D.run (homeTo L (k + 1)) = (L.D.run (homeTo L k)).step (.lay (2 + L.leaves + k) bs)) := by show _ = _; rw [homeTo_some HX.out, DS.run_snoc]
        have HP : Hid (∃ r, DD = (L.D.run (homeTo L (k + 1))).run r) := by
          obtain ⟨r, hr⟩ := homeTo_part L (k + 1)
          exact ⟨r, by rw [← HDD.out, hr, DS.run_append]⟩
        have HTk : Hid ((L.D.run (homeTo L k)).turns ≤ 99999) := by show _ ≤ _; have := HT.out; omega
        have HLk : Hid (2 + L.leaves + k < (L.D.run (homeTo L k)).T.length) := by show _ < _; rw [hlk, HLen.out, HWn.out]; omega
        have HTr := Lib.hid ht1
        have HD : Hid (Old wr wr.drew) := (Touch.refl _ _).drew
        have HB := Lib.hid (hb1.old HD.out)
        have HSd := Lib.hid (HA.out.st.step HD.out)
        have Hhd := Lib.hid (HA.out.head.touch HD.out (fun q => q))
        have hS : Hid (wr.drew.cell? ⟨l, 0, none⟩ = some (.pointer (some ⟨d, 0, none⟩))) := Hhd.out.cell 0
        have hc0 : wr.cell? ⟨l, 0, none⟩ = some (.pointer (some ⟨d, 0, none⟩)) := HA.out.head.cell 0
        have HTrk := Lib.hid (homeTrack_any Hhd.out k (by show L.leaves ≤ 5000; omega) (by omega))
        have HAL := Lib.hid (HA.out.step HD.out)
        clear hb1 ht1 htk hlk hhk
        go_wp2_with fail
        go_cut [5] (fun v wx => ∃ D1, v = .int .i64 (D1.bad : Int) ∧ Hid (L.D.run (homeTo L (k + 1)) = D1 ∧ NextL w0 l d g { L with D := D1 } w wx))
        case first =>
          go_region_held3 (fun w' => w'.cell? ⟨l, 0, none⟩ = some (.pointer (some ⟨d, 0, none⟩))) (first | exact hS.out | exact hS2.out)
            (first | (go_at_call 79; refine HTrk.out.mono ?_; rintro x w' ⟨rfl, rfl⟩)
                   | (go_at_call 29; refine (lay_byt HSd.out HTk.out (2 + L.leaves + k) _ bs HLk.out HTr.out.len HB.out c1).mono ?_; rintro x w2 ⟨rfl, N2⟩
                      rw [← HR.out] at N2 ⊢
                      have hS2 : Hid (w2.cell? ⟨l, 0, none⟩ = some (.pointer (some ⟨d, 0, none⟩))) := (N2.2.1.blk 129 l _ (by unfold other; decide) Hhd.out).cell 0
                      have HN2 := Lib.hid (HN.out.trans (NextL.trans (HA.out.old HD.out) (HAL.out.nextL N2)))
                      clear N2))
          all_goals
            rename_i hHeld
            clear hHeld
            go_wp2_with fail
            go_meet
            exact ⟨_, rfl, rfl, HN2.out⟩
        case rest =>
          obtain ⟨D1, rfl, HN1⟩ := hcut
          clear HN HA HR HTk HLk HTr HD HB HSd Hhd hS hc0 HTrk HAL hcv hq
          cases hd : D1.down with
          | true =>
            rw [bad_down hd]
            have HE : Hid (LN = { L with D := D1 }) := by
              obtain ⟨r, hr⟩ := HP.out
              have e1 : DD = D1 := by rw [hr, HN1.out.1, DS.run_down hd]
              show _ = _
              rw [HNx.out, e1, hd]
              rfl
            have HB := Lib.hid (bad_down hd)
            clear hd HP HNx
            go_wp2_with fail
            go_ret
            refine ⟨?_, ?_⟩
            · rw [HE.out]; show _ = Ending.returned (.int .i64 (D1.bad : Int)); rw [HB.out]; rfl
            · rw [HE.out]; exact HN1.out.2
          | false =>
            rw [bad_up hd]
            clear hd HP
            have HN' : Hid (NextL w0 l d g { L with D := L.D.run (homeTo L (k + 1)) } w wc) := by show NextL _ _ _ _ _ _ _; rw [HN1.out.1]; exact HN1.out.2
            clear HN1
            go_wp2_with fail
            exact ⟨⟨k + 1, by omega, by go_num, HN'⟩, by simp [intOf]; omega⟩
    · obtain rfl : k = n := by omega
      have HR : Hid (DD = (L.D.run (homeTo L k)).run (beginT (L.round + 1) L.leaves)) := by show _ = _; rw [← HDD.out, nextT_all, DS.run_append, HWn.out]
      have HTk : Hid ((L.D.run (homeTo L k)).turns ≤ 99990) := by show _ ≤ _; have := HT.out; omega
      have HD : Hid (Old wr wr.drew) := (Touch.refl _ _).drew
      have HSd := Lib.hid (HA.out.st.step HD.out)
      have Hhd := Lib.hid (HA.out.head.touch HD.out (fun q => q))
      have hS : Hid (wr.drew.cell? ⟨l, 0, none⟩ = some (.pointer (some ⟨d, 0, none⟩)) ∧ wr.drew.cell? ⟨l, 2, none⟩ = some (.int .i64 (L.round : Int)) ∧ wr.drew.cell? ⟨l, 1, none⟩ = some (.int .i64 (L.leaves : Int))) := ⟨Hhd.out.cell 0, Hhd.out.cell 2, Hhd.out.cell 1⟩
      have HAL := Lib.hid (HA.out.step HD.out)
      have HBg := Lib.hid (begin_any HSd.out HTk.out (L.round + 1) L.leaves (by omega) (by omega))
      have hw1 : IntKind.i64.wrap ((L.round : Int) + 1) = (L.round : Int) + 1 := wrap_fits ⟨by omega, by omega⟩
      have hcast : ((L.round + 1 : Nat) : Int) = (L.round : Int) + 1 := by omega
      rw [hcast] at HBg
      clear AL htk hlk hhk hcast
      go_wp2_with fail
      go_cut [6] (fun v wx => v = .int .i64 (DD.bad : Int) ∧ Hid (NextL w0 l d g { L with D := DD } w wx))
      case first =>
        go_region_held3 (fun w' => w'.cell? ⟨l, 0, none⟩ = some (.pointer (some ⟨d, 0, none⟩)) ∧ w'.cell? ⟨l, 2, none⟩ = some (.int .i64 (L.round : Int)) ∧ w'.cell? ⟨l, 1, none⟩ = some (.int .i64 (L.leaves : Int))) (first | exact hS.out | exact hS2.out)
          (first | (go_at_call 91; refine HBg.out.mono ?_; rintro x w2 ⟨rfl, N2⟩
                    rw [← HR.out] at N2 ⊢
                    have Hh2 := N2.2.1.blk 129 l _ (by unfold other; decide) Hhd.out
                    have hS2 := Lib.hid (And.intro (Hh2.cell 0) (And.intro (Hh2.cell 2) (Hh2.cell 1)))
                    have HN2 := Lib.hid (HN.out.trans (NextL.trans (HA.out.old HD.out) (HAL.out.nextL N2)))
                    clear N2 Hh2))
        all_goals
          rename_i hHeld
          clear hHeld
          go_wp2_with fail
          go_meet
          exact ⟨rfl, HN2⟩
      case rest =>
        obtain ⟨rfl, HN1⟩ := hcut
        clear HN HA HR HTk HD HSd Hhd hS HBg HAL
        cases hd : DD.down with
        | true =>
          rw [bad_down hd]
          have HE : Hid (LN = { L with D := DD }) := by show _ = _; rw [HNx.out, hd]; rfl
          have HB := Lib.hid (bad_down hd)
          clear hd HNx
          go_wp2_with fail
          go_ret
          refine ⟨?_, ?_⟩
          · rw [HE.out]; show _ = Ending.returned (.int .i64 (DD.bad : Int)); rw [HB.out]; rfl
          · rw [HE.out]; exact HN1.out
        | false =>
          rw [bad_up hd]
          have HE : Hid (LN = { L with D := DD, round := L.round + 1, posts := 0, laid := 0, ws := List.replicate k none }) := by show _ = _; rw [HNx.out, hd, HWn.out]; rfl
          have HB := Lib.hid (bad_up hd)
          obtain ⟨b1, A1⟩ := HN1.out.1
          have hh : Blk wc l 129 (lhead d g L) := A1.head
          have hf2 := hh.frozen 2
          have hf3 := hh.frozen 3
          have hf4 := hh.frozen 4
          have hc2 : wc.cell? ⟨l, 2, none⟩ = some (.int .i64 (L.round : Int)) := hh.cell 2
          have hc3 : wc.cell? ⟨l, 3, none⟩ = some (.int .i64 (L.posts : Int)) := hh.cell 3
          have hc4 : wc.cell? ⟨l, 4, none⟩ = some (.int .i64 (L.laid : Int)) := hh.cell 4
          have hc5 : wc.cell? ⟨l, 5, none⟩ = some (.slice (some ⟨g, 0, none⟩) k k) := by have := hh.cell 5; rw [this]; show some (Value.slice _ L.ws.length L.ws.length) = _; rw [HWn.out]
          have hb3 : Blk (((wc.setCell ⟨l, 2, none⟩ (.int .i64 ((L.round : Int) + 1))).setCell ⟨l, 3, none⟩ (.int .i64 0)).setCell ⟨l, 4, none⟩ (.int .i64 0)) l 129 (lhead d g { L with D := DD, round := L.round + 1, posts := 0, laid := 0 }) := by
            have := ((hh.set 2 (.int .i64 ((L.round : Int) + 1))).set 3 (.int .i64 0)).set 4 (.int .i64 0)
            exact this
          have T3 : Touch (fun i => i = l) wc (((wc.setCell ⟨l, 2, none⟩ (.int .i64 ((L.round : Int) + 1))).setCell ⟨l, 3, none⟩ (.int .i64 0)).setCell ⟨l, 4, none⟩ (.int .i64 0)) := ((Touch.one ⟨l, 2, none⟩ _).trans (Touch.one ⟨l, 3, none⟩ _)).trans (Touch.one ⟨l, 4, none⟩ _)
          have A3 : LAt w0 l d b1 g { L with D := DD, round := L.round + 1, posts := 0, laid := 0 } (((wc.setCell ⟨l, 2, none⟩ (.int .i64 ((L.round : Int) + 1))).setCell ⟨l, 3, none⟩ (.int .i64 0)).setCell ⟨l, 4, none⟩ (.int .i64 0)) := A1.head_set rfl rfl hb3 T3
          obtain ⟨cs, hbg, hgl, hgs⟩ := A3.wri
          have hcl := fun ty => clear_run _ g k cs hbg (by rw [hgl]; exact HWn.out) (by omega) ty
          have HW4 := Lib.hid (A3.wri.clear (n := k) HWn.out)
          have HA3 := Lib.hid A3
          have HK3 := Lib.hid (KeptL.of_touch hh (.inl rfl) T3)
          have HKg := Lib.hid hbg
          have HSz := Lib.hid T3.size
          clear hd HNx A1 A3 hgl hgs hb3 T3 hbg hh
          go_wp2_with (first | (at_builtin; refine wpList_clear_run rfl _ 54 rfl _ rfl _ _ (hcl _) ?_))
          go_ret
          have T4 := setCells_touch g (nils k) 0 (((wc.setCell ⟨l, 2, none⟩ (.int .i64 ((L.round : Int) + 1))).setCell ⟨l, 3, none⟩ (.int .i64 0)).setCell ⟨l, 4, none⟩ (.int .i64 0))
          rw [HE.out]
          refine ⟨?_, ⟨b1, HA3.out.wri_set rfl ?_ HW4.out T4⟩, (HN1.out.2.1.trans HK3.out).trans (KeptL.of_touch HKg.out (.inr rfl) T4), Nat.le_trans HN1.out.2.2 (Nat.le_trans HSz.out T4.size)⟩
          · show _ = Ending.returned (.int .i64 (DD.bad : Int)); rw [HB.out]; rfl
          · unfold lhead; simp [HWn.out]

set_option maxHeartbeats 1600000 in
theorem balance_any {w0 : Fr} {w : World} {l d g : Nat} {b : Bl} {L : LS} (h : LAt w0 l d b g L w) (ok : L.Ok) (ht : L.D.turns ≤ 80000) :
    Calls Tryz.prog 85 #[.pointer (some ⟨l, 0, none⟩)] w fun e w' => e = .returned (.int .i64 L.balanced.D.bad) ∧ NextL w0 l d g L.balanced w w' := by
  have hc0 : w.cell? ⟨l, 0, none⟩ = some (.pointer (some ⟨d, 0, none⟩)) := h.head.cell 0
  have H := Lib.hid h
  have HO := Lib.hid ok
  have HT := Lib.hid ht
  have hst := DS.step_turns L.D .settle
  have hsl := DS.step_len L.D .settle
  have HB : Hid (L.balanced = if (L.D.step .settle).down then { L with D := L.D.step .settle } else { L with D := L.D.step .settle : LS }.next) := rfl
  clear h ok ht
  generalize L.balanced = LB at *
  go_enter Tryz.func85, Tryz.ntmps85
  go_wp2_with fail
  refine (settle_turn H.out.st (by have := HT.out; omega)).mono ?_
  rintro x w1 ⟨rfl, N1⟩
  have HN1 := Lib.hid (H.out.nextL N1)
  have HT1 : Hid ((L.D.step .settle).turns ≤ 90000) := by show _ ≤ _; have := HT.out; omega
  have HO1 : Hid (LS.Ok { L with D := L.D.step .settle }) := ⟨HO.out.leaves, HO.out.home, by show (L.D.step .settle).T.length = _; rw [hsl]; exact HO.out.len, HO.out.laid, HO.out.round, HO.out.posts⟩
  clear N1 H HO HT hst hsl hc0
  generalize L.D.step .settle = D1 at *
  cases hd : D1.down with
  | true =>
    rw [bad_down hd]
    have HE : Hid (LB = { L with D := D1 }) := by show _ = _; rw [HB.out, hd]; rfl
    have HBd := Lib.hid (bad_down hd)
    clear hd HB
    go_wp2_with fail
    go_ret
    refine ⟨?_, ?_⟩
    · rw [HE.out]; show _ = Ending.returned (.int .i64 (D1.bad : Int)); rw [HBd.out]; rfl
    · rw [HE.out]; exact HN1.out
  | false =>
    rw [bad_up hd]
    have HE : Hid (LB = { L with D := D1 : LS }.next) := by show _ = _; rw [HB.out, hd]; rfl
    clear hd HB
    obtain ⟨b1, A1⟩ := HN1.out.1
    have HA1 := Lib.hid A1
    clear A1
    go_wp2_with fail
    refine (nextRound_any HA1.out HO1.out HT1.out).mono ?_
    rintro x w2 ⟨rfl, N2⟩
    rw [← HE.out] at N2 ⊢
    have HN2 := Lib.hid (HN1.out.trans N2)
    clear N2
    go_wp2_with fail
    go_ret
    exact ⟨rfl, HN2.out⟩
end Go.Proofs.YtjajenkagcdhlaaGreat
/- The contract of a ledger's post. -/
namespace Go.Proofs.YtjajenkagcdhlaaGreat
open Go.RowKit
set_option maxRecDepth 100000

theorem leafT_append : ∀ (k : Nat) (xs ys : List (List Nat)), leafT k (xs ++ ys) = leafT k xs ++ leafT (k + xs.length) ys
  | k, [], ys => rfl
  | k, b :: xs, ys => by
    show Trn.lay k b :: leafT (k + 1) (xs ++ ys) = _
    rw [leafT_append (k + 1) xs ys, List.length_cons, show k + 1 + xs.length = k + (xs.length + 1) by omega]
    rfl
theorem leafT_length : ∀ (k : Nat) (xs : List (List Nat)), (leafT k xs).length = xs.length
  | k, [] => rfl
  | k, b :: xs => by show (_ :: leafT (k + 1) xs).length = _; rw [List.length_cons, leafT_length (k + 1) xs, List.length_cons]
theorem leafT_next {k i : Nat} {xs : List (List Nat)} {b : List Nat} (h : xs[i]? = some b) : leafT k (xs.take (i + 1)) = leafT k (xs.take i) ++ [.lay (k + i) b] := by
  have hl := lt_of_get h
  rw [take_get h, leafT_append, List.length_take, Nat.min_eq_left (by omega)]
  rfl
theorem leafT_part (k i : Nat) (xs : List (List Nat)) : ∃ r, leafT k xs = leafT k (xs.take i) ++ r := ⟨leafT (k + (xs.take i).length) (xs.drop i), by rw [← leafT_append, List.take_append_drop]⟩

theorem next_down {L : LS} (h : (L.D.run L.nextT).down = true) : L.next = { L with D := L.D.run L.nextT } := by unfold LS.next; simp only [h, if_true]
theorem next_up {L : LS} (h : (L.D.run L.nextT).down = false) : L.next = { L with D := L.D.run L.nextT, round := L.round + 1, posts := 0, laid := 0, ws := List.replicate L.ws.length none } := by unfold LS.next; simp only [h, Bool.false_eq_true, if_false]
theorem next_D (L : LS) : L.next.D = L.D.run L.nextT := by
  cases h : (L.D.run L.nextT).down with
  | true => rw [next_down h]
  | false => rw [next_up h]
theorem next_len (L : LS) : L.next.D.T.length = L.D.T.length := by rw [next_D]; exact DS.run_len _ _
theorem next_leaves (L : LS) : L.next.leaves = L.leaves := by
  cases h : (L.D.run L.nextT).down with
  | true => rw [next_down h]
  | false => rw [next_up h]
theorem next_home (L : LS) : L.next.ws.length = L.ws.length := by
  cases h : (L.D.run L.nextT).down with
  | true => rw [next_down h]
  | false => rw [next_up h]; simp
theorem next_lost (L : LS) : L.next.lost = L.lost := by
  cases h : (L.D.run L.nextT).down with
  | true => rw [next_down h]
  | false => rw [next_up h]
theorem next_round (L : LS) : L.next.round ≤ L.round + 1 := by
  cases h : (L.D.run L.nextT).down with
  | true => rw [next_down h]; exact Nat.le_succ _
  | false => rw [next_up h]; exact Nat.le_refl _
theorem nextT_length (L : LS) : L.nextT.length ≤ L.ws.length + 3 := by
  have := homeT_length L.leaves 0 L.ws
  unfold LS.nextT beginT
  rw [List.length_append]
  simp
  omega
theorem next_turns (L : LS) : L.next.D.turns ≤ L.D.turns + L.ws.length + 3 := by
  have h1 := DS.run_turns L.D L.nextT
  have h2 := nextT_length L
  rw [next_D]
  omega
theorem LS.Ok.next {L : LS} (h : L.Ok) (hr : L.round < 1000000000000) : L.next.Ok := by
  refine ⟨by rw [next_leaves]; exact h.leaves, by rw [next_home]; exact h.home, by rw [next_len, next_leaves, next_home]; exact h.len, ?_, Nat.le_trans (next_round L) hr, ?_⟩
  · cases hd : (L.D.run L.nextT).down with
    | true => rw [next_down hd]; exact h.laid
    | false => rw [next_up hd]; exact Nat.zero_le _
  · cases hd : (L.D.run L.nextT).down with
    | true => rw [next_down hd]; exact h.posts
    | false => rw [next_up hd]; exact Nat.zero_le _
theorem LS.Ok.with {L : LS} (h : L.Ok) {D : DS} (hD : D.T.length = L.D.T.length) : LS.Ok { L with D := D } := ⟨h.leaves, h.home, by show D.T.length = _; rw [hD]; exact h.len, h.laid, h.round, h.posts⟩
theorem LS.Ok.balanced {L : LS} (h : L.Ok) (hr : L.round < 1000000000000) : L.balanced.Ok := by
  unfold LS.balanced
  split
  · exact h.with (DS.step_len _ _)
  · exact (h.with (DS.step_len _ _)).next hr
theorem balanced_turns (L : LS) : L.balanced.D.turns ≤ L.D.turns + L.ws.length + 4 := by
  have h1 := DS.step_turns L.D .settle
  unfold LS.balanced
  split
  · show (L.D.step .settle).turns ≤ _; omega
  · have := next_turns { L with D := L.D.step .settle }
    simp only at this
    omega
theorem balanced_leaves (L : LS) : L.balanced.leaves = L.leaves := by unfold LS.balanced; split; rfl; rw [next_leaves]
theorem balanced_home (L : LS) : L.balanced.ws.length = L.ws.length := by unfold LS.balanced; split; rfl; rw [next_home]
theorem balanced_lost (L : LS) : L.balanced.lost = L.lost := by unfold LS.balanced; split; rfl; rw [next_lost]
/-- Balanced, all leaves are blank. -/
theorem balanced_laid {L : LS} (h : L.balanced.D.down = false) : L.balanced.laid = 0 ∧ L.balanced.posts = 0 := by
  unfold LS.balanced at h ⊢
  cases hs : (L.D.step .settle).down with
  | true =>
    rw [hs, if_pos rfl] at h
    rw [show ({ L with D := L.D.step .settle } : LS).D.down = (L.D.step .settle).down from rfl, hs] at h
    cases h
  | false =>
    rw [hs, if_neg (by simp)] at h
    rw [if_neg (by simp)]
    rw [next_D] at h
    rw [next_up h]
    exact ⟨rfl, rfl⟩

set_option maxHeartbeats 6400000 in
theorem post_any {w0 : Fr} {w : World} {l d g : Nat} {b : Bl} {L : LS} (h : LAt w0 l d b g L w) (ok : L.Ok) (hr : L.round < 1000000000000) (hp : L.posts < 1000000) (ht : L.D.turns ≤ 70000) (a : Option Addr) (e : List Ent) (len cap : Nat) (En : Ents w a e) (hlen : e.length = len) (hG : Goes e L.ws.length) (hroom : leavesOf len ≤ L.leaves) :
    Calls Tryz.prog 75 #[.pointer (some ⟨l, 0, none⟩), .slice a len cap] w fun x w' => x = .returned (.int .i64 (L.post e).D.bad) ∧ NextL w0 l d g (L.post e) w w' := by
  have hmany := h.st.dr.ok.many
  have hokl := ok.len
  have hlm : len ≤ 4096 := by
    rcases Nat.eq_zero_or_pos len with q | q
    · omega
    · have := leavesOf_pos q
      omega
  have H := Lib.hid h
  have HO := Lib.hid ok
  have HT := Lib.hid ht
  have HE := Lib.hid En
  have HL := Lib.hid hlen
  have HG := Lib.hid hG
  have HLv := Lib.hid (leaves_any len w (by omega))
  have HBk := Lib.hid (blank_any h.head ok.laid (by omega))
  obtain ⟨LP, hLP⟩ : ∃ LP, L.post e = LP := ⟨_, rfl⟩
  have HLP := Lib.hid hLP
  rw [hLP]
  obtain ⟨m, hm⟩ : ∃ m, leavesOf len = m := ⟨_, rfl⟩
  have HMm := Lib.hid hm
  rw [hm] at HLv hroom
  have hml : L.laid ≤ L.leaves := ok.laid
  clear h ok ht En hG hLP hm
  go_enter Tryz.func75, Tryz.ntmps75
  go_wp2_with fail
  refine HLv.out.mono ?_
  rintro x w' ⟨rfl, rfl⟩
  go_wp2_with fail
  refine HBk.out.mono ?_
  rintro x w1 ⟨rfl, O1⟩
  have HA1 := Lib.hid (H.out.step O1)
  have HN1 := Lib.hid (H.out.old O1)
  clear O1 HLv HBk
  by_cases hbal : L.leaves - L.laid < m
  · have hb' : ((L.leaves - L.laid : Nat) : Int) < (m : Int) := by omega
    have HLB : Hid (LP = if L.balanced.D.down then L.balanced else L.balanced.layP e) := by
      show _ = _
      rw [← HLP.out]
      unfold LS.post
      rw [HL.out, HMm.out, if_pos hbal]
    go_wp2_with fail
    refine (balance_any HA1.out HO.out (by have := HT.out; omega)).mono ?_
    rintro x w2 ⟨rfl, N2⟩
    have HN2 := Lib.hid (HN1.out.trans N2)
    clear N2
    cases hd : L.balanced.D.down with
    | true =>
      rw [bad_down hd]
      have HE' : Hid (LP = L.balanced) := by show _ = _; rw [HLB.out, hd]; rfl
      have HBd := Lib.hid (bad_down hd)
      clear hd HLB
      go_wp2_with fail
      go_ret
      refine ⟨?_, ?_⟩
      · rw [HE'.out, HBd.out]; rfl
      · rw [HE'.out]; exact HN2.out
    | false =>
      rw [bad_up hd]
      have HLB' : Hid (LP = L.balanced.layP e) := by show _ = _; rw [HLB.out, hd]; rfl
      have hbl := balanced_laid hd
      have HO1 := Lib.hid (HO.out.balanced hr)
      have HT1 : Hid (L.balanced.D.turns ≤ 80000) := by show _ ≤ _; have := balanced_turns L; have := HT.out; omega
      have HW1 := Lib.hid (balanced_home L)
      have HRm : Hid (L.balanced.laid + m ≤ L.balanced.leaves) := by show _ ≤ _; rw [hbl.1, balanced_leaves]; omega
      have hr1 : L.balanced.round ≤ 1000000000000 := HO1.out.round
      have hp1 : L.balanced.posts < 1000000 := by rw [hbl.2]; omega
      have hl1 : L.balanced.leaves ≤ 4096 := by rw [balanced_leaves]; omega
      clear hd HLB hbl hb'
      have HLB := HLB'
      clear HLB'
      generalize L.balanced = L1 at *
      obtain ⟨b1, A1⟩ := HN2.out.1
      have HA := Lib.hid A1
      have HD : Hid (Old w2 w2.drew) := (Touch.refl _ _).drew
      have HAd := Lib.hid (A1.step HD.out)
      have Hhd := Lib.hid HAd.out.head
      have HEn := Lib.hid ((HE.out.keptL HN2.out.2.1).old HD.out)
      have hS : Hid (w2.drew.cell? ⟨l, 2, none⟩ = some (.int .i64 (L1.round : Int)) ∧ w2.drew.cell? ⟨l, 3, none⟩ = some (.int .i64 (L1.posts : Int))) := ⟨Hhd.out.cell 2, Hhd.out.cell 3⟩
      have HLt := Lib.hid (layText_any a e len cap L1.round (L1.posts + 1) w2.drew HEn.out HL.out (by rw [← HL.out]; exact HG.out.2.2) (by omega) (fun x hx => (HG.out.1 x hx).2) (fun x hx => by have := (HG.out.1 x hx).1; omega) (by omega) (by omega))
      rw [HMm.out] at HLt
      have hcast : ((L1.posts + 1 : Nat) : Int) = (L1.posts : Int) + 1 := by omega
      rw [hcast] at HLt
      have hw1 : IntKind.i64.wrap ((L1.posts : Int) + 1) = (L1.posts : Int) + 1 := wrap_fits ⟨by omega, by omega⟩
      obtain ⟨PP, hPP⟩ : ∃ PP, posting L1.round (L1.posts + 1) e = PP := ⟨_, rfl⟩
      have HPP := Lib.hid hPP
      have HPl : Hid (PP.length = m) := by show _ = _; rw [← hPP]; unfold posting; rw [List.length_map, List.length_range, HL.out, HMm.out]
      rw [hPP] at HLt
      obtain ⟨DD, hDD⟩ : ∃ DD, L1.D.run (leafT (2 + L1.laid) PP) = DD := ⟨_, rfl⟩
      have HDD := Lib.hid hDD
      have HLQ : Hid (LP = if DD.down then { L1 with D := DD } else { L1 with D := DD, posts := L1.posts + 1, laid := L1.laid + m, ws := took L1.ws e }) := by
        show _ = _
        rw [HLB.out]
        unfold LS.layP
        rw [hPP, hDD, HL.out, HMm.out]
      clear A1 hPP hDD hcast HLB HLP HN1 HA1
      go_wp2_with fail
      go_cut [6] (fun v wx => ∃ g3, v = .slice (some ⟨g3, 0, none⟩) m m ∧ Hid (NextL w0 l d g L1 w wx ∧ Pgs wx (some ⟨g3, 0, none⟩) PP))
      case first =>
        go_region_held3 (fun w' => w'.cell? ⟨l, 2, none⟩ = some (.int .i64 (L1.round : Int)) ∧ w'.cell? ⟨l, 3, none⟩ = some (.int .i64 (L1.posts : Int))) (first | exact hS.out | exact hS2.out)
          (first | (go_at_call 98; refine HLt.out.mono ?_; rintro x w3 ⟨g3, rfl, hg3, P3, O3⟩
                    have Hh3 := Hhd.out.touch O3 (fun q => q)
                    have hS2 := Lib.hid (And.intro (Hh3.cell 2) (Hh3.cell 3))
                    have HN3 := Lib.hid (HN2.out.trans (HA.out.old (HD.out.trans O3)))
                    have HP3 := Lib.hid P3
                    clear P3 O3 hg3 Hh3))
        all_goals
          rename_i hHeld
          clear hHeld
          go_wp2_with fail
          go_meet
          exact ⟨_, rfl, HN3.out, HP3.out⟩
      case rest =>
        obtain ⟨g3, rfl, HC⟩ := hcut
        have HN3 := Lib.hid HC.out.1
        have HP3 := Lib.hid HC.out.2
        clear HC HN2 HA HD HAd Hhd HEn hS HLt
        have H0 : Hid (NextL w0 l d g { L1 with D := L1.D.run (leafT (2 + L1.laid) (PP.take 0)) } w wc) := HN3.out
        go_wp2_with fail
        go_loopw [34] (fun i wx => ∃ k : Nat, k ≤ m ∧ i = .int .i64 k ∧ Hid (NextL w0 l d g { L1 with D := L1.D.run (leafT (2 + L1.laid) (PP.take k)) } w wx ∧ Pgs wx (some ⟨g3, 0, none⟩) PP ∧ (k = 0 ∨ (L1.D.run (leafT (2 + L1.laid) (PP.take k))).down = false))) (fun i _ => m - (intOf i).toNat)
        case atStart => exact ⟨0, by omega, rfl, H0.out, HP3.out, .inl rfl⟩
        case round =>
          obtain ⟨k, hk, rfl, HC⟩ := hrel
          have HN := Lib.hid HC.out.1
          have HP := Lib.hid HC.out.2.1
          have HZk := Lib.hid HC.out.2.2
          clear HC H0 HN3 HP3
          have htk := DS.run_turns L1.D (leafT (2 + L1.laid) (PP.take k))
          have hlk := DS.run_len L1.D (leafT (2 + L1.laid) (PP.take k))
          rw [leafT_length, List.length_take, HPl.out] at htk
          obtain ⟨bk, AL⟩ := HN.out.1
          have HA := Lib.hid AL
          clear AL
          by_cases hlt : k < m
          · obtain ⟨y, hy⟩ := get_of_lt (l := PP) (n := k) (by rw [HPl.out]; exact hlt)
            obtain ⟨b3, o3, py, ee, hcy, hy96, hyB⟩ := HP.out.pg k y hy
            cases ee
            rw [Nat.zero_add] at hcy
            have i0 : (0 : Int) ≤ (k : Int) := by omega
            have i1 : (k : Int) < (m : Int) := by omega
            have HR : Hid (L1.D.run (leafT (2 + L1.laid) (PP.take (k + 1))) = (L1.D.run (leafT (2 + L1.laid) (PP.take k))).step (.lay (2 + L1.laid + k) y)) := by show _ = _; rw [leafT_next hy, DS.run_snoc]
            have HPt : Hid (∃ r, DD = (L1.D.run (leafT (2 + L1.laid) (PP.take (k + 1)))).run r) := by
              obtain ⟨r, hr⟩ := leafT_part (2 + L1.laid) (k + 1) PP
              exact ⟨r, by rw [← HDD.out, ← DS.run_append, ← hr]⟩
            have HTk : Hid ((L1.D.run (leafT (2 + L1.laid) (PP.take k))).turns ≤ 99999) := by show _ ≤ _; have := HT1.out; omega
            have HLk : Hid (2 + L1.laid + k < (L1.D.run (leafT (2 + L1.laid) (PP.take k))).T.length) := by show _ < _; rw [hlk, HO1.out.len]; have := HRm.out; omega
            have HY := Lib.hid hy96
            have HD : Hid (Old wr wr.drew) := (Touch.refl _ _).drew
            have HB := Lib.hid (hyB.old HD.out)
            have HSd := Lib.hid (HA.out.st.step HD.out)
            have Hhd := Lib.hid (HA.out.head.touch HD.out (fun q => q))
            have HPd := Lib.hid (HP.out.old HD.out)
            have hS : Hid (wr.drew.cell? ⟨l, 0, none⟩ = some (.pointer (some ⟨d, 0, none⟩)) ∧ wr.drew.cell? ⟨l, 4, none⟩ = some (.int .i64 (L1.laid : Int))) := ⟨Hhd.out.cell 0, Hhd.out.cell 4⟩
            have HAL := Lib.hid (HA.out.step HD.out)
            have hlv := HRm.out
            have j1 : IntKind.i64.wrap (2 + (L1.laid : Int)) = 2 + (L1.laid : Int) := wrap_fits ⟨by omega, by omega⟩
            have j2 : IntKind.i64.wrap (2 + (L1.laid : Int) + (k : Int)) = 2 + (L1.laid : Int) + (k : Int) := wrap_fits ⟨by omega, by omega⟩
            have HLay := Lib.hid (lay_byt HSd.out HTk.out (2 + L1.laid + k) py y HLk.out HY.out HB.out 96)
            have hcast : ((2 + L1.laid + k : Nat) : Int) = 2 + (L1.laid : Int) + (k : Int) := by omega
            rw [hcast] at HLay
            clear hyB hy96 hy htk hlk hcast
            go_wp2_with fail
            go_cut [9] (fun v wx => ∃ D1, v = .int .i64 (D1.bad : Int) ∧ Hid (L1.D.run (leafT (2 + L1.laid) (PP.take (k + 1))) = D1 ∧ NextL w0 l d g { L1 with D := D1 } w wx ∧ Pgs wx (some ⟨g3, 0, none⟩) PP))
            case first =>
              go_region_held3 (fun w' => w'.cell? ⟨l, 0, none⟩ = some (.pointer (some ⟨d, 0, none⟩)) ∧ w'.cell? ⟨l, 4, none⟩ = some (.int .i64 (L1.laid : Int))) (first | exact hS.out | exact hS2.out)
                (first | (go_at_call 29; refine HLay.out.mono ?_; rintro x w4 ⟨rfl, N4⟩
                          rw [← HR.out] at N4 ⊢
                          have Hh4 := N4.2.1.blk 129 l _ (by unfold other; decide) Hhd.out
                          have hS2 := Lib.hid (And.intro (Hh4.cell 0) (Hh4.cell 4))
                          have HN4 := Lib.hid (HN.out.trans (NextL.trans (HA.out.old HD.out) (HAL.out.nextL N4)))
                          have HP4 := Lib.hid (HPd.out.kept N4.2.1)
                          clear N4 Hh4))
              all_goals
                rename_i hHeld
                clear hHeld
                go_wp2_with fail
                go_meet
                exact ⟨_, rfl, rfl, HN4.out, HP4.out⟩
            case rest =>
              obtain ⟨D1, rfl, HN1⟩ := hcut
              clear HN HA HR HTk HLk HY HD HB HSd Hhd hS HAL HPd HLay HP hcy j1 j2
              cases hd : D1.down with
              | true =>
                rw [bad_down hd]
                have HE' : Hid (LP = { L1 with D := D1 }) := by
                  obtain ⟨r, hr⟩ := HPt.out
                  have e1 : DD = D1 := by rw [hr, HN1.out.1, DS.run_down hd]
                  show _ = _
                  rw [HLQ.out, e1, hd]
                  rfl
                have HBd := Lib.hid (bad_down hd)
                clear hd HPt HLQ
                go_wp2_with fail
                go_ret
                refine ⟨?_, ?_⟩
                · rw [HE'.out]; show _ = Ending.returned (.int .i64 (D1.bad : Int)); rw [HBd.out]; rfl
                · rw [HE'.out]; exact HN1.out.2.1
              | false =>
                rw [bad_up hd]
                have HN' : Hid (NextL w0 l d g { L1 with D := L1.D.run (leafT (2 + L1.laid) (PP.take (k + 1))) } w wc ∧ Pgs wc (some ⟨g3, 0, none⟩) PP ∧ (k + 1 = 0 ∨ (L1.D.run (leafT (2 + L1.laid) (PP.take (k + 1)))).down = false)) := by show _ ∧ _; rw [HN1.out.1]; exact ⟨HN1.out.2.1, HN1.out.2.2, .inr hd⟩
                clear HN1 hd HPt
                go_wp2_with fail
                exact ⟨⟨k + 1, by omega, by go_num, HN'⟩, by simp [intOf]; omega⟩
          · obtain rfl : k = m := by omega
            have HN' : Hid (NextL w0 l d g { L1 with D := DD } w wr) := by
              show NextL _ _ _ _ _ _ _
              have := HN.out
              rw [List.take_of_length_le (by rw [HPl.out]; exact Nat.le_refl _), HDD.out] at this
              exact this
            obtain ⟨b4, A4⟩ := HN'.out.1
            have hh : Blk wr l 129 (lhead d g L1) := A4.head
            have hc3 : wr.cell? ⟨l, 3, none⟩ = some (.int .i64 (L1.posts : Int)) := hh.cell 3
            have hc4 : wr.cell? ⟨l, 4, none⟩ = some (.int .i64 (L1.laid : Int)) := hh.cell 4
            have hf3 := hh.frozen 3
            have hf4 := hh.frozen 4
            have hdn : DD.down = false := by
              rcases HZk.out with q | q
              · have := leavesOf_two (n := len) (by rw [← HL.out]; exact HG.out.2.2)
                rw [HMm.out] at this
                omega
              · rw [List.take_of_length_le (by rw [HPl.out]; exact Nat.le_refl _), HDD.out] at q
                exact q
            have HE' : Hid (LP = { L1 with D := DD, posts := L1.posts + 1, laid := L1.laid + k, ws := took L1.ws e }) := by show _ = _; rw [HLQ.out, hdn]; rfl
            have HBd := Lib.hid (bad_up hdn)
            have hlv := HRm.out
            have hb2 : Blk ((wr.setCell ⟨l, 3, none⟩ (.int .i64 ((L1.posts : Int) + 1))).setCell ⟨l, 4, none⟩ (.int .i64 ((L1.laid : Int) + (k : Int)))) l 129 (lhead d g { L1 with D := DD, posts := L1.posts + 1, laid := L1.laid + k }) := by
              have := (hh.set 3 (.int .i64 ((L1.posts : Int) + 1))).set 4 (.int .i64 ((L1.laid : Int) + (k : Int)))
              have e1 : ((L1.laid + k : Nat) : Int) = (L1.laid : Int) + (k : Int) := by omega
              unfold lhead
              simp only [e1]
              exact this
            have T2 : Touch (fun i => i = l) wr ((wr.setCell ⟨l, 3, none⟩ (.int .i64 ((L1.posts : Int) + 1))).setCell ⟨l, 4, none⟩ (.int .i64 ((L1.laid : Int) + (k : Int)))) := (Touch.one ⟨l, 3, none⟩ _).trans (Touch.one ⟨l, 4, none⟩ _)
            have HA5 : Hid (LAt w0 l d b4 g { L1 with D := DD, posts := L1.posts + 1, laid := L1.laid + k } ((wr.setCell ⟨l, 3, none⟩ (.int .i64 ((L1.posts : Int) + 1))).setCell ⟨l, 4, none⟩ (.int .i64 ((L1.laid : Int) + (k : Int))))) := A4.head_set rfl rfl hb2 T2
            have HK5 := Lib.hid (HN'.out.2.1.trans (KeptL.of_touch hh (.inl rfl) T2))
            have HZ5 := Lib.hid (Nat.le_trans HN'.out.2.2 T2.size)
            have j1 : IntKind.i64.wrap ((L1.laid : Int) + (k : Int)) = (L1.laid : Int) + (k : Int) := wrap_fits ⟨by omega, by omega⟩
            clear A4 hb2 T2 hdn hh HN HP htk hlk HLQ
            go_wp2_with fail
            generalize (wr.setCell ⟨l, 3, none⟩ (.int .i64 ((L1.posts : Int) + 1))).setCell ⟨l, 4, none⟩ (.int .i64 ((L1.laid : Int) + (k : Int))) = w5 at *
            refine (take_any l d g { L1 with D := DD, posts := L1.posts + 1, laid := L1.laid + k } a e len cap w5 HA5.out.head HA5.out.wri (HE.out.keptL HK5.out) HL.out (by omega) (fun x hx => by show x.1 < L1.ws.length ∧ _; rw [HW1.out]; exact HG.out.1 x hx) (by show L1.ws.length ≤ 5000; rw [HW1.out]; omega)).mono ?_
            rintro x w6 ⟨rfl, W6, T6⟩
            obtain ⟨cs, hb6⟩ := HA5.out.wri.blk
            have HA6 : Hid (LAt w0 l d b4 g { L1 with D := DD, posts := L1.posts + 1, laid := L1.laid + k, ws := took L1.ws e } w6) := HA5.out.wri_set rfl (by unfold lhead; simp [took_length]) W6 T6
            have HK6 := Lib.hid (HK5.out.trans (KeptL.of_touch hb6 (.inr rfl) T6))
            have HZ6 := Lib.hid (Nat.le_trans HZ5.out T6.size)
            clear W6 T6 hb6
            go_wp2_with fail
            go_ret
            rw [HE'.out]
            refine ⟨?_, ⟨b4, HA6.out⟩, HK6.out, HZ6.out⟩
            show _ = Ending.returned (.int .i64 (DD.bad : Int))
            rw [HBd.out]
            rfl
  · have hb' : ¬ ((L.leaves - L.laid : Nat) : Int) < (m : Int) := by omega
    have HLB : Hid (LP = L.layP e) := by
      show _ = _
      rw [← HLP.out]
      unfold LS.post
      rw [HL.out, HMm.out, if_neg hbal]
    have HO1 := HO
    have HT1 : Hid (L.D.turns ≤ 80000) := by show _ ≤ _; have := HT.out; omega
    have HRm : Hid (L.laid + m ≤ L.leaves) := by show _ ≤ _; omega
    have hr1 : L.round ≤ 1000000000000 := HO1.out.round
    have hp1 := hp
    have hl1 : L.leaves ≤ 4096 := by omega
    have HN2 := HN1
    go_wp2_with fail
    obtain ⟨b1, A1⟩ := HN2.out.1
    have HA := Lib.hid A1
    have HD : Hid (Old w1 w1.drew) := (Touch.refl _ _).drew
    have HAd := Lib.hid (A1.step HD.out)
    have Hhd := Lib.hid HAd.out.head
    have HEn := Lib.hid ((HE.out.keptL HN2.out.2.1).old HD.out)
    have hS : Hid (w1.drew.cell? ⟨l, 2, none⟩ = some (.int .i64 (L.round : Int)) ∧ w1.drew.cell? ⟨l, 3, none⟩ = some (.int .i64 (L.posts : Int))) := ⟨Hhd.out.cell 2, Hhd.out.cell 3⟩
    have HLt := Lib.hid (layText_any a e len cap L.round (L.posts + 1) w1.drew HEn.out HL.out (by rw [← HL.out]; exact HG.out.2.2) (by omega) (fun x hx => (HG.out.1 x hx).2) (fun x hx => by have := (HG.out.1 x hx).1; omega) (by omega) (by omega))
    rw [HMm.out] at HLt
    have hcast : ((L.posts + 1 : Nat) : Int) = (L.posts : Int) + 1 := by omega
    rw [hcast] at HLt
    have hw1 : IntKind.i64.wrap ((L.posts : Int) + 1) = (L.posts : Int) + 1 := wrap_fits ⟨by omega, by omega⟩
    obtain ⟨PP, hPP⟩ : ∃ PP, posting L.round (L.posts + 1) e = PP := ⟨_, rfl⟩
    have HPP := Lib.hid hPP
    have HPl : Hid (PP.length = m) := by show _ = _; rw [← hPP]; unfold posting; rw [List.length_map, List.length_range, HL.out, HMm.out]
    rw [hPP] at HLt
    obtain ⟨DD, hDD⟩ : ∃ DD, L.D.run (leafT (2 + L.laid) PP) = DD := ⟨_, rfl⟩
    have HDD := Lib.hid hDD
    have HLQ : Hid (LP = if DD.down then { L with D := DD } else { L with D := DD, posts := L.posts + 1, laid := L.laid + m, ws := took L.ws e }) := by
      show _ = _
      rw [HLB.out]
      unfold LS.layP
      rw [hPP, hDD, HL.out, HMm.out]
    clear A1 hPP hDD hcast HLB HLP HN1 HA1
    go_wp2_with fail
    go_cut [6] (fun v wx => ∃ g3, v = .slice (some ⟨g3, 0, none⟩) m m ∧ Hid (NextL w0 l d g L w wx ∧ Pgs wx (some ⟨g3, 0, none⟩) PP))
    case first =>
      go_region_held3 (fun w' => w'.cell? ⟨l, 2, none⟩ = some (.int .i64 (L.round : Int)) ∧ w'.cell? ⟨l, 3, none⟩ = some (.int .i64 (L.posts : Int))) (first | exact hS.out | exact hS2.out)
        (first | (go_at_call 98; refine HLt.out.mono ?_; rintro x w3 ⟨g3, rfl, hg3, P3, O3⟩
                  have Hh3 := Hhd.out.touch O3 (fun q => q)
                  have hS2 := Lib.hid (And.intro (Hh3.cell 2) (Hh3.cell 3))
                  have HN3 := Lib.hid (HN2.out.trans (HA.out.old (HD.out.trans O3)))
                  have HP3 := Lib.hid P3
                  clear P3 O3 hg3 Hh3))
      all_goals
        rename_i hHeld
        clear hHeld
        go_wp2_with fail
        go_meet
        exact ⟨_, rfl, HN3.out, HP3.out⟩
    case rest =>
      obtain ⟨g3, rfl, HC⟩ := hcut
      have HN3 := Lib.hid HC.out.1
      have HP3 := Lib.hid HC.out.2
      clear HC HN2 HA HD HAd Hhd HEn hS HLt
      have H0 : Hid (NextL w0 l d g { L with D := L.D.run (leafT (2 + L.laid) (PP.take 0)) } w wc) := HN3.out
      go_wp2_with fail
      go_loopw [34] (fun i wx => ∃ k : Nat, k ≤ m ∧ i = .int .i64 k ∧ Hid (NextL w0 l d g { L with D := L.D.run (leafT (2 + L.laid) (PP.take k)) } w wx ∧ Pgs wx (some ⟨g3, 0, none⟩) PP ∧ (k = 0 ∨ (L.D.run (leafT (2 + L.laid) (PP.take k))).down = false))) (fun i _ => m - (intOf i).toNat)
      case atStart => exact ⟨0, by omega, rfl, H0.out, HP3.out, .inl rfl⟩
      case round =>
        obtain ⟨k, hk, rfl, HC⟩ := hrel
        have HN := Lib.hid HC.out.1
        have HP := Lib.hid HC.out.2.1
        have HZk := Lib.hid HC.out.2.2
        clear HC H0 HN3 HP3
        have htk := DS.run_turns L.D (leafT (2 + L.laid) (PP.take k))
        have hlk := DS.run_len L.D (leafT (2 + L.laid) (PP.take k))
        rw [leafT_length, List.length_take, HPl.out] at htk
        obtain ⟨bk, AL⟩ := HN.out.1
        have HA := Lib.hid AL
        clear AL
        by_cases hlt : k < m
        · obtain ⟨y, hy⟩ := get_of_lt (l := PP) (n := k) (by rw [HPl.out]; exact hlt)
          obtain ⟨b3, o3, py, ee, hcy, hy96, hyB⟩ := HP.out.pg k y hy
          cases ee
          rw [Nat.zero_add] at hcy
          have i0 : (0 : Int) ≤ (k : Int) := by omega
          have i1 : (k : Int) < (m : Int) := by omega
          have HR : Hid (L.D.run (leafT (2 + L.laid) (PP.take (k + 1))) = (L.D.run (leafT (2 + L.laid) (PP.take k))).step (.lay (2 + L.laid + k) y)) := by show _ = _; rw [leafT_next hy, DS.run_snoc]
          have HPt : Hid (∃ r, DD = (L.D.run (leafT (2 + L.laid) (PP.take (k + 1)))).run r) := by
            obtain ⟨r, hr⟩ := leafT_part (2 + L.laid) (k + 1) PP
            exact ⟨r, by rw [← HDD.out, ← DS.run_append, ← hr]⟩
          have HTk : Hid ((L.D.run (leafT (2 + L.laid) (PP.take k))).turns ≤ 99999) := by show _ ≤ _; have := HT1.out; omega
          have HLk : Hid (2 + L.laid + k < (L.D.run (leafT (2 + L.laid) (PP.take k))).T.length) := by show _ < _; rw [hlk, HO1.out.len]; have := HRm.out; omega
          have HY := Lib.hid hy96
          have HD : Hid (Old wr wr.drew) := (Touch.refl _ _).drew
          have HB := Lib.hid (hyB.old HD.out)
          have HSd := Lib.hid (HA.out.st.step HD.out)
          have Hhd := Lib.hid (HA.out.head.touch HD.out (fun q => q))
          have HPd := Lib.hid (HP.out.old HD.out)
          have hS : Hid (wr.drew.cell? ⟨l, 0, none⟩ = some (.pointer (some ⟨d, 0, none⟩)) ∧ wr.drew.cell? ⟨l, 4, none⟩ = some (.int .i64 (L.laid : Int))) := ⟨Hhd.out.cell 0, Hhd.out.cell 4⟩
          have HAL := Lib.hid (HA.out.step HD.out)
          have hlv := HRm.out
          have j1 : IntKind.i64.wrap (2 + (L.laid : Int)) = 2 + (L.laid : Int) := wrap_fits ⟨by omega, by omega⟩
          have j2 : IntKind.i64.wrap (2 + (L.laid : Int) + (k : Int)) = 2 + (L.laid : Int) + (k : Int) := wrap_fits ⟨by omega, by omega⟩
          have HLay := Lib.hid (lay_byt HSd.out HTk.out (2 + L.laid + k) py y HLk.out HY.out HB.out 96)
          have hcast : ((2 + L.laid + k : Nat) : Int) = 2 + (L.laid : Int) + (k : Int) := by omega
          rw [hcast] at HLay
          clear hyB hy96 hy htk hlk hcast
          go_wp2_with fail
          go_cut [9] (fun v wx => ∃ D1, v = .int .i64 (D1.bad : Int) ∧ Hid (L.D.run (leafT (2 + L.laid) (PP.take (k + 1))) = D1 ∧ NextL w0 l d g { L with D := D1 } w wx ∧ Pgs wx (some ⟨g3, 0, none⟩) PP))
          case first =>
            go_region_held3 (fun w' => w'.cell? ⟨l, 0, none⟩ = some (.pointer (some ⟨d, 0, none⟩)) ∧ w'.cell? ⟨l, 4, none⟩ = some (.int .i64 (L.laid : Int))) (first | exact hS.out | exact hS2.out)
              (first | (go_at_call 29; refine HLay.out.mono ?_; rintro x w4 ⟨rfl, N4⟩
                        rw [← HR.out] at N4 ⊢
                        have Hh4 := N4.2.1.blk 129 l _ (by unfold other; decide) Hhd.out
                        have hS2 := Lib.hid (And.intro (Hh4.cell 0) (Hh4.cell 4))
                        have HN4 := Lib.hid (HN.out.trans (NextL.trans (HA.out.old HD.out) (HAL.out.nextL N4)))
                        have HP4 := Lib.hid (HPd.out.kept N4.2.1)
                        clear N4 Hh4))
            all_goals
              rename_i hHeld
              clear hHeld
              go_wp2_with fail
              go_meet
              exact ⟨_, rfl, rfl, HN4.out, HP4.out⟩
          case rest =>
            obtain ⟨D1, rfl, HN1⟩ := hcut
            clear HN HA HR HTk HLk HY HD HB HSd Hhd hS HAL HPd HLay HP hcy j1 j2
            cases hd : D1.down with
            | true =>
              rw [bad_down hd]
              have HE' : Hid (LP = { L with D := D1 }) := by
                obtain ⟨r, hr⟩ := HPt.out
                have e1 : DD = D1 := by rw [hr, HN1.out.1, DS.run_down hd]
                show _ = _
                rw [HLQ.out, e1, hd]
                rfl
              have HBd := Lib.hid (bad_down hd)
              clear hd HPt HLQ
              go_wp2_with fail
              go_ret
              refine ⟨?_, ?_⟩
              · rw [HE'.out]; show _ = Ending.returned (.int .i64 (D1.bad : Int)); rw [HBd.out]; rfl
              · rw [HE'.out]; exact HN1.out.2.1
            | false =>
              rw [bad_up hd]
              have HN' : Hid (NextL w0 l d g { L with D := L.D.run (leafT (2 + L.laid) (PP.take (k + 1))) } w wc ∧ Pgs wc (some ⟨g3, 0, none⟩) PP ∧ (k + 1 = 0 ∨ (L.D.run (leafT (2 + L.laid) (PP.take (k + 1)))).down = false)) := by show _ ∧ _; rw [HN1.out.1]; exact ⟨HN1.out.2.1, HN1.out.2.2, .inr hd⟩
              clear HN1 hd HPt
              go_wp2_with fail
              exact ⟨⟨k + 1, by omega, by go_num, HN'⟩, by simp [intOf]; omega⟩
        · obtain rfl : k = m := by omega
          have HN' : Hid (NextL w0 l d g { L with D := DD } w wr) := by
            show NextL _ _ _ _ _ _ _
            have := HN.out
            rw [List.take_of_length_le (by rw [HPl.out]; exact Nat.le_refl _), HDD.out] at this
            exact this
          obtain ⟨b4, A4⟩ := HN'.out.1
          have hh : Blk wr l 129 (lhead d g L) := A4.head
          have hc3 : wr.cell? ⟨l, 3, none⟩ = some (.int .i64 (L.posts : Int)) := hh.cell 3
          have hc4 : wr.cell? ⟨l, 4, none⟩ = some (.int .i64 (L.laid : Int)) := hh.cell 4
          have hf3 := hh.frozen 3
          have hf4 := hh.frozen 4
          have hdn : DD.down = false := by
            rcases HZk.out with q | q
            · have := leavesOf_two (n := len) (by rw [← HL.out]; exact HG.out.2.2)
              rw [HMm.out] at this
              omega
            · rw [List.take_of_length_le (by rw [HPl.out]; exact Nat.le_refl _), HDD.out] at q
              exact q
          have HE' : Hid (LP = { L with D := DD, posts := L.posts + 1, laid := L.laid + k, ws := took L.ws e }) := by show _ = _; rw [HLQ.out, hdn]; rfl
          have HBd := Lib.hid (bad_up hdn)
          have hlv := HRm.out
          have hb2 : Blk ((wr.setCell ⟨l, 3, none⟩ (.int .i64 ((L.posts : Int) + 1))).setCell ⟨l, 4, none⟩ (.int .i64 ((L.laid : Int) + (k : Int)))) l 129 (lhead d g { L with D := DD, posts := L.posts + 1, laid := L.laid + k }) := by
            have := (hh.set 3 (.int .i64 ((L.posts : Int) + 1))).set 4 (.int .i64 ((L.laid : Int) + (k : Int)))
            have e1 : ((L.laid + k : Nat) : Int) = (L.laid : Int) + (k : Int) := by omega
            unfold lhead
            simp only [e1]
            exact this
          have T2 : Touch (fun i => i = l) wr ((wr.setCell ⟨l, 3, none⟩ (.int .i64 ((L.posts : Int) + 1))).setCell ⟨l, 4, none⟩ (.int .i64 ((L.laid : Int) + (k : Int)))) := (Touch.one ⟨l, 3, none⟩ _).trans (Touch.one ⟨l, 4, none⟩ _)
          have HA5 : Hid (LAt w0 l d b4 g { L with D := DD, posts := L.posts + 1, laid := L.laid + k } ((wr.setCell ⟨l, 3, none⟩ (.int .i64 ((L.posts : Int) + 1))).setCell ⟨l, 4, none⟩ (.int .i64 ((L.laid : Int) + (k : Int))))) := A4.head_set rfl rfl hb2 T2
          have HK5 := Lib.hid (HN'.out.2.1.trans (KeptL.of_touch hh (.inl rfl) T2))
          have HZ5 := Lib.hid (Nat.le_trans HN'.out.2.2 T2.size)
          have j1 : IntKind.i64.wrap ((L.laid : Int) + (k : Int)) = (L.laid : Int) + (k : Int) := wrap_fits ⟨by omega, by omega⟩
          clear A4 hb2 T2 hdn hh HN HP htk hlk HLQ
          go_wp2_with fail
          generalize (wr.setCell ⟨l, 3, none⟩ (.int .i64 ((L.posts : Int) + 1))).setCell ⟨l, 4, none⟩ (.int .i64 ((L.laid : Int) + (k : Int))) = w5 at *
          refine (take_any l d g { L with D := DD, posts := L.posts + 1, laid := L.laid + k } a e len cap w5 HA5.out.head HA5.out.wri (HE.out.keptL HK5.out) HL.out (by omega) (fun x hx => by show x.1 < L.ws.length ∧ _; exact HG.out.1 x hx) (by show L.ws.length ≤ 5000; omega)).mono ?_
          rintro x w6 ⟨rfl, W6, T6⟩
          obtain ⟨cs, hb6⟩ := HA5.out.wri.blk
          have HA6 : Hid (LAt w0 l d b4 g { L with D := DD, posts := L.posts + 1, laid := L.laid + k, ws := took L.ws e } w6) := HA5.out.wri_set rfl (by unfold lhead; simp [took_length]) W6 T6
          have HK6 := Lib.hid (HK5.out.trans (KeptL.of_touch hb6 (.inr rfl) T6))
          have HZ6 := Lib.hid (Nat.le_trans HZ5.out T6.size)
          clear W6 T6 hb6
          go_wp2_with fail
          go_ret
          rw [HE'.out]
          refine ⟨?_, ⟨b4, HA6.out⟩, HK6.out, HZ6.out⟩
          show _ = Ending.returned (.int .i64 (DD.bad : Int))
          rw [HBd.out]
          rfl
end Go.Proofs.YtjajenkagcdhlaaGreat
/- The contracts of a ledger's Write, Settle, Balance, Look. -/
namespace Go.Proofs.YtjajenkagcdhlaaGreat
open Go.RowKit
set_option maxRecDepth 100000

theorem heed_any {w0 : Fr} {w : World} {l d g : Nat} {b : Bl} {L : LS} (h : LAt w0 l d b g L w) : Calls Tryz.prog 74 #[.pointer (some ⟨l, 0, none⟩), .int .i64 (L.D.bad : Int)] w fun x w' => x = .returned (.int .i64 (L.D.bad : Int)) ∧ NextL w0 l d g L.heed w w' := by
  cases hd : L.D.down with
  | true =>
    rw [bad_down hd]
    refine (heed_down h.head).mono ?_
    rintro x w' ⟨rfl, hb, T⟩
    refine ⟨rfl, ⟨b, ?_⟩, KeptL.of_touch h.head (.inl rfl) T, T.size⟩
    unfold LS.heed
    rw [hd, if_pos rfl]
    exact h.head_set rfl rfl hb T
  | false =>
    rw [bad_up hd]
    refine (heed_up 0 (by decide)).mono ?_
    rintro x w' ⟨rfl, rfl⟩
    refine ⟨rfl, ?_⟩
    unfold LS.heed
    rw [hd, if_neg (by simp)]
    exact h.same

section
variable {w0 : Fr} {w : World} {l d g : Nat} {b : Bl} {L : LS}

theorem lsettle_any (h : LAt w0 l d b g L w) (ht : L.D.turns ≤ 90000) : Calls Tryz.prog 46 #[.pointer (some ⟨l, 0, none⟩)] w fun x w' => x = .returned (.int .i64 (L.settleE : Int)) ∧ NextL w0 l d g L.settle w w' := by
  have hc0 : w.cell? ⟨l, 0, none⟩ = some (.pointer (some ⟨d, 0, none⟩)) := h.head.cell 0
  have hc6 : w.cell? ⟨l, 6, none⟩ = some (.bool L.lost) := h.head.cell 6
  have H := Lib.hid h
  cases hlost : L.lost with
  | true =>
    rw [hlost] at hc6
    have HE : Hid (L.settleE = 4) := by show _ = _; unfold LS.settleE; rw [hlost]; rfl
    have HS : Hid (L.settle = L) := by show _ = _; unfold LS.settle; rw [hlost]; rfl
    rw [HE.out, HS.out]
    clear h hlost HE HS
    go_enter Tryz.func46, Tryz.ntmps46
    go_wp2_with fail
    go_ret
    exact ⟨rfl, H.out.same⟩
  | false =>
    rw [hlost] at hc6
    have HE : Hid (L.settleE = (L.D.step .settle).bad) := by show _ = _; unfold LS.settleE; rw [hlost]; rfl
    have HS : Hid (L.settle = { L with D := L.D.step .settle : LS }.heed) := by show _ = _; unfold LS.settle; rw [hlost]; rfl
    rw [HE.out, HS.out]
    clear h hlost HE HS
    go_enter Tryz.func46, Tryz.ntmps46
    go_wp2_with fail
    refine (settle_turn H.out.st (by omega)).mono ?_
    rintro x w1 ⟨rfl, N1⟩
    have HN1 := Lib.hid (H.out.nextL N1)
    obtain ⟨b1, A1⟩ := HN1.out.1
    have HH := Lib.hid (heed_any A1)
    clear N1 A1 hc0 hc6
    go_wp2_with fail
    refine HH.out.mono ?_
    rintro x w2 ⟨rfl, N2⟩
    have HN2 := Lib.hid (HN1.out.trans N2)
    clear N2 HH
    go_wp2_with fail
    go_ret
    exact ⟨rfl, HN2.out⟩

theorem lbalance_any (h : LAt w0 l d b g L w) (ok : L.Ok) (ht : L.D.turns ≤ 80000) : Calls Tryz.prog 58 #[.pointer (some ⟨l, 0, none⟩)] w fun x w' => x = .returned (.int .i64 (L.balanceE : Int)) ∧ NextL w0 l d g L.balance w w' := by
  have hc6 : w.cell? ⟨l, 6, none⟩ = some (.bool L.lost) := h.head.cell 6
  have H := Lib.hid h
  have HO := Lib.hid ok
  cases hlost : L.lost with
  | true =>
    rw [hlost] at hc6
    have HE : Hid (L.balanceE = 4) := by show _ = _; unfold LS.balanceE; rw [hlost]; rfl
    have HS : Hid (L.balance = L) := by show _ = _; unfold LS.balance; rw [hlost]; rfl
    rw [HE.out, HS.out]
    clear h hlost HE HS ok
    go_enter Tryz.func58, Tryz.ntmps58
    go_wp2_with fail
    go_ret
    exact ⟨rfl, H.out.same⟩
  | false =>
    rw [hlost] at hc6
    have HE : Hid (L.balanceE = L.balanced.D.bad) := by show _ = _; unfold LS.balanceE; rw [hlost]; rfl
    have HS : Hid (L.balance = L.balanced.heed) := by show _ = _; unfold LS.balance; rw [hlost]; rfl
    rw [HE.out, HS.out]
    clear h hlost HE HS ok
    go_enter Tryz.func58, Tryz.ntmps58
    go_wp2_with fail
    refine (balance_any H.out HO.out ht).mono ?_
    rintro x w1 ⟨rfl, N1⟩
    have HN1 := Lib.hid N1
    obtain ⟨b1, A1⟩ := HN1.out.1
    have HH := Lib.hid (heed_any A1)
    clear N1 A1 hc6
    go_wp2_with fail
    refine HH.out.mono ?_
    rintro x w2 ⟨rfl, N2⟩
    have HN2 := Lib.hid (HN1.out.trans N2)
    clear N2 HH
    go_wp2_with fail
    go_ret
    exact ⟨rfl, HN2.out⟩

set_option maxHeartbeats 1600000 in
theorem write_any (h : LAt w0 l d b g L w) (ok : L.Ok) (hr : L.round < 1000000000000) (hp : L.posts < 1000000) (ht : L.D.turns ≤ 70000) (a : Option Addr) (e : List Ent) (len cap : Nat) (En : Ents w a e) (hlen : e.length = len) (hlm : len ≤ 100000) :
    Calls Tryz.prog 44 #[.pointer (some ⟨l, 0, none⟩), .slice a len cap] w fun x w' => x = .returned (.int .i64 (L.writeE e : Int)) ∧ NextL w0 l d g (L.write e) w w' := by
  have hmany := h.st.dr.ok.many
  have hokl := ok.len
  have H := Lib.hid h
  have HO := Lib.hid ok
  have HE := Lib.hid En
  have HL := Lib.hid hlen
  have Hm := Lib.hid (home_any h.head)
  have HGo := Lib.hid (goes_any a e len cap L.ws.length w En hlen hlm (by omega))
  by_cases hG : Goes e L.ws.length
  · rw [decide_eq_true hG] at HGo
    have HG := Lib.hid hG
    cases hlost : L.lost with
    | true =>
      have HEe : Hid (L.writeE e = 4) := by show _ = _; unfold LS.writeE; rw [if_pos hG, hlost]; rfl
      have HS : Hid (L.write e = L) := by show _ = _; unfold LS.write; rw [if_pos hG, hlost]; rfl
      rw [HEe.out, HS.out]
      have Hlost := Lib.hid hlost
      clear h ok En hG hlost HEe HS hlen
      go_enter Tryz.func44, Tryz.ntmps44
      go_wp2_with fail
      refine Hm.out.mono ?_
      rintro x w' ⟨rfl, rfl⟩
      go_wp2_with fail
      refine HGo.out.mono ?_
      rintro x w1 ⟨rfl, O1⟩
      have HA := Lib.hid (H.out.step O1)
      have HN := Lib.hid (H.out.old O1)
      have hc6 : w1.cell? ⟨l, 6, none⟩ = some (.bool true) := by have := HA.out.head.cell 6; rw [this]; show some (Value.bool L.lost) = _; rw [Hlost.out]
      clear O1 Hm HGo
      go_wp2_with fail
      go_ret
      exact ⟨rfl, HN.out⟩
    | false =>
      by_cases hbig : L.leaves < leavesOf len
      · have hbig' : (L.leaves : Int) < ((leavesOf len : Nat) : Int) := by omega
        have HEe : Hid (L.writeE e = 5) := by show _ = _; unfold LS.writeE; rw [if_pos hG, hlost, hlen, if_pos hbig]; rfl
        have HS : Hid (L.write e = L) := by show _ = _; unfold LS.write; rw [if_pos hG, hlost, hlen, if_pos hbig]; rfl
        rw [HEe.out, HS.out]
        have Hlost := Lib.hid hlost
        clear h ok En hG hlost HEe HS hlen
        go_enter Tryz.func44, Tryz.ntmps44
        go_wp2_with fail
        refine Hm.out.mono ?_
        rintro x w' ⟨rfl, rfl⟩
        go_wp2_with fail
        refine HGo.out.mono ?_
        rintro x w1 ⟨rfl, O1⟩
        have HA := Lib.hid (H.out.step O1)
        have HN := Lib.hid (H.out.old O1)
        have hc6 : w1.cell? ⟨l, 6, none⟩ = some (.bool false) := by have := HA.out.head.cell 6; rw [this]; show some (Value.bool L.lost) = _; rw [Hlost.out]
        have HLv := Lib.hid (leaves_any len w1.drew (by omega))
        have HO1 : Hid (Old w1 w1.drew) := (Touch.refl _ _).drew
        have HN1 := Lib.hid (HN.out.trans (HA.out.old HO1.out))
        have hS : Hid (w1.drew.cell? ⟨l, 1, none⟩ = some (.int .i64 (L.leaves : Int))) := (HA.out.step HO1.out).head.cell 1
        clear O1 Hm HGo
        go_wp2_with fail
        go_cut [21] (fun v wx => v = .bool true ∧ wx = w1.drew)
        case first =>
          go_region_held3 (fun w' => w'.cell? ⟨l, 1, none⟩ = some (.int .i64 (L.leaves : Int))) (first | exact hS.out) (first | (go_at_call 73; refine HLv.out.mono ?_; rintro x w' ⟨rfl, rfl⟩))
          all_goals
            rename_i hHeld
            clear hHeld
            go_wp2_with fail
            go_meet
            exact ⟨rfl, rfl⟩
        case rest =>
          obtain ⟨rfl, rfl⟩ := hcut
          go_wp2_with fail
          go_ret
          exact ⟨rfl, HN1.out⟩
      · have hbig' : ¬ (L.leaves : Int) < ((leavesOf len : Nat) : Int) := by omega
        have HEe : Hid (L.writeE e = (L.post e).D.bad) := by show _ = _; unfold LS.writeE; rw [if_pos hG, hlost, hlen, if_neg hbig]; rfl
        have HS : Hid (L.write e = (L.post e).heed) := by show _ = _; unfold LS.write; rw [if_pos hG, hlost, hlen, if_neg hbig]; rfl
        rw [HEe.out, HS.out]
        have Hlost := Lib.hid hlost
        have HBg : Hid (leavesOf len ≤ L.leaves) := by show _ ≤ _; omega
        clear h ok En hG hlost HEe HS hlen
        go_enter Tryz.func44, Tryz.ntmps44
        go_wp2_with fail
        refine Hm.out.mono ?_
        rintro x w' ⟨rfl, rfl⟩
        go_wp2_with fail
        refine HGo.out.mono ?_
        rintro x w1 ⟨rfl, O1⟩
        have HA := Lib.hid (H.out.step O1)
        have HN := Lib.hid (H.out.old O1)
        have hc6 : w1.cell? ⟨l, 6, none⟩ = some (.bool false) := by have := HA.out.head.cell 6; rw [this]; show some (Value.bool L.lost) = _; rw [Hlost.out]
        have HLv := Lib.hid (leaves_any len w1.drew (by omega))
        have HO1 : Hid (Old w1 w1.drew) := (Touch.refl _ _).drew
        have HA1 := Lib.hid (HA.out.step HO1.out)
        have HN1 := Lib.hid (HN.out.trans (HA.out.old HO1.out))
        have hS : Hid (w1.drew.cell? ⟨l, 1, none⟩ = some (.int .i64 (L.leaves : Int))) := HA1.out.head.cell 1
        clear O1 Hm HGo
        go_wp2_with fail
        go_cut [21] (fun v wx => v = .bool false ∧ wx = w1.drew)
        case first =>
          go_region_held3 (fun w' => w'.cell? ⟨l, 1, none⟩ = some (.int .i64 (L.leaves : Int))) (first | exact hS.out) (first | (go_at_call 73; refine HLv.out.mono ?_; rintro x w' ⟨rfl, rfl⟩))
          all_goals
            rename_i hHeld
            clear hHeld
            go_wp2_with fail
            go_meet
            exact ⟨rfl, rfl⟩
        case rest =>
          obtain ⟨rfl, rfl⟩ := hcut
          clear hbig' hc6 HLv hS
          go_wp2_with fail
          refine (post_any HA1.out HO.out hr hp ht a e len cap (HE.out.keptL HN1.out.2.1) HL.out HG.out HBg.out).mono ?_
          rintro x w2 ⟨rfl, N2⟩
          have HN2 := Lib.hid (HN1.out.trans N2)
          obtain ⟨b2, A2⟩ := HN2.out.1
          have HH := Lib.hid (heed_any A2)
          clear N2 A2
          go_wp2_with fail
          refine HH.out.mono ?_
          rintro x w3 ⟨rfl, N3⟩
          have HN3 := Lib.hid (HN2.out.trans N3)
          clear N3 HH
          go_wp2_with fail
          go_ret
          exact ⟨rfl, HN3.out⟩
  · rw [decide_eq_false hG] at HGo
    have HEe : Hid (L.writeE e = 1) := by show _ = _; unfold LS.writeE; rw [if_neg hG]
    have HS : Hid (L.write e = L) := by show _ = _; unfold LS.write; rw [if_neg hG]
    rw [HEe.out, HS.out]
    clear h ok En hG HEe HS hlen
    go_enter Tryz.func44, Tryz.ntmps44
    go_wp2_with fail
    refine Hm.out.mono ?_
    rintro x w' ⟨rfl, rfl⟩
    go_wp2_with fail
    refine HGo.out.mono ?_
    rintro x w1 ⟨rfl, O1⟩
    have HN := Lib.hid (H.out.old O1)
    clear O1 Hm HGo
    go_wp2_with fail
    go_ret
    exact ⟨rfl, HN.out⟩
end
end Go.Proofs.YtjajenkagcdhlaaGreat
