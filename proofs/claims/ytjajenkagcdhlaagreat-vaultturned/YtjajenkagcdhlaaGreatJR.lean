/- Contracts of the vault's leftBy and readRecord. -/
import Derived.Test.YtjajenkagcdhlaaGreatJL
namespace Go.Proofs.YtjajenkagcdhlaaGreat
open Go.RowKit
set_option maxRecDepth 100000

theorem sumT_take : ∀ {rs : Recs} {t : Nat} {r : Rec}, rs[t]? = some r → sumT (rs.take (t + 1)) = sumT (rs.take t) + takesR r
  | x :: rs, 0, r, h => by injection h with h; subst h; simp [sumT]
  | x :: rs, t + 1, r, h => by
    have := sumT_take (rs := rs) (t := t) (by simpa using h)
    show takesR x + sumT (rs.take (t + 1)) = takesR x + sumT (rs.take t) + _
    omega
  | [], t, _, h => by simp at h
theorem sumT_take_le : ∀ (rs : Recs) (t : Nat), sumT (rs.take t) ≤ sumT rs
  | [], t => by simp [sumT]
  | x :: rs, 0 => Nat.zero_le _
  | x :: rs, t + 1 => by
    have := sumT_take_le rs t
    show takesR x + sumT (rs.take t) ≤ takesR x + sumT rs
    omega

set_option maxHeartbeats 1600000 in
theorem leftBy_any (g o m : Nat) (rs : Recs) (w : World) (h : RAt w g o rs) (hr : RsOk rs) (hs : sumT rs + 1 ≤ m) (hm : m ≤ 100000) : Calls Tryz.prog 45 #[.pointer (some ⟨g, o, none⟩), .int .i64 (m : Int)] w fun e w' => ∃ x, e = .returned (.pointer (some ⟨x, 0, none⟩)) ∧ w.heap.size ≤ x ∧ Blk w' x 120 (bud (m - 1 - sumT rs) (m - 1)) ∧ Old w w' := by
  have H := Lib.hid h
  have HRs := Lib.hid hr
  have hw : IntKind.i64.wrap ((m : Int) - 1) = ((m - 1 : Nat) : Int) := by
    rw [show (m : Int) - 1 = ((m - 1 : Nat) : Int) by omega]
    exact wrap_fits ⟨by omega, by omega⟩
  have HN := Lib.hid (new_budget (m - 1) (by unfold most; omega) w)
  have HS : Hid (∀ t, sumT (rs.take t) ≤ m - 1) := fun t => by have := sumT_take_le rs t; omega
  have hh1 : m - 1 ≤ 100000 := by omega
  clear h hr
  generalize m - 1 = h1 at *
  go_enter Tryz.func45, Tryz.ntmps45
  go_wp2_with fail
  refine HN.out.mono ?_
  rintro x w1 ⟨rfl, B1, O1⟩
  have HB1 : Hid (Blk w1 w.heap.size 120 (bud (h1 - sumT (rs.take 0)) h1)) := B1
  have HO1 := Lib.hid O1
  clear B1 O1 HN
  go_wp2_with fail
  go_loopw [10] (fun i wx => ∃ t : Nat, t ≤ 41 ∧ i = .int .i64 t ∧ Hid (Blk wx w.heap.size 120 (bud (h1 - sumT (rs.take t)) h1)) ∧ Hid (Old w wx)) (fun i _ => 41 - (intOf i).toNat)
  case atStart => exact ⟨0, by omega, rfl, HB1, HO1⟩
  case round =>
    obtain ⟨t, hle, rfl, HB, HO⟩ := hrel
    clear HB1 HO1
    by_cases hlt : t < 41
    · obtain ⟨r, hr⟩ := get_of_lt (l := rs) (n := t) (by rw [HRs.out.r41]; exact hlt)
      obtain ⟨p2, c2, hr1, hr2, hcl2, hB2⟩ := (H.out.old HO.out) t r hr
      have hb6 : (bytesOf r).length ≤ 60000 := by
        cases r with
        | none => exact Nat.zero_le _
        | some b => exact (HRs.out.ok t b hr).2
      have hst := sumT_take hr
      have h2 := HS.out (t + 1)
      have HT := Lib.hid (rtakes_any r p2 c2 (by omega) wr)
      have i0 : (0 : Int) ≤ (t : Int) := by omega
      have i1 : (t : Int) < 41 := by omega
      have HX := Lib.hid hst
      rw [hst] at h2
      clear hr hcl2 hB2 hb6 hst
      generalize r.isSome = rb at *
      generalize (bytesOf r).length = n2 at *
      generalize takesR r = T at *
      generalize sumT (rs.take t) = st at *
      go_wp2_with fail
      refine HT.out.mono ?_
      rintro x w2 ⟨rfl, O2⟩
      have HB2 := Lib.hid (HB.out.touch O2 (fun q => q))
      have HO2 := Lib.hid (HO.out.trans O2)
      clear O2 HT
      go_wp2_with fail
      refine (btake_yes w.heap.size (h1 - st) h1 T (by omega) (by omega) w2 HB2.out).mono ?_
      rintro x w3 ⟨rfl, B3, T3⟩
      have HB3 : Hid (Blk w3 w.heap.size 120 (bud (h1 - sumT (rs.take (t + 1))) h1)) := by
        show Blk _ _ _ _
        rw [HX.out, ← Nat.sub_sub]
        exact B3
      have HO3 := Lib.hid (HO2.out.own T3 (Nat.le_refl _))
      clear B3 T3
      go_wp2_with fail
      exact ⟨⟨t + 1, by omega, by go_num, HB3, HO3⟩, by simp [intOf]; omega⟩
    · obtain rfl : t = 41 := by omega
      have HE := HB.out
      rw [List.take_of_length_le (by rw [HRs.out.r41]; exact Nat.le_refl _)] at HE
      have HE' := Lib.hid HE
      clear HE HB
      go_wp2_with fail
      go_ret
      exact ⟨_, rfl, Nat.le_refl _, HE'.out, HO.out⟩

/-- Home tracks in memory. -/
def PgC (w : World) (g : Nat) (H : List (List Nat)) : Prop := ∃ cs : List Value, Blk w g 30 cs ∧ cs.length = H.length ∧ ∀ (i : Nat) b, H[i]? = some b → ∃ h o c, cs[i]? = some (.slice (some ⟨h, o, none⟩) 96 c) ∧ 96 ≤ c ∧ Trk b ∧ Byt w (some ⟨h, o, none⟩) b
theorem PgC.touch {S : Nat → Prop} {w w' : World} {g : Nat} {H : List (List Nat)} (x : PgC w g H) (m : Touch S w w') (hg : ¬ S g) (h5 : ∀ k cs, Blk w k 5 cs → ¬ S k) : PgC w' g H := by
  obtain ⟨cs, hb, hl, hs⟩ := x
  refine ⟨cs, hb.touch m hg, hl, fun i b hi => ?_⟩
  obtain ⟨h, o, c, h1, h2, h3, h4⟩ := hs i b hi
  exact ⟨h, o, c, h1, h2, h3, h4.keep fun k cs hk => hk.touch m (h5 k cs hk)⟩
theorem PgC.old {w w' : World} {g : Nat} {H : List (List Nat)} (x : PgC w g H) (m : Old w w') : PgC w' g H := x.touch m (fun q => q) (fun _ _ _ q => q)
theorem PgC.get {w : World} {g i : Nat} {H : List (List Nat)} {b : List Nat} (x : PgC w g H) (hi : H[i]? = some b) : ∃ h o c, w.cell? ⟨g, i, none⟩ = some (.slice (some ⟨h, o, none⟩) 96 c) ∧ 96 ≤ c ∧ Trk b ∧ Byt w (some ⟨h, o, none⟩) b := by
  obtain ⟨cs, hb, hl, hs⟩ := x
  obtain ⟨h, o, c, h1, h2⟩ := hs i b hi
  exact ⟨h, o, c, (hb.cell i).trans h1, h2⟩
theorem Byt.take' {w : World} {p : Option Addr} {xs : List Nat} (h : Byt w p xs) (n : Nat) : Byt w p (xs.take n) := ⟨h.has.take n, h.blk⟩
theorem PgC.trk {w : World} {g : Nat} {H : List (List Nat)} (x : PgC w g H) : ∀ b ∈ H, Trk b := fun b hb => by
  obtain ⟨i, hi⟩ := List.getElem?_of_mem hb
  obtain ⟨_, _, _, _, _, h, _⟩ := x.get hi
  exact h
theorem bytesFrom_snoc (H : List (List Nat)) (acc : List Nat) (k : Nat) : bytesFrom H (acc ++ [k]) = bytesFrom H acc ++ ((H.getD k []).drop 4).take 80 := by simp [bytesFrom]
theorem numAt_lt (b : List Nat) (o : Nat) (h : ∀ x ∈ b, x < 256) : numAt b o < 65536 := by
  have := num_lt (xs := b.drop o) (fun x hx => h x (List.mem_of_mem_drop hx)) 2
  exact this

/-- What readRecord answers. -/
def RecRead (gt m : Nat) (R : Option (List Nat × List Nat × (Nat → Bool))) (w : World) (x : Ending) (w' : World) : Prop :=
  Touch (fun i => i = gt) w w' ∧ ((R = none ∧ x = .returned (.tuple #[.slice none 0 0, .slice none 0 0, .bool false])) ∨
    ∃ b ks tk pb cb pa ca, R = some (b, ks, tk) ∧ x = .returned (.tuple #[.slice pb b.length cb, .slice pa ks.length ca, .bool true]) ∧ b.length ≤ cb ∧ Byt w' pb b ∧ ks.length ≤ ca ∧ Its w' pa ks ∧ Blk w' gt 4 (flags tk m))

theorem Touch.over {S : Nat → Prop} {w0 w w' : World} {v : Value} (h : Touch S w0 w) (t : Touch (blk v) w w') (hv : ∀ k, blk v k → w0.heap.size ≤ k) : Touch S w0 w' :=
  ⟨t.os.trans h.os, t.tape.trans h.tape, t.output.trans h.output, Nat.le_trans h.size t.size, fun j hj hn => (t.block j (Nat.lt_of_lt_of_le hj h.size) (fun q => by have := hv j q; omega)).trans (h.block j hj hn)⟩

set_option maxHeartbeats 6400000 in
theorem readRecord_any (gp gt m k0 : Nat) (H : List (List Nat)) (tk0 : Nat → Bool) (w : World) (hP : PgC w gp H) (hH : H.length = m) (hT : Blk w gt 4 (flags tk0 m)) (hk0 : k0 ≠ 0) (hk6 : k0 < 65536) (hm : m ≤ 5000) :
    Calls Tryz.prog 81 #[.slice (some ⟨gp, 0, none⟩) m m, .int .i64 (k0 : Int), .slice (some ⟨gt, 0, none⟩) m m] w (RecRead gt m (readRec H k0 tk0) w) := by
  have HH := Lib.hid hH
  have HPg : Hid (∀ wx, Touch (fun i => i = gt) w wx → PgC wx gp H) := fun wx T => hP.touch T (by obtain ⟨cs, hb, _⟩ := hP; exact hb.ne hT (by decide)) (fun k cs hk => hk.ne hT (by decide))
  have HTk := Lib.hid hP.trk
  have HT0 := Lib.hid hT
  have HM0 : Hid (Mine w w.heap.size (.slice none 0 0) (bytesFrom H [])) := Mine.nil _ _
  have HI0 : Hid (MineI w w.heap.size (.slice none 0 0) (iv [])) := MineI.nil _ _
  have HC0 : Hid (chain H (H.length + 1) k0 tk0 [] = chain H (H.length + 1) k0 tk0 []) := rfl
  have HF0 : Hid (frees tk0 m < H.length + 1 ∧ (k0 = 0 → ([] : List Nat) ≠ []) ∧ ∀ i ∈ ([] : List Nat), i < m) := ⟨by have := frees_le tk0 m; omega, fun q => absurd q hk0, by simp⟩
  have HO0 : Hid (Touch (fun i => i = gt) w w) := Touch.refl _ _
  have hfl : ([] : List Nat).length + frees tk0 m ≤ m := by have := frees_le tk0 m; simpa using this
  have HRd : Hid (readRec H k0 tk0 = recFrom H (chain H (H.length + 1) k0 tk0 [])) := rfl
  have HGT : Hid (gt < w.heap.size ∧ (∀ (k : Nat) cs t, Blk w k t cs → t ≠ 4 → k ≠ gt)) := ⟨hT.lt, fun k cs t hk ht => hk.ne hT ht⟩
  generalize hRc : readRec H k0 tk0 = RR at *
  generalize hRch : chain H (H.length + 1) k0 tk0 [] = RC at *
  have HC0' : Hid (chain H (H.length + 1) k0 tk0 [] = RC) := hRch
  clear hP hH hT HC0 hRc hRch
  go_enter Tryz.func81, Tryz.ntmps81
  go_wp2_with fail
  go_loopw [1, 9, 10] (fun kv bv av wx => ∃ (f k : Nat) (tk : Nat → Bool) (acc : List Nat), kv = .int .i64 (k : Int) ∧ k < 65536 ∧ acc.length + frees tk m ≤ m ∧ Hid (chain H f k tk acc = RC) ∧ Hid (frees tk m < f ∧ (k = 0 → acc ≠ []) ∧ ∀ i ∈ acc, i < m) ∧ Hid (Mine wx w.heap.size bv (bytesFrom H acc)) ∧ Hid (MineI wx w.heap.size av (iv acc)) ∧ Hid (Blk wx gt 4 (flags tk m)) ∧ Hid (Touch (fun i => i = gt) w wx)) (fun _ _ av _ => m + 1 - sliceLen av)
  case atStart => exact ⟨H.length + 1, k0, tk0, [], rfl, hk6, hfl, HC0', HF0, HM0, HI0, HT0, HO0⟩
  case round =>
    obtain ⟨f, k, tk, acc, rfl, hk, hfa, HC, HF, HM, HI, HT, HO⟩ := hrel
    clear HC0' HF0 HM0 HI0 HT0 HO0 hfl
    obtain ⟨f', hf'⟩ : ∃ f', f = f' + 1 := ⟨f - 1, by have := HF.out.1; omega⟩
    subst hf'
    by_cases hk0' : k = 0
    · subst hk0'
      have hRC : RC = some (acc, tk) := by
        have h1 := HC.out
        unfold chain at h1
        rw [if_pos rfl] at h1
        exact h1.symm
      have hne := HF.out.2.1 rfl
      obtain ⟨j, js, rfl⟩ : ∃ j js, acc = j :: js := by
        cases acc with
        | nil => exact absurd rfl hne
        | cons j js => exact ⟨j, js, rfl⟩
      have hRR : RR = recFrom H (some (j :: js, tk)) := by rw [HRd.out, hRC]
      have hjm := HF.out.2.2 j (by simp)
      obtain ⟨b, hb⟩ := get_of_lt (l := H) (n := j) (by rw [HH.out]; exact hjm)
      obtain ⟨h0, o0, c0, hcp, hcp9, hTr, hB⟩ := (HPg.out wr HO.out).get hb
      have hszf : sizeFrom H (j :: js) = numAt b 2 := by unfold sizeFrom; rw [show firstOf (j :: js) = j from rfl, getD_of hb]
      have hNum := Lib.hid (vnumber_any h0 (o0 + 2) ((b.drop 2).take 94) 94 (c0 - 2) wr (hB.has.part 2 94) (by rw [List.length_take, List.length_drop, hTr.len]; rfl) (by omega))
      have hnn : num ((b.drop 2).take 94) 2 = numAt b 2 := by unfold numAt; exact num_take _ 94 2 (by omega)
      rw [hnn] at hNum
      have hlt6 := numAt_lt b 2 hTr.byte
      have hbl : (bytesFrom H (j :: js)).length = (j :: js).length * 80 := bytesFrom_length (fun x hx => (HTk.out x hx).len) (fun i hi => by rw [HH.out]; exact HF.out.2.2 i hi)
      obtain ⟨gb, cb, eb, hcb, hBb⟩ := HM.out.byt (by rw [hbl]; simp)
      obtain ⟨pa, ca, ea, hca, hIa, _⟩ := mineI_its HI.out
      obtain ⟨ga, oa, rfl, hcj⟩ := hIa.cell (i := 0) (k := j) rfl
      rw [Nat.add_zero] at hcj
      have HBb := Lib.hid hBb
      have HIa := Lib.hid hIa
      have HBl := Lib.hid hbl
      have HRR := Lib.hid hRR
      have HSz := Lib.hid hszf
      have HRv : Hid (∀ i, i ∈ j :: js → i < m) := HF.out.2.2
      obtain ⟨n, hn⟩ : ∃ n, (j :: js).length = n := ⟨_, rfl⟩
      have HN := Lib.hid hn
      have hn0 : 0 < n := by rw [← hn]; simp
      have hnm : n ≤ 5000 := by rw [← hn]; omega
      obtain ⟨lb, hlb⟩ : ∃ lb, (bytesFrom H (j :: js)).length = lb := ⟨_, rfl⟩
      have hlbn : lb = n * 80 := by rw [← hlb, hbl, hn]
      have HLb := Lib.hid hlb
      rw [hn] at ea hca
      rw [hlb] at eb hcb
      have HCa : Hid (n ≤ ca) := hca
      subst ea eb
      have j0 : (0 : Int) ≤ (j : Int) := by omega
      have j1 : (j : Int) < (m : Int) := by omega
      have n0 : (0 : Int) < (n : Int) := by omega
      have c2 : ¬ c0 = 2 := by omega
      have c96 : (2 : Int) ≤ 96 := by omega
      have HO' := Lib.hid HO.out
      have HT' := Lib.hid HT.out
      have HLB := Lib.hid hlbn
      clear hRC hne hRR hb hB hTr hszf hnn hbl hBb hIa hn hlb HC HF HM HI HT hfa hca hlbn hcp9
      generalize hsz : numAt b 2 = sz at *
      have HSZ := Lib.hid hsz
      clear hsz
      go_wp2_with fail
      refine hNum.out.mono ?_
      rintro x w2 ⟨rfl, O2⟩
      have HO2 := Lib.hid (HO'.out.trans (Touch.of_old O2))
      have HT2 := Lib.hid (HT'.out.touch O2 (fun q => q))
      have HBb2 := Lib.hid (HBb.out.old O2)
      have HIa2 := Lib.hid (HIa.out.old O2)
      clear O2 HO' HT' HBb HIa hNum hcp hcj
      by_cases h6 : (60000 : Int) < (sz : Int)
      · have HN' : Hid (RecRead gt m RR w (.returned (.tuple #[.slice none 0 0, .slice none 0 0, .bool false])) w2) := by
          refine ⟨HO2.out, .inl ⟨?_, rfl⟩⟩
          rw [HRR.out]
          show (if 60000 < sizeFrom H (j :: js) then _ else _) = _
          rw [HSz.out, if_pos (by omega)]
        go_wp2_with fail
        go_ret3
        exact HN'.out
      · obtain ⟨T, hT⟩ : ∃ T, takesN sz = T := ⟨_, rfl⟩
        have hr := takesN_room sz
        have hTk := Lib.hid (takes_any sz (by omega) w2)
        rw [hT] at hTk hr
        have HTT := Lib.hid hT
        by_cases hTn : T = n
        · have hTb : ((T : Int) == (n : Int)) = true := by simp only [beq_iff_eq]; omega
          have hTc : ((T : Int) != (n : Int)) = false := by simp only [bne_eq_false_iff_eq]; omega
          have hTi : (T : Int) = (n : Int) := by omega
          have hs1 : (0 : Int) ≤ (sz : Int) := by omega
          have hs2 : (sz : Int) ≤ (cb : Int) := by have := HLB.out; subst hTn; omega
          have hs3 : sz ≤ cb := by omega
          have hsl : ((bytesFrom H (j :: js)).take sz).length = sz := by rw [List.length_take, HLb.out, HLB.out]; subst hTn; omega
          have HN' : Hid (RecRead gt m RR w (.returned (.tuple #[.slice (some ⟨gb, 0, none⟩) sz cb, .slice (some ⟨ga, oa, none⟩) n ca, .bool true])) w2) := by
            refine ⟨HO2.out, .inr ⟨(bytesFrom H (j :: js)).take sz, j :: js, tk, some ⟨gb, 0, none⟩, cb, some ⟨ga, oa, none⟩, ca, ?_, by rw [hsl, HN.out], by rw [hsl]; omega, HBb2.out.take' sz, by rw [HN.out]; exact HCa.out, HIa2.out, HT2.out⟩⟩
            · rw [HRR.out]
              show (if 60000 < sizeFrom H (j :: js) then _ else _) = _
              rw [HSz.out, if_neg (by omega), HTT.out, if_neg (by rw [HN.out]; omega)]
          clear hsl hTb
          subst hTn
          go_wp2_with fail
          refine hTk.out.mono ?_
          rintro x w' ⟨rfl, rfl⟩
          go_wp2_with fail
          go_ret3
          exact HN'.out
        · have hTb : ((T : Int) == (n : Int)) = false := by simp only [beq_eq_false_iff_ne]; omega
          have hTc : ((T : Int) != (n : Int)) = true := by simp only [bne_iff_ne, ne_eq]; omega
          have hTi : ¬ (T : Int) = (n : Int) := by omega
          have HN' : Hid (RecRead gt m RR w (.returned (.tuple #[.slice none 0 0, .slice none 0 0, .bool false])) w2) := by
            refine ⟨HO2.out, .inl ⟨?_, rfl⟩⟩
            rw [HRR.out]
            show (if 60000 < sizeFrom H (j :: js) then _ else _) = _
            rw [HSz.out, if_neg (by omega), HTT.out, if_pos (by rw [HN.out]; omega)]
          go_wp2_with fail
          refine hTk.out.mono ?_
          rintro x w' ⟨rfl, rfl⟩
          go_wp2_with fail
          go_ret3
          exact HN'.out
    · have hkb : ((k : Int) == 0) = false := by simp only [beq_eq_false_iff_ne]; omega
      have hkn : ¬ (k : Int) = 0 := by omega
      have hch : chain H (f' + 1) k tk acc = if H.length ≤ k then none else if tk k = true then none else chain H f' (numAt (H.getD k []) 0) (fun i => tk i || i == k) (acc ++ [k]) := by
        conv => lhs; unfold chain
        rw [if_neg hk0']
      by_cases hkm : m ≤ k
      · have HN : Hid (RecRead gt m RR w (.returned (.tuple #[.slice none 0 0, .slice none 0 0, .bool false])) wr) := by
          refine ⟨HO.out, .inl ⟨?_, rfl⟩⟩
          have h1 := HC.out
          rw [hch, if_pos (by rw [HH.out]; exact hkm)] at h1
          rw [HRd.out, ← h1]
          rfl
        have hkm' : (m : Int) ≤ (k : Int) := by omega
        clear hch HC HF HM HI HT
        go_wp2_with fail
        go_ret3
        exact HN.out
      · obtain ⟨b, hb⟩ := get_of_lt (l := H) (n := k) (by rw [HH.out]; omega)
        obtain ⟨hp, op, cp, hcp, hcp9, hTr, hB⟩ := (HPg.out wr HO.out).get hb
        have hcf := HT.out.cell k
        rw [flags_get _ _ _ (by omega)] at hcf
        have hff := HT.out.frozen k
        have k0i : (0 : Int) ≤ (k : Int) := by omega
        have k1i : (k : Int) < (m : Int) := by omega
        have k2i : ¬ (m : Int) ≤ (k : Int) := by omega
        cases htk : tk k with
        | true =>
          rw [htk] at hcf
          have HN : Hid (RecRead gt m RR w (.returned (.tuple #[.slice none 0 0, .slice none 0 0, .bool false])) wr) := by
            refine ⟨HO.out, .inl ⟨?_, rfl⟩⟩
            have h1 := HC.out
            rw [hch, if_neg (by rw [HH.out]; exact hkm), if_pos htk] at h1
            rw [HRd.out, ← h1]
            rfl
          clear hch HC HF HM HI HT htk hb hB
          go_wp2_with fail
          go_ret3
          exact HN.out
        | false =>
          rw [htk] at hcf
          have hfr := frees_less (tk := tk) (n := m) (k := k) (by omega) htk
          have HCn : Hid (chain H f' (numAt b 0) (fun i => tk i || i == k) (acc ++ [k]) = RC) := by
            have h1 := HC.out
            rw [hch, if_neg (by rw [HH.out]; exact hkm), if_neg (by rw [htk]; simp), getD_of hb] at h1
            exact h1
          have T1 := Touch.one (w := wr) ⟨gt, k, none⟩ (.bool true)
          have hgt : ∀ (j : Nat) cs t, Blk wr j t cs → t ≠ 4 → j ≠ gt := fun j cs t hj ht => hj.ne HT.out ht
          have HT1 : Hid (Blk (wr.setCell ⟨gt, k, none⟩ (.bool true)) gt 4 (flags (fun i => tk i || i == k) m)) := by
            have := HT.out.set k (.bool true)
            rwa [flags_set (g := fun i => tk i || i == k) (by omega) (fun i hi => rfl)] at this
          have HO1 := Lib.hid (HO.out.trans T1)
          have HM1 := Lib.hid (HM.out.touch T1 (fun j hj e => (HM.out.not_blk HT.out (by decide)) (by rw [← show j = gt from e]; exact hj)))
          have HI1 : Hid (MineI (wr.setCell ⟨gt, k, none⟩ (.bool true)) w.heap.size u10 (iv acc)) := owns_touch HI.out T1 (fun j hj e => (own_blk HI.out HT.out (by decide)) (by rw [← show j = gt from e]; exact hj))
          have HFn : Hid (frees (fun i => tk i || i == k) m < f' ∧ (numAt b 0 = 0 → acc ++ [k] ≠ []) ∧ ∀ i ∈ acc ++ [k], i < m) := ⟨by have := HF.out.1; omega, fun _ => by simp, fun i hi => by
            rcases List.mem_append.1 hi with q | q
            · exact HF.out.2.2 i q
            · obtain rfl := List.mem_singleton.1 q; omega⟩
          have hfa' : (acc ++ [k]).length + frees (fun i => tk i || i == k) m ≤ m := by rw [List.length_append]; simp only [List.length_cons, List.length_nil]; omega
          have hHb := Lib.hid hb
          clear hch HC HF HM HI HT htk hb hB T1 hgt
          have HB0 : Hid (w.heap.size ≤ (wr.setCell ⟨gt, k, none⟩ (.bool true)).heap.size) := HO1.out.size
          clear k2i hfr hcp hcp9 hTr
          go_upto_region 7 with fail
          clear hcf hff
          generalize wr.setCell ⟨gt, k, none⟩ (.bool true) = w1 at *
          obtain ⟨vI, w2, hapI, MI2, TI2⟩ := HI1.out.more HB0.out (k : Int) (by simp only [List.length_map]; omega)
          have HT2 := Lib.hid (HT1.out.touch TI2 (own_blk HI1.out HT1.out (by decide)))
          have hbne : ∀ j, blk u9 j → ¬ blk u10 j := fun j hj => by
            rcases HM1.out with ⟨e, _⟩ | ⟨g9, c9, e9, _, G9⟩
            · rw [e] at hj; cases hj
            · obtain ⟨rest, hr9, _⟩ := G9.row
              have hj9 : g9 = j := by rw [e9] at hj; injection hj
              subst hj9
              have hb9 : Blk w1 g9 5 (cells (bytesFrom H acc) ++ rest) := hr9
              exact own_blk HI1.out hb9 (by decide)
          have HM2 := Lib.hid (HM1.out.touch TI2 hbne)
          have HO2 := Lib.hid (HO1.out.over TI2 (fun j q => (HI1.out.lt j q).1))
          have HI2 : Hid (MineI w2 w.heap.size vI (iv (acc ++ [k]))) := by
            show MineI _ _ _ _
            rw [iv_append]
            exact MI2
          obtain ⟨h2, o2, c2, hcp2, hcp9, hTr, hB2⟩ := (HPg.out w2 HO2.out).get hHb.out
          have hl4 : ((b.drop 4).take 80).length = 80 := by rw [List.length_take, List.length_drop, hTr.len]; rfl
          obtain ⟨vB, w3, hapB, PB⟩ := mine_append w2 w.heap.size u9 (bytesFrom H acc) ((b.drop 4).take 80) (some ⟨h2, o2 + 4, none⟩) 80 (c2 - 4) HM2.out HO2.out.size (hB2.has.part 4 80) hl4 (by
            rw [bytesFrom_length (fun x hx => ?_) (fun i hi => by rw [HH.out]; exact HFn.out.2.2 i (List.mem_append_left _ hi))]
            · have := HFn.out
              omega
            · exact (HTk.out x hx).len)
          have HO3 := Lib.hid (HO2.out.over PB.touch (fun j q => (HM2.out.lt j q).1))
          have HM3 : Hid (Mine w3 w.heap.size vB (bytesFrom H (acc ++ [k]))) := by
            show Mine _ _ _ _
            rw [bytesFrom_snoc, getD_of hHb.out]
            exact PB.mine
          have HT3 := Lib.hid (HT2.out.touch PB.touch (HM2.out.not_blk HT2.out (by decide)))
          have HI3 : Hid (MineI w3 w.heap.size vI (iv (acc ++ [k]))) := owns_touch HI2.out PB.touch (fun j hj hq => by
            obtain ⟨_, ⟨e, _⟩ | ⟨g9, c9, cur, e9, _, hg9, _⟩⟩ := HI2.out
            · rw [e] at hj; cases hj
            · have hj9 : g9 = j := by rw [e9] at hj; injection hj
              subst hj9
              have hb9 : Blk w2 g9 3 cur.toList := by unfold Blk; rw [hg9]
              exact HM2.out.not_blk hb9 (by decide) hq)
          obtain ⟨h3, o3, c3, hcp3, _, hTr3, hB3⟩ := (HPg.out w3 HO3.out).get hHb.out
          have HN3 := Lib.hid (vnumber_any h3 o3 b 96 c3 w3 hB3.has hTr3.len (by omega))
          have hnum : num b 2 = numAt b 0 := by unfold numAt; rw [List.drop_zero]
          rw [hnum] at HN3
          have HNl := Lib.hid (numAt_lt b 0 hTr3.byte)
          have hcp9' : (84 : Int) ≤ (c2 : Int) := by omega
          obtain ⟨aI, cI, eI, _⟩ := HI3.out.form
          have hsl : sliceLen vI = acc.length + 1 := by rw [eI]; simp [sliceLen, iv]
          obtain ⟨aJ, cJ, eJ, _⟩ := HI1.out.form
          have hsl0 : sliceLen u10 = acc.length := by rw [eJ]; simp [sliceLen, iv]
          have HS : Hid (sliceLen vI = acc.length + 1 ∧ sliceLen u10 = acc.length) := ⟨hsl, hsl0⟩
          clear HI1 HM1 HT1 HO1 MI2 TI2 hbne HI2 HM2 HT2 HO2 PB hB2 hTr hcp9 hB3 hTr3 hnum hl4 HB0 eI eJ hsl hsl0 hHb
          generalize numAt b 0 = kn at *
          go_wp2_with (first
            | (at_builtin; with_reducible refine wpList_append_run (o := ⟨some 30, _, _, _, _, _⟩) rfl (.tmp 27) (.tmp 29) 31 31 rfl _ _ rfl rfl _ _ (hapI _) ?_)
            | (at_builtin; with_reducible refine wpList_append_run (o := ⟨some 37, _, _, _, _, _⟩) rfl (.tmp 31) (.tmp 36) 30 30 rfl _ _ rfl rfl _ _ (hapB _) ?_))
          refine HN3.out.mono ?_
          rintro x w4 ⟨rfl, O4⟩
          have HM4 := Lib.hid (HM3.out.old O4)
          have HI4 := Lib.hid (HI3.out.old O4)
          have HT4 := Lib.hid (HT3.out.touch O4 (fun q => q))
          have HO4 := Lib.hid (HO3.out.trans (Touch.of_old O4))
          clear HM3 HI3 HT3 HO3 O4 HN3 hapI hapB hcp2 hcp3
          have hfl : acc.length + 1 ≤ m := by rw [List.length_append] at hfa'; simp only [List.length_cons, List.length_nil] at hfa'; omega
          have hmeas : m + 1 - sliceLen vI < m + 1 - sliceLen u10 := by rw [HS.out.1, HS.out.2]; omega
          clear HS hfl
          go_wp2_with fail
          exact ⟨⟨f', kn, _, acc ++ [k], rfl, HNl.out, hfa', HCn, HFn, HM4, HI4, HT4, HO4⟩, hmeas⟩
end Go.Proofs.YtjajenkagcdhlaaGreat
/- The contract of the vault's read. -/
namespace Go.Proofs.YtjajenkagcdhlaaGreat
open Go.RowKit
set_option maxRecDepth 100000

/-- A block of records. -/
def Rcs (w : World) (g : Nat) (rs : Recs) : Prop := ∃ vs, Blk w g 69 vs ∧ RV w rs vs
theorem Rcs.touch {S : Nat → Prop} {w w' : World} {g : Nat} {rs : Recs} (h : Rcs w g rs) (m : Touch S w w') (hg : ¬ S g) (h5 : ∀ k cs, Blk w k 5 cs → ¬ S k) : Rcs w' g rs := by
  obtain ⟨vs, hb, hp⟩ := h
  exact ⟨vs, hb.touch m hg, hp.keep fun k cs hk => hk.touch m (h5 k cs hk)⟩
theorem Rcs.old {w w' : World} {g : Nat} {rs : Recs} (h : Rcs w g rs) (m : Old w w') : Rcs w' g rs := h.touch m (fun q => q) (fun _ _ _ q => q)
theorem Pls.touch {S : Nat → Prop} {w w' : World} {g : Nat} {a : Places} (h : Pls w g a) (m : Touch S w w') (hg : ¬ S g) (h3 : ∀ k cs, Blk w k 3 cs → ¬ S k) : Pls w' g a := by
  obtain ⟨vs, hb, hp⟩ := h
  exact ⟨vs, hb.touch m hg, hp.keep fun k cs hk => hk.touch m (h3 k cs hk)⟩
theorem Rcs.at_ {w : World} {g : Nat} {rs : Recs} (h : Rcs w g rs) : RAt w g 0 rs := by
  obtain ⟨vs, hb, hp⟩ := h
  exact hp.at_ (A := []) (B := []) (by simpa using hb)
theorem Rcs.cells {w : World} {g i : Nat} {rs : Recs} (h : Rcs w g rs) (hi : i < rs.length) : ∃ v1 v2, w.cell? ⟨g, i * 2, none⟩ = some v1 ∧ w.frozen? ⟨g, i * 2, none⟩ = false ∧ w.cell? ⟨g, i * 2 + 1, none⟩ = some v2 ∧ w.frozen? ⟨g, i * 2 + 1, none⟩ = false := by
  obtain ⟨vs, hb, hp⟩ := h
  exact ⟨_, _, (hb.cell _).trans (List.getElem?_eq_getElem (by rw [hp.1]; omega)), hb.frozen _, (hb.cell _).trans (List.getElem?_eq_getElem (by rw [hp.1]; omega)), hb.frozen _⟩
theorem Rcs.set {w : World} {g i c n : Nat} {rs : Recs} {p : Option Addr} (r : Rec) (h : Rcs w g rs) (hn : (bytesOf r).length = n) (hc : n ≤ c) (hB : Byt w p (bytesOf r)) : Rcs ((w.setCell ⟨g, i * 2, none⟩ (.bool r.isSome)).setCell ⟨g, i * 2 + 1, none⟩ (.slice p n c)) g (rs.set i r) := by
  obtain ⟨vs, hb, hp⟩ := h
  subst hn
  have T1 := Touch.one (w := w) ⟨g, i * 2, none⟩ (.bool r.isSome)
  have T2 := Touch.one (w := w.setCell ⟨g, i * 2, none⟩ (.bool r.isSome)) ⟨g, i * 2 + 1, none⟩ (.slice p (bytesOf r).length c)
  have T : Touch (fun k => k = g) w ((w.setCell ⟨g, i * 2, none⟩ (.bool r.isSome)).setCell ⟨g, i * 2 + 1, none⟩ (.slice p (bytesOf r).length c)) := T1.trans T2
  have hk : ∀ k ds, Blk w k 5 ds → Blk _ k 5 ds := fun k ds hd => hd.touch T (hd.ne hb (by decide))
  exact ⟨_, (hb.set (i * 2) _).set (i * 2 + 1) _, (hp.keep hk).set r hc (hB.keep hk)⟩

theorem ext_set {α : Type} {L R : List α} {id : Nat} (x : α) (hl : L.length = id) (hr : id < R.length) : (L ++ R.drop id).set id x = (L ++ [x]) ++ R.drop (id + 1) := by
  rw [List.set_append_right _ _ (by omega), hl, Nat.sub_self, List.drop_eq_getElem_cons hr, List.append_assoc]
  rfl
theorem ext_skip {α : Type} {n : Nat} {x : α} {L : List α} {id : Nat} (hr : id < n) : L ++ (List.replicate n x).drop id = (L ++ [x]) ++ (List.replicate n x).drop (id + 1) := by
  rw [List.drop_replicate, List.drop_replicate, List.append_assoc, show n - id = (n - (id + 1)) + 1 by omega, List.replicate_succ]
  rfl

theorem run_buildR0 (w : World) : (Instr.build 69 #[]).run Tryz.prog w = .ok (.agg noRecs.toArray) w := by
  obtain ⟨i, hi, hz, _, _⟩ := info_parts info69
  have s := size_of 66 2 (by kernel_rfl)
  simp [Instr.build, zeroValue, typeInfo, hi, hz, run_underlying Tryz.underlying69, s, Instr.fill, Value.cells]
theorem run_buildP0 (w : World) : (Instr.build 71 #[]).run Tryz.prog w = .ok (.agg noPlaces.toArray) w := by
  obtain ⟨i, hi, hz, _, _⟩ := info_parts info71
  have s := size_of 31 1 (by kernel_rfl)
  simp [Instr.build, zeroValue, typeInfo, hi, hz, run_underlying Tryz.underlying71, s, Instr.fill, Value.cells]
section
variable {ops : Array Oper} {rest : List Oper} {op : Oper} {a : Act} {w : World} {Q : Exit → Act → World → Prop}
theorem wpList_build_recs (hgd : op.guard = none) (ho : op.op = .build 69 #[])
    (h : wpList Tryz.prog ops Q rest (a.put op.dst (.agg noRecs.toArray)) w) : wpList Tryz.prog ops Q (op :: rest) a w :=
  wpList_plain hgd fun K hK => by
    unfold Oper.wp execOp
    simp only [ho, List.map_toArray, List.map_nil, Sem.run_bind, Sem.run_pure, Result.andThen_ok, run_buildR0]
    exact hK _ _ h
theorem wpList_build_places (hgd : op.guard = none) (ho : op.op = .build 71 #[])
    (h : wpList Tryz.prog ops Q rest (a.put op.dst (.agg noPlaces.toArray)) w) : wpList Tryz.prog ops Q (op :: rest) a w :=
  wpList_plain hgd fun K hK => by
    unfold Oper.wp execOp
    simp only [ho, List.map_toArray, List.map_nil, Sem.run_bind, Sem.run_pure, Result.andThen_ok, run_buildP0]
    exact hK _ _ h
end
theorem results_two_cells {fn : Func} {p q u : Tmp} {s t : TypeId} (h : fn.results = #[.cell p s, .cell q t, .tmp u]) (tmps : Array Value) (P : Program) (w : World) {g k : Addr} {v y : Value}
    (hp : tmps.getD p undef = .pointer (some g)) (hq : tmps.getD q undef = .pointer (some k)) (h1 : (loadVar s g).run P w = .ok v w) (h2 : (loadVar t k).run P w = .ok y w) :
    (results fn tmps).run P w = .ok (.tuple #[v, y, tmps.getD u undef]) w := by
  have hp' : tmps[p]?.getD undef = .pointer (some g) := by simpa using hp
  have hq' : tmps[q]?.getD undef = .pointer (some k) := by simpa using hq
  simp only [results, h]
  simp [Sem.run_bind, Result.andThen, hp', hq', asAddr, h1, h2]

theorem readIds_next (H : List (List Nat)) (n id : Nat) (tk : Nat → Bool) (rs : Recs) (a : Places) (k : Nat) (hk : rootAt H id = k) : readIds H (n + 1) id tk rs a = if k = 0 then readIds H n (id + 1) tk (rs ++ [none]) (a ++ [[]]) else (match readRec H k tk with
    | none => none
    | some (b, ks, tk') => readIds H n (id + 1) tk' (rs ++ [some b]) (a ++ [ks])) := by
  subst hk
  rfl

/-- What read answers. -/
def ReadAns (H : List (List Nat)) (w : World) (x : Ending) (w' : World) : Prop :=
  Old w w' ∧ ((x = .returned (.tuple #[.agg noRecs.toArray, .agg noPlaces.toArray, .bool false]) ∧ ∀ rs a, ¬ Reading H rs a) ∨
    ∃ rs a vr vp, Reading H rs a ∧ x = .returned (.tuple #[.agg vr.toArray, .agg vp.toArray, .bool true]) ∧ RV w' rs vr ∧ PV w' a vp)

/-- The five blocks that read makes. -/
structure Five (m : Nat) (w w' : World) (n2 n3 n5 n6 nt : Nat) : Prop where
  e2 : w.heap.size = n2
  e3 : n2 + 1 = n3
  e5 : n3 + 1 = n5
  e6 : n5 + 1 = n6
  et : n6 + 1 = nt
  b2 : Blk w' n2 69 noRecs
  b3 : Blk w' n3 71 noPlaces
  b5 : Blk w' n5 69 noRecs
  b6 : Blk w' n6 71 noPlaces
  bt : Blk w' nt 4 (flags (fun _ => false) m)
  old : Old w w'
theorem five_new (m : Nat) (w : World) : Five m w (((((w.alloc (.cells noRecs.toArray 69)).alloc (.cells noPlaces.toArray 71)).alloc (.cells noRecs.toArray 69)).alloc (.cells noPlaces.toArray 71)).alloc (.cells (flags (fun _ => false) m).toArray 4)) w.heap.size (w.heap.size + 1) (w.heap.size + 1 + 1) (w.heap.size + 1 + 1 + 1) (w.heap.size + 1 + 1 + 1 + 1) := by
  have o : ∀ (u : World) (x : Obj), Old u (u.alloc x) := fun u x => (Touch.refl _ u).alloc x
  have n : ∀ (u : World) (cs : List Value) (t : TypeId), Blk (u.alloc (.cells cs.toArray t)) u.heap.size t cs := fun u cs t => Blk.new u t cs
  have T : ∀ {u v : World} {g t cs}, Blk u g t cs → Old u v → Blk v g t cs := fun h m => h.touch m (fun q => q)
  refine ⟨rfl, rfl, rfl, rfl, rfl, T (T (T (T (n w _ _) (o _ _)) (o _ _)) (o _ _)) (o _ _), ?_, ?_, ?_, ?_, ((((o _ _).trans (o _ _)).trans (o _ _)).trans (o _ _)).trans (o _ _)⟩
  · have := n (w.alloc (.cells noRecs.toArray 69)) noPlaces 71
    rw [World.size_alloc] at this
    exact T (T (T this (o _ _)) (o _ _)) (o _ _)
  · have := n ((w.alloc (.cells noRecs.toArray 69)).alloc (.cells noPlaces.toArray 71)) noRecs 69
    rw [World.size_alloc, World.size_alloc] at this
    exact T (T this (o _ _)) (o _ _)
  · have := n (((w.alloc (.cells noRecs.toArray 69)).alloc (.cells noPlaces.toArray 71)).alloc (.cells noRecs.toArray 69)) noPlaces 71
    rw [World.size_alloc, World.size_alloc, World.size_alloc] at this
    exact T this (o _ _)
  · have := n ((((w.alloc (.cells noRecs.toArray 69)).alloc (.cells noPlaces.toArray 71)).alloc (.cells noRecs.toArray 69)).alloc (.cells noPlaces.toArray 71)) (flags (fun _ => false) m) 4
    rw [World.size_alloc, World.size_alloc, World.size_alloc, World.size_alloc] at this
    exact this
end Go.Proofs.YtjajenkagcdhlaaGreat
/- The walk of the vault's read. -/
namespace Go.Proofs.YtjajenkagcdhlaaGreat
open Go.RowKit
set_option maxRecDepth 100000

/-- The blocks of read's answer. -/
def Outs (w : World) (n2 n3 : Nat) : Prop := (∃ v, Blk w n2 69 v ∧ v.length = 82) ∧ (∃ v, Blk w n3 71 v ∧ v.length = 41)
theorem Outs.touch {S : Nat → Prop} {w w' : World} {n2 n3 : Nat} (h : Outs w n2 n3) (m : Touch S w w') (h2 : ¬ S n2) (h3 : ¬ S n3) : Outs w' n2 n3 := by
  obtain ⟨⟨v, a, b⟩, ⟨u, c, d⟩⟩ := h
  exact ⟨⟨v, a.touch m h2, b⟩, ⟨u, c.touch m h3, d⟩⟩

theorem run_build1 (b : Bool) (p : Option Addr) (n c : Nat) (w : World) : (Instr.build 66 #[(0, .bool b), (1, .slice p n c)]).run Tryz.prog w = .ok (.agg #[.bool b, .slice p n c]) w := by
  kernel_rfl
section
variable {ops : Array Oper} {rest : List Oper} {op : Oper} {a : Act} {w : World} {Q : Exit → Act → World → Prop}
theorem wpList_build_rec (hgd : op.guard = none) (x y : Operand) (ho : op.op = .build 66 #[(0, x), (1, y)]) (b : Bool) (p : Option Addr) (n c : Nat) (hx : a.eval x = .bool b) (hy : a.eval y = .slice p n c)
    (h : wpList Tryz.prog ops Q rest (a.put op.dst (.agg [Value.bool b, .slice p n c].toArray)) w) : wpList Tryz.prog ops Q (op :: rest) a w :=
  wpList_plain hgd fun K hK => by
    unfold Oper.wp execOp
    simp only [ho, List.map_toArray, List.map_cons, List.map_nil, Sem.run_bind, Sem.run_pure, Result.andThen_ok, hx, hy, run_build1]
    exact hK _ _ h
end
theorem size1 : (Tryz.prog.info? 66).map (·.size) = some 2 := by kernel_rfl
theorem one1 (b : Bool) (p : Option Addr) (n c : Nat) : ∀ v ∈ [Value.bool b, .slice p n c], v.oneCell' = true := fun v hv => by
  simp only [List.mem_cons, List.not_mem_nil, or_false] at hv
  rcases hv with rfl | rfl <;> rfl
theorem splice_pair {α : Type} {Z : List α} {o : Nat} {x y : α} (h : o + 2 ≤ Z.length) : splice Z o [x, y] = (Z.set o x).set (o + 1) y := by
  apply List.ext_getElem?
  intro i
  unfold splice
  rw [List.getElem?_append]
  have hl : (Z.take o).length = o := by rw [List.length_take]; omega
  rw [hl]
  by_cases h1 : i < o
  · rw [if_pos h1, List.getElem?_set_ne (by omega), List.getElem?_set_ne (by omega), List.getElem?_take_of_lt h1]
  · rw [if_neg h1]
    rcases Nat.lt_trichotomy i (o + 1) with q | q | q
    · obtain rfl : i = o := by omega
      rw [List.getElem?_set_ne (by omega), List.getElem?_set_self (by omega)]
      simp
    · subst q
      rw [List.getElem?_set_self (by rw [List.length_set]; omega)]
      simp
    · rw [List.getElem?_set_ne (by omega), List.getElem?_set_ne (by omega), List.getElem?_append_right (by simp; omega), List.getElem?_drop]
      congr 1
      simp
      omega
theorem Rcs.spl {w w' : World} {g i c : Nat} {rs : Recs} {vs : List Value} {p : Option Addr} (r : Rec) (hb : Blk w g 69 vs) (hp : RV w rs vs) (hi : i < rs.length) (hc : (bytesOf r).length ≤ c) (hB : Byt w p (bytesOf r))
    (hb' : Blk w' g 69 (splice vs (i * 2) [.bool r.isSome, .slice p (bytesOf r).length c])) (T : Touch (fun k => k = g) w w') : Rcs w' g (rs.set i r) := by
  have hk : ∀ k ds, Blk w k 5 ds → Blk w' k 5 ds := fun k ds hd => hd.touch T (hd.ne hb (by decide))
  rw [splice_pair (by rw [hp.1]; omega)] at hb'
  exact ⟨_, hb', (hp.keep hk).set r hc (hB.keep hk)⟩
theorem splice_all {α : Type} {Z vs : List α} (h : Z.length = vs.length) : splice Z 0 vs = vs := by
  unfold splice
  rw [List.drop_eq_nil_of_le (by omega)]
  simp

/-- One record and its places are stored. -/
theorem put3 {w : World} {n5 n6 i cb ca : Nat} {rs : Recs} {a : Places} {pb pa : Option Addr} {b ks : List Nat} (hR : Rcs w n5 rs) (hP : Pls w n6 a) (hn : n5 ≠ n6) (hcb : b.length ≤ cb) (hB : Byt w pb b) (hca : ks.length ≤ ca) (hI : Its w pa ks) :
    Rcs (((w.setCell ⟨n5, i * 2, none⟩ (.bool true)).setCell ⟨n5, i * 2 + 1, none⟩ (.slice pb b.length cb)).setCell ⟨n6, i, none⟩ (.slice pa ks.length ca)) n5 (rs.set i (some b)) ∧
    Pls (((w.setCell ⟨n5, i * 2, none⟩ (.bool true)).setCell ⟨n5, i * 2 + 1, none⟩ (.slice pb b.length cb)).setCell ⟨n6, i, none⟩ (.slice pa ks.length ca)) n6 (a.set i ks) ∧
    Touch (fun k => k = n5 ∨ k = n6) w (((w.setCell ⟨n5, i * 2, none⟩ (.bool true)).setCell ⟨n5, i * 2 + 1, none⟩ (.slice pb b.length cb)).setCell ⟨n6, i, none⟩ (.slice pa ks.length ca)) := by
  have R := hR.set (i := i) (some b) rfl hcb hB
  have T1 : Touch (fun k => k = n5) w ((w.setCell ⟨n5, i * 2, none⟩ (.bool true)).setCell ⟨n5, i * 2 + 1, none⟩ (.slice pb b.length cb)) := (Touch.one (w := w) ⟨n5, i * 2, none⟩ _).trans (Touch.one (w := w.setCell ⟨n5, i * 2, none⟩ (.bool true)) ⟨n5, i * 2 + 1, none⟩ _)
  obtain ⟨vs, hb, _⟩ := hR
  have P := hP.touch T1 hn.symm (fun k cs hk => hk.ne hb (by decide))
  have I := hI.keep (fun k cs hk => hk.touch T1 (hk.ne hb (by decide)))
  have P' := P.set (i := i) hca rfl I
  have T2 := Touch.one (w := (w.setCell ⟨n5, i * 2, none⟩ (.bool true)).setCell ⟨n5, i * 2 + 1, none⟩ (.slice pb b.length cb)) ⟨n6, i, none⟩ (.slice pa ks.length ca)
  obtain ⟨ds, hds⟩ := P.blk
  exact ⟨R.touch T2 hn (fun k cs hk => hk.ne hds (by decide)), P', (T1.mono fun k _ hk => .inl hk).trans (T2.mono fun k _ hk => .inr hk)⟩

/-- The results of read. -/
theorem read_fin {tmps : Array Value} {w : World} {n2 n3 : Nat} {v u : List Value} {b : Bool} (h2 : tmps.getD 2 undef = .pointer (some ⟨n2, 0, none⟩)) (h3 : tmps.getD 3 undef = .pointer (some ⟨n3, 0, none⟩)) (h4 : tmps.getD 4 undef = .bool b)
    (K2 : Blk w n2 69 v) (l2 : v.length = 82) (K3 : Blk w n3 71 u) (l3 : u.length = 41) : (results Tryz.f50 tmps).run Tryz.prog w = .ok (.tuple #[.agg v.toArray, .agg u.toArray, .bool b]) w := by
  have k2 := run_loadVar_mid (P := Tryz.prog) w n2 0 69 v _ (blk_range (xs := []) K2) Tryz.underlying69 rfl (by rw [l2]; exact sizeR)
  have k3 := run_loadVar_mid (P := Tryz.prog) w n3 0 71 u _ (blk_range (xs := []) K3) Tryz.underlying71 rfl (by rw [l3]; exact sizeP)
  rw [results_two_cells (p := 2) (q := 3) (u := 4) (s := 69) (t := 71) rfl tmps Tryz.prog w h2 h3 k2 k3, h4]

/-- What stands where read has what it answers. -/
structure Four (w : World) (n2 n3 n5 n6 : Nat) (vr vp : List Value) : Prop where
  b5 : Blk w n5 69 vr
  b6 : Blk w n6 71 vp
  b2 : ∃ z, Blk w n2 69 z ∧ z.length = 82
  b3 : ∃ z, Blk w n3 71 z ∧ z.length = 41
  l5 : vr.length = 82
  l6 : vp.length = 41
  n25 : n2 < n3 ∧ n3 < n5 ∧ n5 < n6
theorem Four.keep {w : World} {n2 n3 n5 n6 : Nat} {vr vp : List Value} (h : Four w n2 n3 n5 n6 vr vp) : w.rangeAt n5 0 vr ∧ w.rangeAt n6 0 vp ∧ w.there n2 0 82 ∧ w.there n3 0 41 := by
  obtain ⟨z, hz, hl⟩ := h.b2
  obtain ⟨y, hy, hm⟩ := h.b3
  refine ⟨blk_range (xs := []) h.b5, blk_range (xs := []) h.b6, fun j hj => ⟨?_, hz.frozen _⟩, fun j hj => ⟨?_, hy.frozen _⟩⟩
  · rw [hz.cell, List.getElem?_eq_getElem (by omega)]; rfl
  · rw [hy.cell, List.getElem?_eq_getElem (by omega)]; rfl
theorem Four.two {w : World} {n2 n3 n5 n6 : Nat} {vr vp : List Value} (h : Four w n2 n3 n5 n6 vr vp) : Four (w.setCells n2 0 vr) n2 n3 n5 n6 vr vp ∧ Blk (w.setCells n2 0 vr) n2 69 vr := by
  obtain ⟨z, hz, hl⟩ := h.b2
  obtain ⟨y, hy, hm⟩ := h.b3
  have T : Touch (fun k => k = n2) w (w.setCells n2 0 vr) := setCells_touch _ _ _ _
  have K := Blk.setCells vr 0 z w hz (by rw [h.l5, hl]; exact Nat.le_refl _)
  have n := h.n25
  rw [splice_all (by rw [h.l5, hl])] at K
  exact ⟨⟨h.b5.touch T (by omega), h.b6.touch T (by omega), ⟨_, K, h.l5⟩, ⟨y, hy.touch T (by omega), hm⟩, h.l5, h.l6, n⟩, K⟩
theorem Four.three {w : World} {n2 n3 n5 n6 : Nat} {vr vp : List Value} (h : Four w n2 n3 n5 n6 vr vp) : Four (w.setCells n3 0 vp) n2 n3 n5 n6 vr vp ∧ Blk (w.setCells n3 0 vp) n3 71 vp := by
  obtain ⟨z, hz, hl⟩ := h.b2
  obtain ⟨y, hy, hm⟩ := h.b3
  have T : Touch (fun k => k = n3) w (w.setCells n3 0 vp) := setCells_touch _ _ _ _
  have K := Blk.setCells vp 0 y w hy (by rw [h.l6, hm]; exact Nat.le_refl _)
  have n := h.n25
  rw [splice_all (by rw [h.l6, hm])] at K
  exact ⟨⟨h.b5.touch T (by omega), h.b6.touch T (by omega), ⟨z, hz.touch T (by omega), hl⟩, ⟨_, K, h.l6⟩, h.l5, h.l6, n⟩, K⟩
/-- Both are stored. -/
theorem Four.both {w : World} {n2 n3 n5 n6 : Nat} {vr vp : List Value} (h : Four w n2 n3 n5 n6 vr vp) : (Blk ((w.setCells n2 0 vr).setCells n3 0 vp) n2 69 vr ∧ Blk ((w.setCells n2 0 vr).setCells n3 0 vp) n3 71 vp) ∧
    Blk ((w.setCells n3 0 vp).setCells n2 0 vr) n2 69 vr ∧ Blk ((w.setCells n3 0 vp).setCells n2 0 vr) n3 71 vp := by
  have n := h.n25
  exact ⟨⟨h.two.2.touch (setCells_touch _ _ _ _) (by omega), h.two.1.three.2⟩, h.three.1.two.2, h.three.2.touch (setCells_touch _ _ _ _) (by omega)⟩
theorem Four.runs {w : World} {n2 n3 n5 n6 : Nat} {vr vp : List Value} (h : Four w n2 n3 n5 n6 vr vp) (o1 : ∀ v ∈ vr, v.oneCell' = true) (o2 : ∀ v ∈ vp, v.oneCell' = true) :
    (loadVar 69 ⟨n5, 0, none⟩).run Tryz.prog w = .ok (.agg vr.toArray) w ∧ (loadVar 71 ⟨n6, 0, none⟩).run Tryz.prog w = .ok (.agg vp.toArray) w ∧ (loadVar 71 ⟨n6, 0, none⟩).run Tryz.prog (w.setCells n2 0 vr) = .ok (.agg vp.toArray) (w.setCells n2 0 vr) ∧
    (storeVar 69 ⟨n2, 0, none⟩ (.agg vr.toArray)).run Tryz.prog w = .ok () (w.setCells n2 0 vr) ∧ (storeVar 71 ⟨n3, 0, none⟩ (.agg vp.toArray)).run Tryz.prog (w.setCells n2 0 vr) = .ok () ((w.setCells n2 0 vr).setCells n3 0 vp) ∧
    Blk ((w.setCells n2 0 vr).setCells n3 0 vp) n2 69 vr ∧ Blk ((w.setCells n2 0 vr).setCells n3 0 vp) n3 71 vp := by
  have k := h.keep
  have k2 := h.two.1.keep
  refine ⟨run_loadVar_mid _ _ _ _ vr _ k.1 Tryz.underlying69 rfl (by rw [sizeR, h.l5]), run_loadVar_mid _ _ _ _ vp _ k.2.1 Tryz.underlying71 rfl (by rw [sizeP, h.l6]), run_loadVar_mid _ _ _ _ vp _ k2.2.1 Tryz.underlying71 rfl (by rw [sizeP, h.l6]),
    run_storeVar_mid _ _ _ _ vr.toArray (by rw [List.size_toArray, h.l5]; exact k.2.2.1) (by rw [sizeR, List.size_toArray, h.l5]) (all_oneCell_toArray o1), run_storeVar_mid _ _ _ _ vp.toArray (by rw [List.size_toArray, h.l6]; exact k2.2.2.2) (by rw [sizeP, List.size_toArray, h.l6]) (all_oneCell_toArray o2), h.both.1⟩
/-- What is read, once all are read. -/
theorem read_some {H : List (List Nat)} {rs rs' : Recs} {a a' : Places} (h : ids0 H = some (rs, a)) (h' : Reading H rs' a') : rs' = rs ∧ a' = a := by
  have := h'.1
  rw [h] at this
  injection this with this
  injection this with h1 h2
  exact ⟨h1.symm, h2.symm⟩

set_option maxHeartbeats 6400000 in
theorem read_all (gp m : Nat) (H : List (List Nat)) (w : World) (hP : PgC w gp H) (hH : H.length = m) (h0 : 0 < m) (hm : m ≤ 900) :
    Calls Tryz.prog 50 #[.slice (some ⟨gp, 0, none⟩) m m] w (ReadAns H w) := by
  have hmk : ∀ w, (Instr.makeSlice 102 (.int .i64 m) (.int .i64 m)).run Tryz.prog w = .ok (.slice (some ⟨w.heap.size, 0, none⟩) m m) (w.alloc (.cells (flags (fun _ => false) m).toArray 4)) := fun w => make_bools m (by omega) w
  have HH := Lib.hid hH
  have HPg : Hid (∀ wx, Old w wx → PgC wx gp H) := fun wx T => hP.old T
  have HTk := Lib.hid hP.trk
  have hmn : ¬ (m : Int) < 0 := by omega
  have HF := Lib.hid (five_new m w)
  clear hP hH
  go_enter Tryz.func50, Tryz.ntmps50
  go_wp2_with (first
    | (with_reducible refine wpList_alloc_recs (op := ⟨some 2, _, _, _, _, _⟩) rfl rfl ?_)
    | (with_reducible refine wpList_alloc_places (op := ⟨some 3, _, _, _, _, _⟩) rfl rfl ?_)
    | (with_reducible refine wpList_alloc_recs (op := ⟨some 5, _, _, _, _, _⟩) rfl rfl ?_)
    | (with_reducible refine wpList_alloc_places (op := ⟨some 6, _, _, _, _, _⟩) rfl rfl ?_))
  clear hmk
  generalize ((((w.alloc (.cells noRecs.toArray 69)).alloc (.cells noPlaces.toArray 71)).alloc (.cells noRecs.toArray 69)).alloc (.cells noPlaces.toArray 71)).alloc (.cells (flags (fun _ => false) m).toArray 4) = w1 at *
  obtain ⟨n2, e2⟩ : ∃ n, w.heap.size = n := ⟨_, rfl⟩
  rw [e2] at HF ⊢
  obtain ⟨n3, e3⟩ : ∃ n, n2 + 1 = n := ⟨_, rfl⟩
  rw [e3] at HF ⊢
  obtain ⟨n5, e5⟩ : ∃ n, n3 + 1 = n := ⟨_, rfl⟩
  rw [e5] at HF ⊢
  obtain ⟨n6, e6⟩ : ∃ n, n5 + 1 = n := ⟨_, rfl⟩
  rw [e6] at HF ⊢
  obtain ⟨nt, et⟩ : ∃ n, n6 + 1 = n := ⟨_, rfl⟩
  rw [et] at HF ⊢
  have HE : Hid (w.heap.size = n2 ∧ n2 < n3 ∧ n3 < n5 ∧ n5 < n6 ∧ n6 < nt) := ⟨e2, by omega, by omega, by omega, by omega⟩
  clear e2 e3 e5 e6 et
  have HC0 : Hid (readIds H (41 - 1) 1 (fun _ => false) [none] [[]] = ids0 H) := rfl
  have HR0 : Hid (Rcs w1 n5 ([none] ++ rs0.drop 1)) := ⟨noRecs, HF.out.b5, rv0 _⟩
  have HP0 : Hid (Pls w1 n6 ([[]] ++ ps0.drop 1)) := ⟨noPlaces, HF.out.b6, pv0 _⟩
  have HT0 := Lib.hid HF.out.bt
  have HU0 : Hid (Outs w1 n2 n3) := ⟨⟨noRecs, HF.out.b2, noRecs_length⟩, ⟨noPlaces, HF.out.b3, rfl⟩⟩
  have HO0 := Lib.hid HF.out.old
  have HRd : Hid (∀ rs a, Reading H rs a ↔ ids0 H = some (rs, a) ∧ Stands H (layW rs a H.length)) := fun _ _ => Iff.rfl
  have HIv : Hid (∀ rs a, ids0 H = some (rs, a) → Vld rs a m) := fun rs a h => by rw [← HH.out]; exact ids_vld HTk.out (by rw [HH.out]; exact h0) h
  clear HF
  generalize ids0 H = RI at *
  go_loopw [8] (fun i wx => ∃ (id : Nat) (tk : Nat → Bool) (rs : Recs) (a : Places), 1 ≤ id ∧ id ≤ 41 ∧ i = .int .i64 (id : Int) ∧ rs.length = id ∧ a.length = id ∧ Hid (readIds H (41 - id) id tk rs a = RI) ∧ Hid (Rcs wx n5 (rs ++ rs0.drop id)) ∧ Hid (Pls wx n6 (a ++ ps0.drop id)) ∧ Hid (Blk wx nt 4 (flags tk m)) ∧ Hid (Outs wx n2 n3) ∧ Hid (Old w wx)) (fun i _ => 41 - (intOf i).toNat)
  case atStart => exact ⟨1, _, [none], [[]], by omega, by omega, rfl, rfl, rfl, HC0, HR0, HP0, HT0, HU0, HO0⟩
  case round =>
    obtain ⟨id, tk, rs, a, h1, h41, rfl, hrs, ha, HC, HR, HP, HT, HU, HO⟩ := hrel
    clear HC0 HR0 HP0 HT0 HU0 HO0
    have HLr := Lib.hid hrs
    have HLa := Lib.hid ha
    clear hrs ha
    by_cases hlt : id < 41
    · obtain ⟨b, hb⟩ := get_of_lt (l := H) (n := 0) (by rw [HH.out]; exact h0)
      obtain ⟨hp, op, cp, hcp, hcp9, hTr, hB⟩ := (HPg.out wr HO.out).get hb
      obtain ⟨q, hq⟩ : ∃ q, 2 + id * 2 = q := ⟨_, rfl⟩
      have hroot : rootAt H id = numAt b q := by unfold rootAt; rw [getD_of hb, hq]
      have hNum := Lib.hid (vnumber_any hp (op + q) ((b.drop q).take (96 - q)) (96 - q) (cp - q) wr (hB.has.part q (96 - q)) (by rw [List.length_take, List.length_drop, hTr.len]; omega) (by omega))
      have hnn : num ((b.drop q).take (96 - q)) 2 = numAt b q := by unfold numAt; exact num_take _ (96 - q) 2 (by omega)
      rw [hnn] at hNum
      have hlt6 := numAt_lt b q hTr.byte
      have hwa : IntKind.i64.wrap ((id : Int) - 1) = (id : Int) - 1 := wrap_fits ⟨by omega, by omega⟩
      have hwb : IntKind.i64.wrap (((id : Int) - 1) * 2) = ((id : Int) - 1) * 2 := wrap_fits ⟨by omega, by omega⟩
      have hwc : IntKind.i64.wrap (4 + ((id : Int) - 1) * 2) = (q : Int) := by
        rw [show 4 + ((id : Int) - 1) * 2 = (q : Int) by omega]
        exact wrap_fits ⟨by omega, by omega⟩
      have hq1 : (0 : Int) ≤ (q : Int) := by omega
      have hq2 : (q : Int) ≤ 96 := by omega
      have hq3 : q ≤ 96 := by omega
      have hq4 : ¬ cp = q := by omega
      have i40 : (id : Int) ≤ 40 := by omega
      have hm0 : (0 : Int) < (m : Int) := by omega
      have hCn := readIds_next H (40 - id) id tk rs a _ hroot
      rw [show 40 - id + 1 = 41 - id by omega] at hCn
      rw [hCn] at HC
      clear hq hroot hnn hb hB hTr hcp9 hCn
      generalize numAt b q = k at *
      go_wp2_with fail
      refine hNum.out.mono ?_
      rintro x w2 ⟨rfl, O2⟩
      have HR2 := Lib.hid (HR.out.old O2)
      have HP2 := Lib.hid (HP.out.old O2)
      have HT2 := Lib.hid (HT.out.touch O2 (fun q => q))
      have HU2 := Lib.hid (HU.out.touch O2 (fun q => q) (fun q => q))
      have HO2 := Lib.hid (HO.out.trans O2)
      clear HR HP HT HU HO O2 hNum hcp hwa hwb hwc hq1 hq2 hq3 hq4
      by_cases hk : k = 0
      · subst hk
        rw [if_pos rfl] at HC
        have HRn : Hid (Rcs w2 n5 ((rs ++ [none]) ++ rs0.drop (id + 1))) := by
          show Rcs _ _ _
          unfold rs0
          rw [← ext_skip hlt]
          exact HR2.out
        have HPn : Hid (Pls w2 n6 ((a ++ [[]]) ++ ps0.drop (id + 1))) := by
          show Pls _ _ _
          unfold ps0
          rw [← ext_skip hlt]
          exact HP2.out
        have HCn : Hid (readIds H (41 - (id + 1)) (id + 1) tk (rs ++ [none]) (a ++ [[]]) = RI) := by
          show _ = _
          rw [show 41 - (id + 1) = 40 - id by omega]
          exact HC.out
        have hl1 : (rs ++ [none]).length = id + 1 := by rw [List.length_append, HLr.out]; rfl
        have hl2 : (a ++ [[]]).length = id + 1 := by rw [List.length_append, HLa.out]; rfl
        clear HR2 HP2 HC
        go_wp2_with fail
        exact ⟨⟨id + 1, tk, rs ++ [none], a ++ [[]], by omega, by omega, by go_num, hl1, hl2, HCn, HRn, HPn, HT2, HU2, HO2⟩, by simp [intOf]; omega⟩
      · rw [if_neg hk] at HC
        have hkb : ((k : Int) == 0) = false := by simp only [beq_eq_false_iff_ne]; omega
        have hkn : ¬ (k : Int) = 0 := by omega
        have HRr := Lib.hid (readRecord_any gp nt m k H tk w2 (HPg.out w2 HO2.out) HH.out HT2.out hk hlt6 (by omega))
        go_wp2_with fail
        refine HRr.out.mono ?_
        rintro x w3 ⟨T3, hx⟩
        have hne : n5 ≠ nt ∧ n6 ≠ nt ∧ n2 ≠ nt ∧ n3 ≠ nt ∧ w.heap.size ≤ nt := by have := HE.out; omega
        have HR3 := Lib.hid (HR2.out.touch T3 hne.1 (fun j cs hj => hj.ne HT2.out (by decide)))
        have HP3 := Lib.hid (HP2.out.touch T3 hne.2.1 (fun j cs hj => hj.ne HT2.out (by decide)))
        have HU3 := Lib.hid (HU2.out.touch T3 hne.2.2.1 hne.2.2.2.1)
        have HO3 := Lib.hid (HO2.out.own T3 hne.2.2.2.2)
        clear T3 hne HR2 HP2 HU2 HO2 HT2 HRr
        rcases hx with ⟨hn, rfl⟩ | ⟨bs, ks, tk', pb, cb, pa, ca, hs, rfl, hcb, hBb, hca, hIa, hbt⟩
        · rw [hn] at HC
          have HRI : Hid (∀ rs a, ¬ Reading H rs a) := fun rs a h => by
            have := ((HRd.out rs a).1 h).1
            rw [← HC.out] at this
            cases this
          obtain ⟨⟨v2, hb2, hl2⟩, ⟨v3, hb3, hl3⟩⟩ := HU3.out
          have HB2 := Lib.hid hb2
          have HB3 := Lib.hid hb3
          have HL2 := Lib.hid hl2
          have HL3 := Lib.hid hl3
          have hn1 := noRecs_length
          clear hb2 hb3 hl2 hl3 HC HR3 HP3 hn
          go_wp2_with (first
            | (with_reducible refine wpList_build_recs (op := ⟨some 43, _, _, _, _, _⟩) rfl rfl ?_)
            | (with_reducible refine wpList_build_places (op := ⟨some 44, _, _, _, _, _⟩) rfl rfl ?_)
            | ((with_reducible refine wpList_store_cells (op := ⟨none, .store 69 _ _, _, _, _, _⟩) rfl 69 (.tmp 2) (.tmp 43) rfl n2 0 noRecs rfl rfl (by rw [noRecs_length]; exact sizeR) (rv0 w3).one 69 v2 (by rw [HL2.out, noRecs_length]; exact Nat.le_refl _) HB2.out ?_); intro w4 K4 T4
               have HB34 := Lib.hid (HB3.out.touch T4 (by have := HE.out; intro e; have e' : n3 = n2 := e; omega)))
            | ((with_reducible refine wpList_store_cells (op := ⟨none, .store 71 _ _, _, _, _, _⟩) rfl 71 (.tmp 3) (.tmp 44) rfl n3 0 noPlaces rfl rfl (by rw [noPlaces_length]; exact sizeP) (pv0 w3).one 71 v3 (by rw [HL3.out, noPlaces_length]; exact Nat.le_refl _) HB34.out ?_); intro w5 K5 T5))
          rw [splice_all (by rw [HL2.out, hn1])] at K4
          rw [splice_all (by rw [HL3.out]; rfl)] at K5
          have HO5 : Old w w5 := (HO3.out.own T4 (by rw [HE.out.1]; exact Nat.le_refl _)).own T5 (by rw [HE.out.1]; have := HE.out; omega)
          refine ⟨rfl, .tuple #[.agg noRecs.toArray, .agg noPlaces.toArray, .bool false], ?_, HO5, .inl ⟨rfl, HRI.out⟩⟩
          exact read_fin rfl rfl rfl (K4.touch T5 (by have := HE.out; omega)) noRecs_length K5 rfl
        · rw [hs] at HC
          have HCn : Hid (readIds H (41 - (id + 1)) (id + 1) tk' (rs ++ [some bs]) (a ++ [ks]) = RI) := by
            show _ = _
            rw [show 41 - (id + 1) = 40 - id by omega]
            exact HC.out
          have hlr : (rs ++ rs0.drop id).length = 41 := by rw [List.length_append, List.length_drop, HLr.out]; show id + (41 - id) = 41; omega
          have hlp : (a ++ ps0.drop id).length = 41 := by rw [List.length_append, List.length_drop, HLa.out]; show id + (41 - id) = 41; omega
          obtain ⟨v1, v2, h1, f1, h2, f2⟩ := HR3.out.cells (i := id) (by rw [hlr]; exact hlt)
          obtain ⟨z, hz, hfz⟩ := HP3.out.cell (i := id) (by rw [hlp]; exact hlt)
          have HBb := Lib.hid hBb
          have HIa := Lib.hid hIa
          have HTb := Lib.hid hbt
          have HCb := Lib.hid hcb
          have HCa := Lib.hid hca
          have hne : n5 ≠ n6 := by have := HE.out; omega
          have hne' : n6 ≠ n5 := fun e => hne e.symm
          have i0 : (0 : Int) ≤ (id : Int) := by omega
          have i41 : (id : Int) < 41 := by omega
          clear hs HC hlr hlp hBb hIa hbt hcb hca
          go_wp2_with (first
            | (with_reducible refine wpList_build_rec (op := ⟨some 48, _, _, _, _, _⟩) rfl _ _ rfl true pb bs.length cb rfl rfl ?_))
          obtain ⟨R4, P4, T4⟩ := put3 (i := id) HR3.out HP3.out hne HCb.out HBb.out HCa.out HIa.out
          have hE := HE.out
          have hTb := HTb.out.touch T4 (by omega)
          have hU := HU3.out.touch T4 (by omega) (by omega)
          have hO : Old w (((w3.setCell ⟨n5, id * 2, none⟩ (.bool true)).setCell ⟨n5, id * 2 + 1, none⟩ (.slice pb bs.length cb)).setCell ⟨n6, id, none⟩ (.slice pa ks.length ca)) := ((HO3.out.setCell (.inr (by show w.heap.size ≤ n5; omega)) _).setCell (.inr (by show w.heap.size ≤ n5; omega)) _).setCell (.inr (by show w.heap.size ≤ n6; omega)) _
          rw [ext_set (some bs) HLr.out (show id < rs0.length from hlt)] at R4
          rw [ext_set ks HLa.out (show id < ps0.length from hlt)] at P4
          exact ⟨⟨id + 1, tk', rs ++ [some bs], a ++ [ks], by omega, by omega, by go_num, by rw [List.length_append, HLr.out]; rfl, by rw [List.length_append, HLa.out]; rfl, HCn, R4, P4, hTb, hU, hO⟩, by simp [intOf]; omega⟩
    · obtain rfl : id = 41 := by omega
      rw [show ((41 : Nat) : Int) = 41 from rfl]
      have hI : RI = some (rs, a) := HC.out.symm
      subst hI
      have hV := HIv.out rs a rfl
      have HVd := Lib.hid hV
      have hR : Rcs wr n5 rs := by have := HR.out; rwa [show rs0.drop 41 = [] from rfl, List.append_nil] at this
      have hP : Pls wr n6 a := by have := HP.out; rwa [show ps0.drop 41 = [] from rfl, List.append_nil] at this
      have HR9 := Lib.hid hR
      have HP9 := Lib.hid hP
      have HLy := Lib.hid (lay_any6 n5 0 n6 0 m rs a wr hR.at_ hP.at_ HLr.out HLa.out (by obtain ⟨vs, hb, _⟩ := hR; exact ⟨_, _, hb, by decide⟩) (by obtain ⟨vs, hb⟩ := hP.blk; exact ⟨_, _, hb, by decide⟩)
        (fun ks hks k hk => hV.lt k (List.mem_flatten.2 ⟨ks, hks, hk⟩)) (by omega) h0 (fun b hb => by
          obtain ⟨i, hi⟩ := List.getElem?_of_mem hb
          obtain ⟨ks, hks⟩ := get_of_lt (l := a) (n := i) (by have := lt_of_get hi; rw [HLr.out] at this; rw [HLa.out]; exact this)
          exact (hV.ok i _ ks hi hks).2.1) (fun ks hks => by
          obtain ⟨i, hi⟩ := List.getElem?_of_mem hks
          obtain ⟨r, hr⟩ := get_of_lt (l := rs) (n := i) (by have := lt_of_get hi; rw [HLa.out] at this; rw [HLr.out]; exact this)
          have := hV.ok i r ks hr hi
          cases r with
          | none => have e : ks = [] := this; subst e; exact Nat.zero_le _
          | some b => have e : ks.length = takesN b.length := this.2.2; have := takesN_le this.2.1; omega))
      clear hV hR hP HR HP HC HIv
      go_wp2_with (first | ((with_reducible refine HLy.out.mono ?_); rintro x w9 ⟨g9, rfl, hg9, W9, O9⟩
                            have HG9 := Lib.hid hg9
                            have HW9 := Lib.hid W9
                            have HO9 := Lib.hid (HO.out.trans O9)
                            have HR8 := Lib.hid (HR9.out.old O9)
                            have HP8 := Lib.hid (HP9.out.old O9)
                            have HU9 := Lib.hid (HU.out.touch O9 (fun q => q) (fun q => q))
                            clear hg9 W9 O9 HR9 HP9 HLy HO HU))
      have hneq := neq_nil
      go_loopw [56] (fun i wx => ∃ t : Nat, t ≤ m ∧ i = .int .i64 t ∧ wx = w9 ∧ Hid (∀ j, j < t → ∀ b, (layW rs a m).getD j none = some b → b = H.getD j [])) (fun i _ => m - (intOf i).toNat)
      case atStart => exact ⟨0, by omega, rfl, rfl, fun j hj => absurd hj (Nat.not_lt_zero _)⟩
      case round =>
        obtain ⟨t, hle, rfl, rfl, HSt⟩ := hrel
        by_cases hlt2 : t < m
        · obtain ⟨x, hx⟩ := get_of_lt (l := layW rs a m) (n := t) (by rw [layW_length]; exact hlt2)
          obtain ⟨b, hb⟩ := get_of_lt (l := H) (n := t) (by rw [HH.out]; exact hlt2)
          obtain ⟨vx, hcx, hsx⟩ := HW9.out.slot hx
          obtain ⟨hp, op, cp, hcp, hcp9, hTr, hB⟩ := (HPg.out _ HO9.out).get hb
          have i0 : (0 : Int) ≤ (t : Int) := by omega
          have i1 : (t : Int) < (m : Int) := by omega
          have HX := Lib.hid hx
          have HBt := Lib.hid hb
          cases x with
          | none =>
            have hv : vx = .slice none 0 0 := hsx
            subst hv
            have HSn : Hid (∀ j, j < t + 1 → ∀ b, (layW rs a m).getD j none = some b → b = H.getD j []) := fun j hj b hjb => by
              rcases Nat.lt_or_eq_of_le (Nat.le_of_lt_succ hj) with q | rfl
              · exact HSt.out j q b hjb
              · rw [getD_of HX.out] at hjb; cases hjb
            clear hsx hx hb hB hTr HSt
            go_wp2_with fail
            exact ⟨⟨t + 1, by omega, by go_num, trivial, HSn⟩, by simp [intOf]; omega⟩
          | some c =>
            obtain ⟨ha, oa, rfl, hTc, hBc⟩ := hsx
            have HQ := Lib.hid (equal_any (some ⟨ha, oa, none⟩) (some ⟨hp, op, none⟩) c b 96 96 96 cp _ hBc.has hB.has hTc.len hTr.len)
            clear hx hb hB hTr hTc hBc
            by_cases hcb : c = b
            · have HSn : Hid (∀ j, j < t + 1 → ∀ b, (layW rs a m).getD j none = some b → b = H.getD j []) := fun j hj b' hjb => by
                rcases Nat.lt_or_eq_of_le (Nat.le_of_lt_succ hj) with q | rfl
                · exact HSt.out j q b' hjb
                · rw [getD_of HX.out] at hjb
                  injection hjb with hjb
                  rw [← hjb, getD_of HBt.out, hcb]
              have hd : decide (c = b) = true := decide_eq_true hcb
              rw [hd] at HQ
              clear hd hcb HSt
              go_wp2_with fail
              refine HQ.out.mono ?_
              rintro x w' ⟨rfl, rfl⟩
              go_wp2_with fail
              exact ⟨⟨t + 1, by omega, by go_num, trivial, HSn⟩, by simp [intOf]; omega⟩
            · have hd : decide (c = b) = false := decide_eq_false hcb
              rw [hd] at HQ
              have HRI : Hid (∀ rs a, ¬ Reading H rs a) := fun rs' a' h' => by
                obtain ⟨e, hS⟩ := (HRd.out rs' a').1 h'
                injection e with e
                injection e with e1 e2
                subst e1 e2
                rw [HH.out] at hS
                have := hS t (by rw [HH.out]; exact hlt2) c (getD_of HX.out)
                rw [getD_of HBt.out] at this
                exact hcb this
              obtain ⟨⟨v2, hb2, hl2⟩, ⟨v3, hb3, hl3⟩⟩ := HU9.out
              have HB2 := Lib.hid hb2
              have HB3 := Lib.hid hb3
              have HL2 := Lib.hid hl2
              have HL3 := Lib.hid hl3
              have hn1 := noRecs_length
              clear hb2 hb3 hl2 hl3 hcb hd HSt
              go_wp2_with fail
              refine HQ.out.mono ?_
              rintro x w3 ⟨rfl, rfl⟩
              go_wp2_with (first
                | (with_reducible refine wpList_build_recs (op := ⟨some 72, _, _, _, _, _⟩) rfl rfl ?_)
                | (with_reducible refine wpList_build_places (op := ⟨some 73, _, _, _, _, _⟩) rfl rfl ?_)
                | ((with_reducible refine wpList_store_cells (op := ⟨none, .store 69 _ _, _, _, _, _⟩) rfl 69 (.tmp 2) (.tmp 72) rfl n2 0 noRecs rfl rfl (by rw [noRecs_length]; exact sizeR) (rv0 wr).one 69 v2 (by rw [HL2.out, noRecs_length]; exact Nat.le_refl _) HB2.out ?_); intro w4 K4 T4
                   have HB34 := Lib.hid (HB3.out.touch T4 (by have := HE.out; intro e; have e' : n3 = n2 := e; omega)))
                | ((with_reducible refine wpList_store_cells (op := ⟨none, .store 71 _ _, _, _, _, _⟩) rfl 71 (.tmp 3) (.tmp 73) rfl n3 0 noPlaces rfl rfl (by rw [noPlaces_length]; exact sizeP) (pv0 wr).one 71 v3 (by rw [HL3.out, noPlaces_length]; exact Nat.le_refl _) HB34.out ?_); intro w5 K5 T5))
              rw [splice_all (by rw [HL2.out, hn1])] at K4
              rw [splice_all (by rw [HL3.out]; rfl)] at K5
              have HO5 : Old w w5 := (HO9.out.own T4 (by rw [HE.out.1]; exact Nat.le_refl _)).own T5 (by rw [HE.out.1]; have := HE.out; omega)
              refine ⟨rfl, .tuple #[.agg noRecs.toArray, .agg noPlaces.toArray, .bool false], ?_, HO5, .inl ⟨rfl, HRI.out⟩⟩
              exact read_fin rfl rfl rfl (K4.touch T5 (by have := HE.out; omega)) noRecs_length K5 rfl
        · obtain rfl : t = m := by omega
          have HRG : Hid (Reading H rs a) := (HRd.out rs a).2 ⟨rfl, fun k hk b hb => HSt.out k (by rw [HH.out] at hk; exact hk) b (by rw [HH.out] at hb; exact hb)⟩
          obtain ⟨vr, hr5, hrv⟩ := HR8.out
          obtain ⟨vp, hp6, hpv⟩ := HP8.out
          have TD : Old wr wr.drew := (Touch.refl _ wr).drew
          have HFo : Hid (Four wr.drew n2 n3 n5 n6 vr vp) := ⟨hr5.touch TD (fun q => q), hp6.touch TD (fun q => q), by
            obtain ⟨z, hz, hl⟩ := HU9.out.1; exact ⟨z, hz.touch TD (fun q => q), hl⟩, by
            obtain ⟨z, hz, hl⟩ := HU9.out.2; exact ⟨z, hz.touch TD (fun q => q), hl⟩, by rw [hrv.1, HLr.out], by rw [hpv.1, HLa.out], by have := HE.out; omega⟩
          have t1 : Touch (fun k => k = n2) wr.drew (wr.drew.setCells n2 0 vr) := setCells_touch _ _ _ _
          have t2 : Touch (fun k => k = n3) (wr.drew.setCells n2 0 vr) ((wr.drew.setCells n2 0 vr).setCells n3 0 vp) := setCells_touch _ _ _ _
          have HOd := Lib.hid (((HO9.out.trans TD).own t1 (by rw [HE.out.1]; exact Nat.le_refl _)).own t2 (by have := HE.out; omega))
          have hk : ∀ {t' : TypeId}, t' ≠ 69 → t' ≠ 71 → ∀ k cs, Blk wr k t' cs → Blk ((wr.drew.setCells n2 0 vr).setCells n3 0 vp) k t' cs := fun {t'} h1 h2 k cs hk => by
            obtain ⟨z, hz, _⟩ := HFo.out.b2
            obtain ⟨y, hy, _⟩ := HFo.out.two.1.b3
            have k1 := hk.touch TD (fun q => q)
            have k2 := k1.touch t1 (k1.ne hz h1)
            exact k2.touch t2 (k2.ne hy h2)
          have HRV := Lib.hid (hrv.keep (hk (by decide) (by decide)))
          have HPV := Lib.hid (hpv.keep (hk (by decide) (by decide)))
          clear hk
          obtain ⟨hA, hB, hB2, hC, hD, hR2, hR3⟩ := HFo.out.runs hrv.one hpv.one
          have HEnd : Hid (∀ tmps : Array Value, tmps.getD 2 undef = .pointer (some ⟨n2, 0, none⟩) → tmps.getD 3 undef = .pointer (some ⟨n3, 0, none⟩) → tmps.getD 4 undef = .bool true → bodyPost Tryz.prog Tryz.f50 (ReadAns H w) Exit.ret ⟨tmps, []⟩ ((wr.drew.setCells n2 0 vr).setCells n3 0 vp)) := fun tmps q2 q3 q4 =>
            ⟨rfl, _, read_fin q2 q3 q4 hR2 HFo.out.l5 hR3 HFo.out.l6, HOd.out, .inr ⟨rs, a, vr, vp, HRG.out, rfl, HRV.out, HPV.out⟩⟩
          clear hr5 hp6 hrv hpv HSt TD hR2 hR3 t1 t2
          go_wp2_with fail
          refine wp_region_any (by kernel_rfl) ?_
          change wpAny _ _ _ _ _ _ _ (World.drew _)
          generalize wr.drew = wd at *
          refine wpAny_ready (rs := [0, 1]) (by kernel_rfl) (by simp) (AllReady.cons (o := ⟨some 75, _, _, _, _, _⟩) rfl (fun K hK => ?_) (AllReady.cons (o := ⟨some 76, _, _, _, _, _⟩) rfl (fun K hK => ?_) AllReady.nil))
          · refine step_load rfl 69 (.tmp 5) rfl ⟨n5, 0, none⟩ rfl _ hA (hK _ _ ?_)
            clear hK K
            simp only [Act.put, List.setIfInBounds_toArray, List.set_cons_zero, List.set_cons_succ]
            refine wpAny_ready (rs := [1, 2]) (by kernel_rfl) (by simp) (AllReady.cons (o := ⟨some 76, _, _, _, _, _⟩) rfl (fun K hK => ?_) (AllReady.cons (o := ⟨none, _, _, _, _, _⟩) rfl (fun K hK => ?_) AllReady.nil))
            · refine step_load rfl 71 (.tmp 6) rfl ⟨n6, 0, none⟩ rfl _ hB (hK _ _ ?_)
              clear hK K
              simp only [Act.put, List.setIfInBounds_toArray, List.set_cons_zero, List.set_cons_succ]
              refine wpAny_ready (rs := [2]) (by kernel_rfl) (by simp) (AllReady.cons (o := ⟨none, _, _, _, _, _⟩) rfl (fun K hK => ?_) AllReady.nil)
              refine step_store rfl 69 (.tmp 2) (.tmp 75) rfl ⟨n2, 0, none⟩ rfl (.agg vr.toArray) rfl _ hC (hK _ _ ?_)
              clear hK K
              simp only [Act.put]
              refine wpAny_ready (rs := [3]) (by kernel_rfl) (by simp) (AllReady.cons (o := ⟨none, _, _, _, _, _⟩) rfl (fun K hK => ?_) AllReady.nil)
              refine step_store rfl 71 (.tmp 3) (.tmp 76) rfl ⟨n3, 0, none⟩ rfl (.agg vp.toArray) rfl _ hD (hK _ _ ?_)
              clear hK K
              simp only [Act.put]
              refine wpAny_take (i := 4) (oi := ⟨some 4, _, _, _, _, _⟩) (v := .bool true) rfl (by kernel_rfl) (by kernel_rfl) (by kernel_rfl) (fun _ _ _ h => h) (Or.inl ⟨by rfl, fun w => by rfl⟩) ?_
              simp only [Act.put, List.setIfInBounds_toArray, List.set_cons_zero, List.set_cons_succ]
              refine wpAny_done (by kernel_rfl) ?_ _
              try simp only [Act.put, List.setIfInBounds_toArray, List.set_cons_zero, List.set_cons_succ]
              go_wp2_with fail
              exact HEnd.out _ rfl rfl rfl
            · refine step_store rfl 69 (.tmp 2) (.tmp 75) rfl ⟨n2, 0, none⟩ rfl (.agg vr.toArray) rfl _ hC (hK _ _ ?_)
              clear hK K
              simp only [Act.put]
              refine wpAny_ready (rs := [1]) (by kernel_rfl) (by simp) (AllReady.cons (o := ⟨some 76, _, _, _, _, _⟩) rfl (fun K hK => ?_) AllReady.nil)
              refine step_load rfl 71 (.tmp 6) rfl ⟨n6, 0, none⟩ rfl _ hB2 (hK _ _ ?_)
              clear hK K
              simp only [Act.put, List.setIfInBounds_toArray, List.set_cons_zero, List.set_cons_succ]
              refine wpAny_ready (rs := [3]) (by kernel_rfl) (by simp) (AllReady.cons (o := ⟨none, _, _, _, _, _⟩) rfl (fun K hK => ?_) AllReady.nil)
              refine step_store rfl 71 (.tmp 3) (.tmp 76) rfl ⟨n3, 0, none⟩ rfl (.agg vp.toArray) rfl _ hD (hK _ _ ?_)
              clear hK K
              simp only [Act.put]
              refine wpAny_take (i := 4) (oi := ⟨some 4, _, _, _, _, _⟩) (v := .bool true) rfl (by kernel_rfl) (by kernel_rfl) (by kernel_rfl) (fun _ _ _ h => h) (Or.inl ⟨by rfl, fun w => by rfl⟩) ?_
              simp only [Act.put, List.setIfInBounds_toArray, List.set_cons_zero, List.set_cons_succ]
              refine wpAny_done (by kernel_rfl) ?_ _
              try simp only [Act.put, List.setIfInBounds_toArray, List.set_cons_zero, List.set_cons_succ]
              go_wp2_with fail
              exact HEnd.out _ rfl rfl rfl
          · refine step_load rfl 71 (.tmp 6) rfl ⟨n6, 0, none⟩ rfl _ hB (hK _ _ ?_)
            clear hK K
            simp only [Act.put, List.setIfInBounds_toArray, List.set_cons_zero, List.set_cons_succ]
            refine wpAny_ready (rs := [0]) (by kernel_rfl) (by simp) (AllReady.cons (o := ⟨some 75, _, _, _, _, _⟩) rfl (fun K hK => ?_) AllReady.nil)
            refine step_load rfl 69 (.tmp 5) rfl ⟨n5, 0, none⟩ rfl _ hA (hK _ _ ?_)
            clear hK K
            simp only [Act.put, List.setIfInBounds_toArray, List.set_cons_zero, List.set_cons_succ]
            refine wpAny_ready (rs := [2]) (by kernel_rfl) (by simp) (AllReady.cons (o := ⟨none, _, _, _, _, _⟩) rfl (fun K hK => ?_) AllReady.nil)
            refine step_store rfl 69 (.tmp 2) (.tmp 75) rfl ⟨n2, 0, none⟩ rfl (.agg vr.toArray) rfl _ hC (hK _ _ ?_)
            clear hK K
            simp only [Act.put]
            refine wpAny_ready (rs := [3]) (by kernel_rfl) (by simp) (AllReady.cons (o := ⟨none, _, _, _, _, _⟩) rfl (fun K hK => ?_) AllReady.nil)
            refine step_store rfl 71 (.tmp 3) (.tmp 76) rfl ⟨n3, 0, none⟩ rfl (.agg vp.toArray) rfl _ hD (hK _ _ ?_)
            clear hK K
            simp only [Act.put]
            refine wpAny_take (i := 4) (oi := ⟨some 4, _, _, _, _, _⟩) (v := .bool true) rfl (by kernel_rfl) (by kernel_rfl) (by kernel_rfl) (fun _ _ _ h => h) (Or.inl ⟨by rfl, fun w => by rfl⟩) ?_
            simp only [Act.put, List.setIfInBounds_toArray, List.set_cons_zero, List.set_cons_succ]
            refine wpAny_done (by kernel_rfl) ?_ _
            try simp only [Act.put, List.setIfInBounds_toArray, List.set_cons_zero, List.set_cons_succ]
            go_wp2_with fail
            exact HEnd.out _ rfl rfl rfl
end Go.Proofs.YtjajenkagcdhlaaGreat
