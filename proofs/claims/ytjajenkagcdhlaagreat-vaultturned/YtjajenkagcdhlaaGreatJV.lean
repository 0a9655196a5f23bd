/- A vault in memory, and what its small methods answer. -/
import Derived.Test.YtjajenkagcdhlaaGreatJR
namespace Go.Proofs.YtjajenkagcdhlaaGreat
open Go.RowKit
set_option maxRecDepth 100000

/-- A vault at vp, over the ledger at lp, its budget at x; h: home. -/
structure VM (w : World) (vp lp x h : Nat) (rs rk : Recs) (a : Places) : Prop where
  mem : ∃ vn vk va, Blk w vp 74 (vcells lp vn vk va x) ∧ RV w rs vn ∧ RV w rk vk ∧ PV w a va
  bq : Blk w x 120 (bud (h - 1 - sumT rs) (h - 1))
  rok : RsOk rs
  vld : Vld rk a h
  fit : sumT rs + 1 ≤ h
  home : h ≤ 120
theorem VM.kept {w w' : World} {vp lp x h : Nat} {rs rk : Recs} {a : Places} (m : VM w vp lp x h rs rk a) (k : ∀ t g cs, t ≠ 120 → otherL t → Blk w g t cs → Blk w' g t cs) (b : Blk w x 120 (bud (h - 1 - sumT rs) (h - 1)) → Blk w' x 120 (bud (h - 1 - sumT rs) (h - 1))) : VM w' vp lp x h rs rk a := by
  obtain ⟨⟨vn, vk, va, h1, h2, h3, h4⟩, h5, h6, h7, h8, h9⟩ := m
  exact ⟨⟨vn, vk, va, k _ _ _ (by decide) (by unfold otherL other; decide) h1, h2.keep fun g cs hb => k _ _ _ (by decide) (by unfold otherL other; decide) hb, h3.keep fun g cs hb => k _ _ _ (by decide) (by unfold otherL other; decide) hb, h4.keep fun g cs hb => k _ _ _ (by decide) (by unfold otherL other; decide) hb⟩, b h5, h6, h7, h8, h9⟩
theorem VM.old {w w' : World} {vp lp x h : Nat} {rs rk : Recs} {a : Places} (m : VM w vp lp x h rs rk a) (o : Old w w') : VM w' vp lp x h rs rk a := m.kept (fun _ _ _ _ _ hb => hb.touch o (fun q => q)) (fun hb => hb.touch o (fun q => q))

section
variable {w : World} {vp lp x h d g : Nat} {L : LS} {rs rk : Recs} {a : Places}
theorem VM.lp0 (m : VM w vp lp x h rs rk a) : w.cell? ⟨vp, 0, none⟩ = some (.pointer (some ⟨lp, 0, none⟩)) := by
  obtain ⟨vn, vk, va, h1, _⟩ := m.mem
  rw [h1.cell]
  rfl
theorem VM.bp (m : VM w vp lp x h rs rk a) : w.cell? ⟨vp, 206, none⟩ = some (.pointer (some ⟨x, 0, none⟩)) := by
  obtain ⟨vn, vk, va, h1, h2, h3, h4⟩ := m.mem
  have l1 : vn.length = 82 := by rw [h2.1, m.rok.r41]
  have l2 : vk.length = 82 := by rw [h3.1, m.vld.r41]
  have l3 : va.length = 41 := by rw [h4.1, m.vld.a41]
  rw [h1.cell]
  unfold vcells
  rw [show (206 : Nat) = 205 + 1 from rfl, List.getElem?_cons_succ, List.getElem?_append_right (by omega), l1, List.getElem?_append_right (by omega), l2, List.getElem?_append_right (by omega), l3]
  rfl
theorem VM.frozen (m : VM w vp lp x h rs rk a) (i : Nat) : w.frozen? ⟨vp, i, none⟩ = false := by
  obtain ⟨vn, vk, va, h1, _⟩ := m.mem
  exact h1.frozen i
theorem VM.now (m : VM w vp lp x h rs rk a) : RAt w vp 1 rs := by
  obtain ⟨vn, vk, va, h1, h2, h3, h4⟩ := m.mem
  exact h2.at_ (A := [.pointer (some ⟨lp, 0, none⟩)]) (B := vk ++ (va ++ [.pointer (some ⟨x, 0, none⟩)])) h1
theorem VM.keptAt (m : VM w vp lp x h rs rk a) : RAt w vp 83 rk := by
  obtain ⟨vn, vk, va, h1, h2, h3, h4⟩ := m.mem
  have l1 : vn.length = 82 := by rw [h2.1, m.rok.r41]
  have := h3.at_ (A := .pointer (some ⟨lp, 0, none⟩) :: vn) (B := va ++ [.pointer (some ⟨x, 0, none⟩)]) (w := w) (g := vp) (t := 74) (by simpa [vcells] using h1)
  rwa [List.length_cons, l1] at this
theorem VM.at_ (m : VM w vp lp x h rs rk a) : PAt w vp 165 a := by
  obtain ⟨vn, vk, va, h1, h2, h3, h4⟩ := m.mem
  have l1 : vn.length = 82 := by rw [h2.1, m.rok.r41]
  have l2 : vk.length = 82 := by rw [h3.1, m.vld.r41]
  have := h4.at_ (A := .pointer (some ⟨lp, 0, none⟩) :: (vn ++ vk)) (B := [.pointer (some ⟨x, 0, none⟩)]) (w := w) (g := vp) (t := 74) (by simpa [vcells] using h1)
  rwa [List.length_cons, List.length_append, l1, l2] at this
theorem VM.blk (m : VM w vp lp x h rs rk a) : ∃ vs, Blk w vp 74 vs := by
  obtain ⟨vn, vk, va, h1, _⟩ := m.mem
  exact ⟨_, h1⟩

theorem vtracks_any (h0 : w.cell? ⟨vp, 0, none⟩ = some (.pointer (some ⟨lp, 0, none⟩))) (hL : Blk w lp 129 (lhead d g L)) (hh : L.ws.length = h) : Calls Tryz.prog 20 #[.pointer (some ⟨vp, 0, none⟩)] w fun y w' => y = .returned (.int .i64 (h : Int)) ∧ w = w' := by
  have H := home_any hL
  rw [hh] at H
  have HH := Lib.hid H
  clear H hh
  go_enter Tryz.func20, Tryz.ntmps20
  go_wp2_with (first | (refine HH.out.mono ?_; rintro e w' ⟨rfl, rfl⟩))
  go_ret
  exact ⟨rfl, rfl⟩
theorem vfree_any (m : VM w vp lp x h rs rk a) : Calls Tryz.prog 34 #[.pointer (some ⟨vp, 0, none⟩)] w fun y w' => y = .returned (.int .i64 ((h - 1 - sumT rs : Nat) : Int)) ∧ w = w' := by
  have h0 := m.bp
  have HH := Lib.hid (left_any x _ _ w m.bq)
  go_enter Tryz.func34, Tryz.ntmps34
  go_wp2_with (first | (refine HH.out.mono ?_; rintro e w' ⟨rfl, rfl⟩))
  go_ret
  exact ⟨rfl, rfl⟩
theorem vlost_any (h0 : w.cell? ⟨vp, 0, none⟩ = some (.pointer (some ⟨lp, 0, none⟩))) (hL : Blk w lp 129 (lhead d g L)) : Calls Tryz.prog 23 #[.pointer (some ⟨vp, 0, none⟩)] w fun y w' => y = .returned (.bool L.lost) ∧ w = w' := by
  have HH := Lib.hid (lost_any hL)
  go_enter Tryz.func23, Tryz.ntmps23
  go_wp2_with (first | (refine HH.out.mono ?_; rintro e w' ⟨rfl, rfl⟩))
  go_ret
  exact ⟨rfl, rfl⟩
end

/-- A copy of bytes. -/
theorem clone_nil (w : World) (n c : Nat) : Calls Tryz.prog 53 #[.slice none n c] w fun y w' => y = .returned (.slice none 0 0) ∧ w = w' := by
  have hq := eql_nil none n c
  go_enter Tryz.func53, Tryz.ntmps53
  go_wp2_with fail
  go_ret
  exact ⟨rfl, rfl⟩
theorem Grows.has {w : World} {g c : Nat} {xs : List Nat} (h : Grows w g c xs) : Byt w (some ⟨g, 0, none⟩) xs ∧ xs.length ≤ c := by
  obtain ⟨hb, rest, hr, hl⟩ := h
  have K : Blk w g 5 (cells xs ++ rest) := hr
  refine ⟨⟨⟨hb, fun i hi => ⟨g, 0, rfl, ?_⟩⟩, fun g' o e => by cases e; exact ⟨_, K⟩⟩, by omega⟩
  rw [Nat.zero_add, K.cell, List.getElem?_append_left (by rw [cells_length]; exact hi)]
  exact cells_get xs i hi
theorem copy_any (p : Option Addr) (b : List Nat) (n c : Nat) (w : World) (h : Has w p b) (hn : b.length = n) (hm : n ≤ 1000000) :
    Calls Tryz.prog 53 #[.slice p n c] w fun y w' => ∃ p' c', y = .returned (.slice p' n c') ∧ n ≤ c' ∧ Byt w' p' b ∧ (∀ g o, p' = some ⟨g, o, none⟩ → w.heap.size ≤ g) ∧ Old w w' := by
  cases p with
  | none =>
    have hb : b = [] := by
      cases b with
      | nil => rfl
      | cons y b =>
        obtain ⟨_, _, e, _⟩ := h.cell 0 (by simp)
        cases e
    subst hb
    refine (clone_nil w n c).mono ?_
    rintro y w' ⟨rfl, rfl⟩
    have hz : n = 0 := hn.symm
    subst hz
    exact ⟨none, 0, rfl, Nat.le_refl _, ⟨Has.nil _ _, fun g o e => by cases e⟩, fun g o e => (by cases e), Touch.refl _ _⟩
  | some q =>
    refine (clone_any q b n c w h hn hm).mono ?_
    rintro y w' ⟨g, d, rfl, hg, G, O⟩
    exact ⟨_, d, rfl, by have := G.has.2; omega, G.has.1, fun g' o e => by cases e; exact hg, O⟩
end Go.Proofs.YtjajenkagcdhlaaGreat
/- Get and Drop of a vault. -/
namespace Go.Proofs.YtjajenkagcdhlaaGreat
open Go.RowKit
set_option maxRecDepth 100000

/-- The memory of a vault. -/
def MV (w : World) (vp lp x : Nat) (rs rk : Recs) (a : Places) : Prop := ∃ vn vk va, Blk w vp 74 (vcells lp vn vk va x) ∧ RV w rs vn ∧ RV w rk vk ∧ PV w a va
theorem MV.touch {S : Nat → Prop} {w w' : World} {vp lp x : Nat} {rs rk : Recs} {a : Places} (m : MV w vp lp x rs rk a) (T : Touch S w w') (hv : ¬ S vp) (hs : ∀ t k cs, t = 5 ∨ t = 3 → Blk w k t cs → ¬ S k) : MV w' vp lp x rs rk a := by
  obtain ⟨vn, vk, va, h1, h2, h3, h4⟩ := m
  exact ⟨vn, vk, va, h1.touch T hv, h2.keep fun g cs hb => hb.touch T (hs _ g cs (.inl rfl) hb), h3.keep fun g cs hb => hb.touch T (hs _ g cs (.inl rfl) hb), h4.keep fun g cs hb => hb.touch T (hs _ g cs (.inr rfl) hb)⟩
theorem MV.set {w : World} {vp lp x k n c : Nat} {rs rk : Recs} {a : Places} {p : Option Addr} (r : Rec) (m : MV w vp lp x rs rk a) (hk : k < rs.length) (hn : (bytesOf r).length = n) (hc : n ≤ c) (hB : Byt w p (bytesOf r)) :
    MV ((w.setCell ⟨vp, 1 + k * 2, none⟩ (.bool r.isSome)).setCell ⟨vp, 1 + k * 2 + 1, none⟩ (.slice p n c)) vp lp x (rs.set k r) rk a := by
  obtain ⟨vn, vk, va, h1, h2, h3, h4⟩ := m
  subst hn
  have T : Touch (fun i => i = vp) w ((w.setCell ⟨vp, 1 + k * 2, none⟩ (.bool r.isSome)).setCell ⟨vp, 1 + k * 2 + 1, none⟩ (.slice p (bytesOf r).length c)) := (Touch.one (w := w) ⟨vp, 1 + k * 2, none⟩ _).trans (Touch.one (w := w.setCell ⟨vp, 1 + k * 2, none⟩ (.bool r.isSome)) ⟨vp, 1 + k * 2 + 1, none⟩ _)
  have k5 : ∀ i ds, Blk w i 5 ds → Blk _ i 5 ds := fun i ds hd => hd.touch T (hd.ne h1 (by decide))
  have k3 : ∀ i ds, Blk w i 3 ds → Blk _ i 3 ds := fun i ds hd => hd.touch T (hd.ne h1 (by decide))
  have hb := (h1.set (1 + k * 2) (.bool r.isSome)).set (1 + k * 2 + 1) (.slice p (bytesOf r).length c)
  have e : ((vcells lp vn vk va x).set (1 + k * 2) (.bool r.isSome)).set (1 + k * 2 + 1) (.slice p (bytesOf r).length c) = vcells lp ((vn.set (k * 2) (.bool r.isSome)).set (k * 2 + 1) (.slice p (bytesOf r).length c)) vk va x := by
    unfold vcells
    rw [show 1 + k * 2 = k * 2 + 1 by omega, List.set_cons_succ, List.set_cons_succ, List.set_append_left _ _ (by rw [h2.1]; omega), List.set_append_left _ _ (by rw [List.length_set, h2.1]; omega)]
  rw [e] at hb
  exact ⟨_, vk, va, hb, (h2.keep k5).set r hc (hB.keep k5), h3.keep k5, h4.keep k3⟩
theorem MV.frozen {w : World} {vp lp x : Nat} {rs rk : Recs} {a : Places} (m : MV w vp lp x rs rk a) (i : Nat) : w.frozen? ⟨vp, i, none⟩ = false := by
  obtain ⟨vn, vk, va, h1, _⟩ := m
  exact h1.frozen i
theorem MV.now {w : World} {vp lp x : Nat} {rs rk : Recs} {a : Places} (m : MV w vp lp x rs rk a) : RAt w vp 1 rs := by
  obtain ⟨vn, vk, va, h1, h2, h3, h4⟩ := m
  exact h2.at_ (A := [.pointer (some ⟨lp, 0, none⟩)]) (B := vk ++ (va ++ [.pointer (some ⟨x, 0, none⟩)])) h1
theorem sumT_set : ∀ {rs : Recs} {k : Nat} {r0 : Rec} (r : Rec), rs[k]? = some r0 → sumT (rs.set k r) + takesR r0 = sumT rs + takesR r
  | x :: rs, 0, r0, r, h => by
    injection h with h
    subst h
    show takesR r + sumT rs + takesR x = takesR x + sumT rs + takesR r
    omega
  | x :: rs, k + 1, r0, r, h => by
    have := sumT_set (rs := rs) (k := k) r (by simpa using h)
    show takesR x + sumT (rs.set k r) + takesR r0 = takesR x + sumT rs + takesR r
    omega
  | [], _, _, _, h => by simp at h
theorem RsOk.set {rs : Recs} {k : Nat} {r : Rec} (h : RsOk rs) (hk : 1 ≤ k) (hr : ∀ b, r = some b → (∀ x ∈ b, x < 256) ∧ b.length ≤ 60000) : RsOk (rs.set k r) := by
  refine ⟨by rw [List.length_set, h.r41], ?_, fun i b hi => ?_⟩
  · rw [List.getElem?_set_ne (by omega)]
    exact h.zero
  · by_cases e : k = i
    · subst e
      rw [List.getElem?_set_self (by have := lt_of_get hi; simpa using this)] at hi
      injection hi with hi
      exact hr b hi
    · rw [List.getElem?_set_ne e] at hi
      exact h.ok i b hi
theorem takesR_le {rs : Recs} (h : RsOk rs) {k : Nat} {r : Rec} (hr : rs[k]? = some r) : (bytesOf r).length ≤ 60000 ∧ takesR r ≤ 750 ∧ takesR r ≤ sumT rs := by
  refine ⟨?_, ?_, ?_⟩
  · cases r with
    | none => exact Nat.zero_le _
    | some b => exact (h.ok k b hr).2
  · cases r with
    | none => exact Nat.zero_le _
    | some b => exact takesN_le (h.ok k b hr).2
  · have := sumT_set none hr
    have h0 : takesR none = 0 := rfl
    omega

section
variable {w : World} {vp lp x h : Nat} {rs rk : Recs} {a : Places}
theorem VM.vx (m : VM w vp lp x h rs rk a) : vp ≠ x := by
  obtain ⟨vs, hb⟩ := m.blk
  exact hb.ne m.bq (by decide)
theorem vget_no (v : Option Addr) (w : World) (n : Int) (hn : isId n = false) (hv : v ≠ none) : Calls Tryz.prog 32 #[.pointer v, .int .i64 n] w fun y w' => y = .returned (.tuple #[.slice none 0 0, .bool false]) ∧ w = w' := by
  have HI := Lib.hid (isID_any n w)
  rw [hn] at HI
  obtain ⟨q, rfl⟩ : ∃ q, v = some q := by
    cases v with
    | none => exact absurd rfl hv
    | some q => exact ⟨q, rfl⟩
  clear hn hv
  go_enter Tryz.func32, Tryz.ntmps32
  go_wp2_with (first | (refine HI.out.mono ?_; rintro e w' ⟨rfl, rfl⟩))
  go_ret2
  exact ⟨rfl, rfl⟩
theorem vget_any (m : VM w vp lp x h rs rk a) (k : Nat) (h1 : 1 ≤ k) (h40 : k ≤ 40) (r : Rec) (hr : rs[k]? = some r) : Calls Tryz.prog 32 #[.pointer (some ⟨vp, 0, none⟩), .int .i64 (k : Int)] w fun y w' =>
    ∃ p c, y = .returned (.tuple #[.slice p (bytesOf r).length c, .bool r.isSome]) ∧ (bytesOf r).length ≤ c ∧ Byt w' p (bytesOf r) ∧ (∀ g o, p = some ⟨g, o, none⟩ → w.heap.size ≤ g) ∧ Old w w' := by
  have HI := Lib.hid (isID_any (k : Int) w)
  rw [show isId (k : Int) = true from decide_eq_true ⟨by omega, by omega⟩] at HI
  obtain ⟨p, c, c1, c2, hc, hB⟩ := m.now k r hr
  have hl := (takesR_le m.rok hr).1
  have i0 : (0 : Int) ≤ (k : Int) := by omega
  have i1 : (k : Int) < 41 := by omega
  cases r with
  | none =>
    have HE : Hid (∃ p c, (Ending.returned (.tuple #[.slice none 0 0, .bool false])) = .returned (.tuple #[.slice p (bytesOf none).length c, .bool (none : Rec).isSome]) ∧ (bytesOf none).length ≤ c ∧ Byt w p (bytesOf none) ∧ (∀ g o, p = some ⟨g, o, none⟩ → w.heap.size ≤ g) ∧ Old w w) :=
      ⟨none, 0, rfl, Nat.le_refl _, ⟨Has.nil _ _, fun g o e => by cases e⟩, fun g o e => (by cases e), Touch.refl _ _⟩
    clear hc hB hl m hr
    have c1' : w.cell? ⟨vp, 1 + k * 2, none⟩ = some (.bool false) := c1
    clear c1 c2
    go_enter Tryz.func32, Tryz.ntmps32
    go_wp2_with (first | (refine HI.out.mono ?_; rintro e w' ⟨rfl, rfl⟩))
    go_ret2
    exact HE.out
  | some b =>
    have HC := Lib.hid (copy_any p b b.length c w hB.has rfl (by have : b.length ≤ 60000 := hl; omega))
    have c1' : w.cell? ⟨vp, 1 + k * 2, none⟩ = some (.bool true) := c1
    have c2' : w.cell? ⟨vp, 1 + k * 2 + 1, none⟩ = some (.slice p b.length c) := c2
    clear hc hB hl m hr c1 c2
    go_enter Tryz.func32, Tryz.ntmps32
    go_wp2_with (first | (go_at_call 38; refine HI.out.mono ?_; rintro e w' ⟨rfl, rfl⟩) | (go_at_call 53; refine HC.out.mono ?_; rintro e w' ⟨p', c', rfl, hc', B', hf, O'⟩))
    go_ret2
    exact ⟨p', c', rfl, hc', B', hf, O'⟩
end
end Go.Proofs.YtjajenkagcdhlaaGreat
/- Drop of a vault. -/
namespace Go.Proofs.YtjajenkagcdhlaaGreat
open Go.RowKit
set_option maxRecDepth 100000

theorem run_build0 (w : World) : (Instr.build 66 #[]).run Tryz.prog w = .ok (.agg [Value.bool false, .slice none 0 0].toArray) w := by kernel_rfl
section
variable {ops : Array Oper} {rest : List Oper} {op : Oper} {a : Act} {w : World} {Q : Exit → Act → World → Prop}
theorem wpList_build_rec0 (hgd : op.guard = none) (ho : op.op = .build 66 #[])
    (h : wpList Tryz.prog ops Q rest (a.put op.dst (.agg [Value.bool false, .slice none 0 0].toArray)) w) : wpList Tryz.prog ops Q (op :: rest) a w :=
  wpList_plain hgd fun K hK => by
    unfold Oper.wp execOp
    simp only [ho, List.map_toArray, List.map_nil, Sem.run_bind, Sem.run_pure, Result.andThen_ok, run_build0]
    exact hK _ _ h
end
section
variable {w : World} {vp lp x h : Nat} {rs rk : Recs} {a : Places}
theorem vdrop_no (w : World) (n : Int) (hn : isId n = false) : Calls Tryz.prog 12 #[.pointer (some ⟨vp, 0, none⟩), .int .i64 n] w fun y w' => y = .returned (.bool false) ∧ w = w' := by
  have HI := Lib.hid (isID_any n w)
  rw [hn] at HI
  clear hn
  go_enter Tryz.func12, Tryz.ntmps12
  go_wp2_with (first | (refine HI.out.mono ?_; rintro e w' ⟨rfl, rfl⟩))
  go_ret
  exact ⟨rfl, rfl⟩
theorem vdrop_none (m : VM w vp lp x h rs rk a) (k : Nat) (h1 : 1 ≤ k) (h40 : k ≤ 40) (hr : rs[k]? = some none) : Calls Tryz.prog 12 #[.pointer (some ⟨vp, 0, none⟩), .int .i64 (k : Int)] w fun y w' => y = .returned (.bool false) ∧ w = w' := by
  have HI := Lib.hid (isID_any (k : Int) w)
  rw [show isId (k : Int) = true from decide_eq_true ⟨by omega, by omega⟩] at HI
  obtain ⟨p, c, c1, c2, hc, hB⟩ := m.now k none hr
  have i0 : (0 : Int) ≤ (k : Int) := by omega
  have i1 : (k : Int) < 41 := by omega
  have c1' : w.cell? ⟨vp, 1 + k * 2, none⟩ = some (.bool false) := c1
  clear c1 c2 hc hB m hr
  go_enter Tryz.func12, Tryz.ntmps12
  go_wp2_with (first | (refine HI.out.mono ?_; rintro e w' ⟨rfl, rfl⟩))
  go_ret
  exact ⟨rfl, rfl⟩
set_option maxHeartbeats 1600000 in
theorem vdrop_some (m : VM w vp lp x h rs rk a) (k : Nat) (h1 : 1 ≤ k) (h40 : k ≤ 40) (b : List Nat) (hr : rs[k]? = some (some b)) : Calls Tryz.prog 12 #[.pointer (some ⟨vp, 0, none⟩), .int .i64 (k : Int)] w fun y w' =>
    y = .returned (.bool true) ∧ VM w' vp lp x h (rs.set k none) rk a ∧ Touch (fun i => i = vp ∨ i = x) w w' := by
  have HI := Lib.hid (isID_any (k : Int) w)
  rw [show isId (k : Int) = true from decide_eq_true ⟨by omega, by omega⟩] at HI
  obtain ⟨p, c, c1, c2, hc, hB⟩ := m.now k _ hr
  have hl := takesR_le m.rok hr
  have hlb : b.length ≤ 60000 := hl.1
  have i0 : (0 : Int) ≤ (k : Int) := by omega
  have i1 : (k : Int) < 41 := by omega
  have c1' : w.cell? ⟨vp, 1 + k * 2, none⟩ = some (.bool true) := c1
  have c2' : w.cell? ⟨vp, 1 + k * 2 + 1, none⟩ = some (.slice p b.length c) := c2
  have HM := Lib.hid m
  have HR := Lib.hid hr
  have HT : Hid (∀ w, Calls Tryz.prog 40 #[.agg #[.bool true, .slice p b.length c]] w fun e w' => e = .returned (.int .i64 (takesR (some b) : Int)) ∧ Old w w') := fun w => rtakes_any (some b) p c (by show b.length ≤ 1000000; omega) w
  have hsum := sumT_set none hr
  have hz : takesR none = 0 := rfl
  have hfit := m.fit
  have hhome := m.home
  obtain ⟨T, hT⟩ : ∃ T, takesR (some b) = T := ⟨_, rfl⟩
  rw [hT] at hsum HT hl
  have TD : Old w w.drew := (Touch.refl _ w).drew
  have hlt := lt_of_cell? c1'
  have HS1 : Hid (w.drew.cell? ⟨vp, 206, none⟩ = some (.pointer (some ⟨x, 0, none⟩)) ∧ w.drew.cell? ⟨vp, 1 + k * 2, none⟩ = some (.bool true) ∧ w.drew.cell? ⟨vp, 1 + k * 2 + 1, none⟩ = some (.slice p b.length c)) := ⟨m.bp, c1', c2'⟩
  have HX := Lib.hid m.vx
  have hset : h - 1 - sumT rs + T = h - 1 - sumT (rs.set k none) := by omega
  have HG := Lib.hid (fun w' (K : Blk w' x 120 (bud (h - 1 - sumT rs) (h - 1))) => by have := bgive_any x (h - 1 - sumT rs) (h - 1) T (by omega) (by omega) w' K; rw [hset] at this; exact this)
  have HB0 := Lib.hid m.bq
  clear hc hB m hr c1 c2 hl hsum hz hfit hhome hT hset TD
  generalize b.length = n at *
  go_enter Tryz.func12, Tryz.ntmps12
  go_upto_region 3 with (first | (go_at_call 38; refine HI.out.mono ?_; rintro e w' ⟨rfl, rfl⟩))
  go_region_held3 (fun w' => w'.cell? ⟨vp, 206, none⟩ = some (.pointer (some ⟨x, 0, none⟩)) ∧ w'.cell? ⟨vp, 1 + k * 2, none⟩ = some (.bool true) ∧ w'.cell? ⟨vp, 1 + k * 2 + 1, none⟩ = some (.slice p n c)) (first | exact HS1.out | exact HS2.out | exact HS3.out)
    (first
      | (go_at_call 40; with_reducible refine (HT.out _).mono ?_; rintro y w5 ⟨rfl, O5⟩
         have HS2 : Hid (w5.cell? ⟨vp, 206, none⟩ = some (.pointer (some ⟨x, 0, none⟩)) ∧ w5.cell? ⟨vp, 1 + k * 2, none⟩ = some (.bool true) ∧ w5.cell? ⟨vp, 1 + k * 2 + 1, none⟩ = some (.slice p n c)) := ⟨(O5.cell (p := ⟨vp, 206, none⟩) (lt_of_cell? HS1.out.1) (fun q => q)).trans HS1.out.1, (O5.cell (p := ⟨vp, 1 + k * 2, none⟩) (lt_of_cell? HS1.out.2.1) (fun q => q)).trans HS1.out.2.1, (O5.cell (p := ⟨vp, 1 + k * 2 + 1, none⟩) (lt_of_cell? HS1.out.2.2) (fun q => q)).trans HS1.out.2.2⟩
         have hO5 : Old w w5 := ((Touch.refl _ w).drew).trans O5
         have HO5 := Lib.hid hO5
         have HG5 := Lib.hid (HG.out w5 (HB0.out.touch hO5 (fun q => q)))
         clear hO5 O5)
      | (go_at_call 39; with_reducible refine HG5.out.mono ?_; rintro y w6 ⟨rfl, K6, T6⟩
         have HS3 : Hid (w6.cell? ⟨vp, 206, none⟩ = some (.pointer (some ⟨x, 0, none⟩)) ∧ w6.cell? ⟨vp, 1 + k * 2, none⟩ = some (.bool true) ∧ w6.cell? ⟨vp, 1 + k * 2 + 1, none⟩ = some (.slice p n c)) := ⟨(T6.cell (p := ⟨vp, 206, none⟩) (lt_of_cell? HS2.out.1) HX.out).trans HS2.out.1, (T6.cell (p := ⟨vp, 1 + k * 2, none⟩) (lt_of_cell? HS2.out.2.1) HX.out).trans HS2.out.2.1, (T6.cell (p := ⟨vp, 1 + k * 2 + 1, none⟩) (lt_of_cell? HS2.out.2.2) HX.out).trans HS2.out.2.2⟩
         have HK6 := Lib.hid K6
         have HT6 := Lib.hid T6
         clear K6 T6))
  all_goals
    rename_i hHeld
    clear hHeld c1' c2' hlt
    have M6 : MV w6 vp lp x rs rk a := MV.touch (MV.touch HM.out.mem HO5.out (fun q => q) (fun _ _ _ _ _ q => q)) HT6.out HX.out (fun t i cs ht hi e => by
      rcases ht with rfl | rfl <;> exact hi.ne (HB0.out.touch HO5.out (fun q => q)) (by decide) e)
    have f1 := M6.frozen (1 + k * 2)
    have f2 := M6.frozen (1 + k * 2 + 1)
    have HM6 := Lib.hid M6
    have c1 := HS3.out.2.1
    have c2 := HS3.out.2.2
    clear M6
    go_wp2_with (first | (with_reducible refine wpList_build_rec0 (op := ⟨some 36, _, _, _, _, _⟩) rfl rfl ?_))
    go_ret
    have hm := HM.out
    have M7 := HM6.out.set (k := k) none (by rw [hm.rok.r41]; omega) (n := 0) (c := 0) rfl (Nat.le_refl _) ⟨Has.nil w6 none, fun g o e => by cases e⟩
    have hsum := sumT_set none HR.out
    have T1 := Touch.one (w := w6) ⟨vp, 1 + k * 2, none⟩ (.bool false)
    have T2 := Touch.one (w := w6.setCell ⟨vp, 1 + k * 2, none⟩ (.bool false)) ⟨vp, 1 + k * 2 + 1, none⟩ (.slice none 0 0)
    refine ⟨rfl, ⟨M7, ?_, hm.rok.set h1 (fun b e => by cases e), hm.vld, ?_, hm.home⟩, ?_⟩
    · exact (HK6.out.touch T1 (fun q => HX.out q.symm)).touch T2 (fun q => HX.out q.symm)
    · have := hm.fit
      have e0 : takesR none = 0 := rfl
      omega
    · have T0 : Touch (fun i => i = vp ∨ i = x) w w5 := HO5.out.mono fun i _ q => q.elim
      exact ((T0.trans (HT6.out.mono fun i _ q => .inr q)).trans (T1.mono fun i _ q => .inl q)).trans (T2.mono fun i _ q => .inl q)
end
end Go.Proofs.YtjajenkagcdhlaaGreat
/- Put of a vault. -/
namespace Go.Proofs.YtjajenkagcdhlaaGreat
open Go.RowKit
set_option maxRecDepth 100000

section
variable {w : World} {vp lp x h d g : Nat} {L : LS} {rs rk : Recs} {a : Places}
theorem vput_bad (w : World) (n : Int) (p : Option Addr) (m c : Nat) (hn : isId n = false ∨ 60000 < m) : Calls Tryz.prog 21 #[.pointer (some ⟨vp, 0, none⟩), .int .i64 n, .slice p m c] w fun y w' => y = .returned (.int .i64 1) ∧ w = w' := by
  have HI := Lib.hid (isID_any n w)
  cases hi : isId n with
  | false =>
    rw [hi] at HI
    clear hn hi
    go_enter Tryz.func21, Tryz.ntmps21
    go_wp2_with (first | (refine HI.out.mono ?_; rintro e w' ⟨rfl, rfl⟩))
    go_ret
    exact ⟨rfl, rfl⟩
  | true =>
    have hm : (60000 : Int) < (m : Int) := by
      rcases hn with q | q
      · rw [hi] at q; cases q
      · omega
    rw [hi] at HI
    clear hn hi
    go_enter Tryz.func21, Tryz.ntmps21
    go_wp2_with (first | (refine HI.out.mono ?_; rintro e w' ⟨rfl, rfl⟩))
    go_ret
    exact ⟨rfl, rfl⟩
theorem vput_lost (h0 : w.cell? ⟨vp, 0, none⟩ = some (.pointer (some ⟨lp, 0, none⟩))) (hL : Blk w lp 129 (lhead d g L)) (hl : L.lost = true) (n : Int) (p : Option Addr) (m c : Nat) (hn : isId n = true) (hm : m ≤ 60000) :
    Calls Tryz.prog 21 #[.pointer (some ⟨vp, 0, none⟩), .int .i64 n, .slice p m c] w fun y w' => y = .returned (.int .i64 4) ∧ w = w' := by
  have HI := Lib.hid (isID_any n w)
  rw [hn] at HI
  have HL := Lib.hid (lost_any hL)
  rw [hl] at HL
  have hm' : ¬ (60000 : Int) < (m : Int) := by omega
  clear hn hL hl hm
  go_enter Tryz.func21, Tryz.ntmps21
  go_wp2_with (first | (go_at_call 38; refine HI.out.mono ?_; rintro e w' ⟨rfl, rfl⟩) | (go_at_call 52; refine HL.out.mono ?_; rintro e w' ⟨rfl, rfl⟩))
  go_ret
  exact ⟨rfl, rfl⟩
theorem store_two {w : World} {vp o : Nat} {u1 u2 v1 v2 : Value} (d1 : w.cell? ⟨vp, o, none⟩ = some v1) (f1 : w.frozen? ⟨vp, o, none⟩ = false) (d2 : w.cell? ⟨vp, o + 1, none⟩ = some v2) (f2 : w.frozen? ⟨vp, o + 1, none⟩ = false) (h1 : u1.oneCell' = true) (h2 : u2.oneCell' = true) :
    (storeVar 66 ⟨vp, o, none⟩ (.agg [u1, u2].toArray)).run Tryz.prog w = .ok () ((w.setCell ⟨vp, o, none⟩ u1).setCell ⟨vp, o + 1, none⟩ u2) := by
  have := run_storeVar_mid (P := Tryz.prog) w vp o 66 [u1, u2].toArray (fun j hj => by
    have hj : j < 2 := hj
    rcases Nat.lt_or_ge j 1 with q | q
    · obtain rfl : j = 0 := by omega
      exact ⟨by rw [Nat.add_zero, d1]; rfl, f1⟩
    · obtain rfl : j = 1 := by omega
      exact ⟨by rw [d2]; rfl, f2⟩) (by rw [size1]; rfl) (by simp [h1, h2])
  rw [this]
  rfl
/-- What Put answers. -/
def PutAns (vp lp x h : Nat) (rs rk : Recs) (a : Places) (k : Nat) (b : List Nat) (w : World) (y : Ending) (w' : World) : Prop :=
  Touch (fun i => i = vp ∨ i = x) w w' ∧ ((y = .returned (.int .i64 3) ∧ h < sumT (rs.set k (some b)) + 1 ∧ VM w' vp lp x h rs rk a) ∨ (y = .returned (.int .i64 0) ∧ sumT (rs.set k (some b)) + 1 ≤ h ∧ VM w' vp lp x h (rs.set k (some b)) rk a))
set_option maxHeartbeats 3200000 in
theorem vput_any0 (m : VM w vp lp x h rs rk a) (hL : Blk w lp 129 (lhead d g L)) (hl : L.lost = false) (k : Nat) (h1 : 1 ≤ k) (h40 : k ≤ 40) (p : Option Addr) (b : List Nat) (n c : Nat) (hB : Has w p b) (hn : b.length = n) (hm : n ≤ 60000) :
    Calls Tryz.prog 21 #[.pointer (some ⟨vp, 0, none⟩), .int .i64 (k : Int), .slice p n c] w (PutAns vp lp x h rs rk a k b w) := by
  have HI := Lib.hid (isID_any (k : Int) w)
  rw [show isId (k : Int) = true from decide_eq_true ⟨by omega, by omega⟩] at HI
  have HL := Lib.hid (lost_any hL)
  rw [hl] at HL
  have HC := Lib.hid (copy_any p b n c w hB hn (by omega))
  have hm' : ¬ (60000 : Int) < (n : Int) := by omega
  have HM := Lib.hid m
  have HN := Lib.hid hn
  have h0 := m.lp0
  have i0 : (0 : Int) ≤ (k : Int) := by omega
  have i1 : (k : Int) < 41 := by omega
  clear m hL hl hB hn
  go_enter Tryz.func21, Tryz.ntmps21
  go_upto_region 6 with (first
    | (go_at_call 38; refine HI.out.mono ?_; rintro e w' ⟨rfl, rfl⟩)
    | (go_at_call 52; refine HL.out.mono ?_; rintro e w' ⟨rfl, rfl⟩)
    | (go_at_call 53; refine HC.out.mono ?_; rintro e w2 ⟨p', c', rfl, hc', B', hf, O'⟩
       have HB2 := Lib.hid B'
       have HO2 := Lib.hid O'
       have HC2 := Lib.hid hc'
       clear B' O' hc' hf HC)
    | (with_reducible refine wpList_build_rec (op := ⟨some 28, _, _, _, _, _⟩) rfl _ _ rfl true p' n c' rfl rfl ?_))
  have hnb := HN.out
  obtain ⟨r0, hr0⟩ := get_of_lt (l := rs) (n := k) (by rw [HM.out.rok.r41]; omega)
  have HR0 := Lib.hid hr0
  have hN := Blk.new w2 66 [Value.bool true, .slice p' n c']
  have TA : Old w2 (w2.alloc (Obj.cells #[Value.bool true, Value.slice p' n c'] 66)) := (Touch.refl _ w2).alloc _
  have HQ : Hid (w.heap.size ≤ w2.heap.size) := HO2.out.size
  have HOA := Lib.hid (HO2.out.trans TA)
  have HBA := Lib.hid (HB2.out.keep (fun g cs hk => hk.touch TA (fun q => q)))
  have HKA : Hid (Blk (w2.alloc (Obj.cells #[Value.bool true, Value.slice p' n c'] 66)) w2.heap.size 66 [Value.bool true, .slice p' n c']) := hN
  clear hN TA HB2 HO2
  generalize w2.alloc (Obj.cells #[Value.bool true, Value.slice p' n c'] 66) = wA at *
  generalize w2.heap.size = q at *
  have HMA := Lib.hid (HM.out.old HOA.out)
  obtain ⟨p0, c0, d1, d2, hc0, hB0⟩ := HMA.out.now k r0 hr0
  have hl0 := takesR_le HM.out.rok hr0
  have HT1 : Hid (∀ w, Calls Tryz.prog 40 #[.agg #[.bool true, .slice p' n c']] w fun e w' => e = .returned (.int .i64 (takesN n : Int)) ∧ Old w w') := fun w => rtakes_some p' n c' (by omega) w
  have HT2 := Lib.hid (fun w => rtakes_any r0 p0 c0 (by omega) w)
  have hT1 : takesN n ≤ 750 := takesN_le hm
  obtain ⟨A, hA⟩ : ∃ A, takesN n = A := ⟨_, rfl⟩
  obtain ⟨B, hB⟩ : ∃ B, takesR r0 = B := ⟨_, rfl⟩
  obtain ⟨n0, hn0⟩ : ∃ n0, (bytesOf r0).length = n0 := ⟨_, rfl⟩
  have hAB : (A : Int) ≤ 750 ∧ (B : Int) ≤ 750 ∧ B ≤ sumT rs := by rw [hA] at hT1; rw [hB] at hl0; omega
  have hset := sumT_set (some b) hr0
  have hsb : takesR (some b) = A := by rw [← hA, ← hnb]; rfl
  have HSET : Hid (sumT (rs.set k (some b)) + B = sumT rs + A) := by show _ = _; rw [← hB, ← hsb]; exact hset
  have HAB := Lib.hid hAB
  obtain ⟨dv, hdv⟩ : ∃ dv : Int, (A : Int) - (B : Int) = dv := ⟨_, rfl⟩
  have hw : IntKind.i64.wrap ((A : Int) - (B : Int)) = dv := by rw [hdv]; exact wrap_fits ⟨by omega, by omega⟩
  have HDV := Lib.hid hdv
  rw [hA] at HT1
  rw [hB, hn0] at HT2
  rw [hn0] at d2
  have k1 : wA.cell? ⟨q, 0, none⟩ = some (.bool true) := by rw [HKA.out.cell]; rfl
  have k2 : wA.cell? ⟨q, 1, none⟩ = some (.slice p' n c') := by rw [HKA.out.cell]; rfl
  have HSall : Hid (∀ w', Old wA w' → w'.cell? ⟨q, 0, none⟩ = some (.bool true) ∧ w'.cell? ⟨q, 1, none⟩ = some (.slice p' n c') ∧ w'.cell? ⟨vp, 1 + k * 2, none⟩ = some (.bool r0.isSome) ∧ w'.cell? ⟨vp, 1 + k * 2 + 1, none⟩ = some (.slice p0 n0 c0)) := fun w' O =>
    ⟨(O.cell (p := ⟨q, 0, none⟩) (lt_of_cell? k1) (fun q => q)).trans k1, (O.cell (p := ⟨q, 1, none⟩) (lt_of_cell? k2) (fun q => q)).trans k2, (O.cell (p := ⟨vp, 1 + k * 2, none⟩) (lt_of_cell? d1) (fun q => q)).trans d1, (O.cell (p := ⟨vp, 1 + k * 2 + 1, none⟩) (lt_of_cell? d2) (fun q => q)).trans d2⟩
  have HA5 : Old wA wA.drew := (Touch.refl _ wA).drew
  have HSx := Lib.hid (HSall.out _ HA5)
  clear hl0 hc0 hB0 hA hB hn0 hset hsb hAB hT1 hdv hr0 d1 d2 k1 k2 hnb h0 HI HL
  generalize r0.isSome = rb at *
  go_region_held3 (fun w' => w'.cell? ⟨q, 0, none⟩ = some (.bool true) ∧ w'.cell? ⟨q, 1, none⟩ = some (.slice p' n c') ∧ w'.cell? ⟨vp, 1 + k * 2, none⟩ = some (.bool rb) ∧ w'.cell? ⟨vp, 1 + k * 2 + 1, none⟩ = some (.slice p0 n0 c0)) (first | exact HSx.out | exact HSall.out _ HA5)
    (first
      | (go_at_call 40; with_reducible refine (HT1.out _).mono ?_; rintro y w5 ⟨rfl, O5⟩
         have HB5 := HA5.trans O5
         clear HA5
         have HA5 := HB5
         clear HB5 O5)
      | (go_at_call 40; with_reducible refine (HT2.out _).mono ?_; rintro y w5 ⟨rfl, O5⟩
         have HB5 := HA5.trans O5
         clear HA5
         have HA5 := HB5
         clear HB5 O5))
  all_goals
    rename_i hHeld
    clear hHeld
    have HO5 := Lib.hid (HOA.out.trans HA5)
    have HMV : Hid (MV w5 vp lp x rs rk a) := (HMA.out.old HA5).mem
    have HBx : Hid (Blk w5 x 120 (bud (h - 1 - sumT rs) (h - 1))) := (HMA.out.old HA5).bq
    have HQ5 := Lib.hid (HKA.out.touch HA5 (fun q => q))
    have HBy := Lib.hid (HBA.out.old HA5)
    have HQV : Hid (q ≠ vp) := by
      obtain ⟨vs, hb⟩ := HMA.out.blk
      exact HKA.out.ne hb (by decide)
    have HQX : Hid (q ≠ x) := HKA.out.ne HMA.out.bq (by decide)
    have hbp := (HMA.out.old HA5).bp
    clear HSall HSx HT1 HT2 HOA HBA HKA HMA HA5
    rcases Int.lt_trichotomy dv 0 with hdv | hdv | hdv
    · obtain ⟨e, he⟩ : ∃ e : Nat, dv = -(e : Int) := ⟨B - A, by have := HDV.out; omega⟩
      have hneg : IntKind.i64.wrap (-dv) = (e : Int) := by rw [he, Int.neg_neg]; exact wrap_fits ⟨by omega, by have := HAB.out; have := HDV.out; omega⟩
      have hd0 : ¬ (0 : Int) < dv := by omega
      have hE : h - 1 - sumT rs + e = h - 1 - sumT (rs.set k (some b)) ∧ sumT (rs.set k (some b)) + 1 ≤ h := by have := HSET.out; have := HAB.out; have := HDV.out; have := HM.out.fit; omega
      have HG := Lib.hid (bgive_any x (h - 1 - sumT rs) (h - 1) e (by have := HM.out.fit; omega) (by have := HM.out.home; omega) w5 HBx.out)
      rw [hE.1] at HG
      have HFz := Lib.hid hE.2
      clear hE he
      go_upto_region 11 with (first | ((with_reducible refine HG.out.mono ?_); rintro y wz ⟨rfl, K6, T6⟩
                                       have HKz := Lib.hid K6
                                       have HT6 := Lib.hid T6
                                       clear K6 T6))
      have HMz : Hid (MV wz vp lp x rs rk a) := HMV.out.touch HT6.out HM.out.vx (fun t i cs ht hi e => by rcases ht with rfl | rfl <;> exact hi.ne HBx.out (by decide) e)
      have HTz : Hid (Touch (fun i => i = vp ∨ i = x) w wz) := (HO5.out.mono fun i _ q => q.elim).trans (HT6.out.mono fun i _ q => .inr q)
      have HQz := Lib.hid (HQ5.out.touch HT6.out HQX.out)
      have HBz := Lib.hid (HBy.out.keep fun g cs hk => hk.touch HT6.out (hk.ne HBx.out (by decide)))
      have TD : Old wz wz.drew := (Touch.refl _ wz).drew
      have MD := Lib.hid (HMz.out.touch TD (fun q => q) (fun _ _ _ _ _ q => q))
      have f1 := MD.out.frozen (1 + k * 2)
      have f2 := MD.out.frozen (1 + k * 2 + 1)
      obtain ⟨pz, cz, d1, d2, _, _⟩ := MD.out.now k r0 HR0.out
      have K9 := HQz.out.touch TD (fun q => q)
      have z1 : wz.drew.cell? ⟨q, 0, none⟩ = some (.bool true) := by rw [K9.cell]; rfl
      have z2 : wz.drew.cell? ⟨q, 1, none⟩ = some (.slice p' n c') := by rw [K9.cell]; rfl
      have hqv : q ≠ vp := HQV.out
      have T1 := Touch.one (w := wz.drew) ⟨vp, 1 + k * 2, none⟩ (.bool true)
      have T2 := Touch.one (w := wz.drew.setCell ⟨vp, 1 + k * 2, none⟩ (.bool true)) ⟨vp, 1 + k * 2 + 1, none⟩ (.slice p' n c')
      have K8 := (K9.touch T1 hqv).touch T2 hqv
      have HS0 := Lib.hid (And.intro z1 z2)
      have HS9 : Hid (((wz.drew.setCell ⟨vp, 1 + k * 2, none⟩ (.bool true)).setCell ⟨vp, 1 + k * 2 + 1, none⟩ (.slice p' n c')).cell? ⟨q, 0, none⟩ = some (.bool true) ∧ ((wz.drew.setCell ⟨vp, 1 + k * 2, none⟩ (.bool true)).setCell ⟨vp, 1 + k * 2 + 1, none⟩ (.slice p' n c')).cell? ⟨q, 1, none⟩ = some (.slice p' n c')) := ⟨by rw [K8.cell]; rfl, by rw [K8.cell]; rfl⟩
      have HEnd : Hid (PutAns vp lp x h rs rk a k b w (.returned (.int .i64 0)) ((wz.drew.setCell ⟨vp, 1 + k * 2, none⟩ (.bool true)).setCell ⟨vp, 1 + k * 2 + 1, none⟩ (.slice p' n c'))) := by
        have hm0 := HM.out
        have hvx := hm0.vx
        refine ⟨((HTz.out.trans (TD.mono fun i _ q => q.elim)).trans (T1.mono fun i _ q => .inl q)).trans (T2.mono fun i _ q => .inl q), .inr ⟨rfl, HFz.out, ?_⟩⟩
        exact ⟨MD.out.set (some b) (by rw [hm0.rok.r41]; omega) HN.out HC2.out (HBz.out.keep fun g cs hk => hk.touch TD (fun q => q)), ((HKz.out.touch TD (fun q => q)).touch T1 hvx.symm).touch T2 hvx.symm, hm0.rok.set h1 (fun b' e => by cases e; exact ⟨HBz.out.has.byte, by rw [HN.out]; exact hm⟩), hm0.vld, HFz.out, hm0.home⟩
      have hLd : (loadVar 66 ⟨q, 0, none⟩).run Tryz.prog wz.drew = .ok (.agg [Value.bool true, .slice p' n c'].toArray) wz.drew := run_loadVar_mid _ _ _ _ [Value.bool true, .slice p' n c'] _ (blk_range (xs := []) K9) Tryz.underlying66 rfl size1
      have hSt := store_two (vp := vp) (o := 1 + k * 2) (u1 := .bool true) (u2 := .slice p' n c') (w := wz.drew) d1 f1 d2 f2 (by rfl) (by rfl)
      clear TD K9 K8 T1 T2 hqv z1 z2 HS0 HS9 d1 d2 f1 f2
      refine wp_region_any (by kernel_rfl) ?_
      change wpAny _ _ _ _ _ _ _ (World.drew _)
      generalize wz.drew = wd at *
      refine wpAny_take (i := 0) (oi := ⟨some 59, _, _, _, _, _⟩) (v := .pointer (some ⟨vp, 0, none⟩)) rfl (by kernel_rfl) (by kernel_rfl) (by kernel_rfl) (fun _ _ _ h => h) (Or.inl ⟨by rfl, fun w => by rfl⟩) ?_
      simp only [Act.put, List.setIfInBounds_toArray, List.set_cons_zero, List.set_cons_succ]
      refine wpAny_take (i := 1) (oi := ⟨some 60, _, _, _, _, _⟩) (v := .int .i64 (k : Int)) rfl (by kernel_rfl) (by kernel_rfl) (by kernel_rfl) (fun _ _ _ h => h) (Or.inl ⟨by rfl, fun w => by rfl⟩) ?_
      simp only [Act.put, List.setIfInBounds_toArray, List.set_cons_zero, List.set_cons_succ]
      refine wpAny_take (i := 3) (oi := ⟨some 62, _, _, _, _, _⟩) (v := .pointer (some ⟨vp, 0, none⟩)) rfl (by kernel_rfl) (by kernel_rfl) (by kernel_rfl) (fun _ _ _ h => h) (Or.inl ⟨by rfl, fun w => by rfl⟩) ?_
      simp only [Act.put, List.setIfInBounds_toArray, List.set_cons_zero, List.set_cons_succ]
      refine wpAny_take (i := 4) (oi := ⟨some 63, _, _, _, _, _⟩) (v := .pointer (some ⟨vp, 1, none⟩)) rfl (by kernel_rfl) (by kernel_rfl) (by kernel_rfl) (fun _ _ _ h => h) (Or.inl ⟨by rfl, fun w => by go_simp⟩) ?_
      simp only [Act.put, List.setIfInBounds_toArray, List.set_cons_zero, List.set_cons_succ]
      refine wpAny_ready (rs := [2]) (by kernel_rfl) (by simp) (AllReady.cons (o := ⟨some 61, _, _, _, _, _⟩) rfl (fun K hK => ?_) AllReady.nil)
      refine step_load rfl 66 (.tmp 7) rfl ⟨q, 0, none⟩ rfl _ hLd (hK _ _ ?_)
      clear hK K
      simp only [Act.put, List.setIfInBounds_toArray, List.set_cons_zero, List.set_cons_succ]
      refine wpAny_take (i := 5) (oi := ⟨some 64, _, _, _, _, _⟩) (v := .pointer (some ⟨vp, 1 + k * 2, none⟩)) rfl (by kernel_rfl) (by kernel_rfl) (by kernel_rfl) (fun _ _ _ h => h) (Or.inl ⟨by rfl, fun w => by go_simp⟩) ?_
      simp only [Act.put, List.setIfInBounds_toArray, List.set_cons_zero, List.set_cons_succ]
      refine wpAny_ready (rs := [6]) (by kernel_rfl) (by simp) (AllReady.cons (o := ⟨none, _, _, _, _, _⟩) rfl (fun K hK => ?_) AllReady.nil)
      refine step_store rfl 66 (.tmp 64) (.tmp 61) rfl ⟨vp, 1 + k * 2, none⟩ rfl (.agg [Value.bool true, .slice p' n c'].toArray) rfl _ hSt (hK _ _ ?_)
      clear hK K
      refine wpAny_done (by kernel_rfl) ?_ _
      try simp only [Act.put]
      go_wp2_with fail
      go_ret
      exact HEnd.out
    · have hd0 : ¬ (0 : Int) < dv := by omega
      have hd1 : ¬ dv < (0 : Int) := by omega
      have hE : sumT rs = sumT (rs.set k (some b)) ∧ sumT (rs.set k (some b)) + 1 ≤ h := by have := HSET.out; have := HDV.out; have := HM.out.fit; omega
      rw [hE.1] at HBx
      have HFz := Lib.hid hE.2
      clear hE
      subst hdv
      go_upto_region 11 with fail
      have HKz := HBx
      have HMz := HMV
      have HTz : Hid (Touch (fun i => i = vp ∨ i = x) w w5) := HO5.out.mono fun i _ q => q.elim
      have HQz := HQ5
      have HBz := HBy
      generalize w5 = wz at *
      have TD : Old wz wz.drew := (Touch.refl _ wz).drew
      have MD := Lib.hid (HMz.out.touch TD (fun q => q) (fun _ _ _ _ _ q => q))
      have f1 := MD.out.frozen (1 + k * 2)
      have f2 := MD.out.frozen (1 + k * 2 + 1)
      obtain ⟨pz, cz, d1, d2, _, _⟩ := MD.out.now k r0 HR0.out
      have K9 := HQz.out.touch TD (fun q => q)
      have z1 : wz.drew.cell? ⟨q, 0, none⟩ = some (.bool true) := by rw [K9.cell]; rfl
      have z2 : wz.drew.cell? ⟨q, 1, none⟩ = some (.slice p' n c') := by rw [K9.cell]; rfl
      have hqv : q ≠ vp := HQV.out
      have T1 := Touch.one (w := wz.drew) ⟨vp, 1 + k * 2, none⟩ (.bool true)
      have T2 := Touch.one (w := wz.drew.setCell ⟨vp, 1 + k * 2, none⟩ (.bool true)) ⟨vp, 1 + k * 2 + 1, none⟩ (.slice p' n c')
      have K8 := (K9.touch T1 hqv).touch T2 hqv
      have HS0 := Lib.hid (And.intro z1 z2)
      have HS9 : Hid (((wz.drew.setCell ⟨vp, 1 + k * 2, none⟩ (.bool true)).setCell ⟨vp, 1 + k * 2 + 1, none⟩ (.slice p' n c')).cell? ⟨q, 0, none⟩ = some (.bool true) ∧ ((wz.drew.setCell ⟨vp, 1 + k * 2, none⟩ (.bool true)).setCell ⟨vp, 1 + k * 2 + 1, none⟩ (.slice p' n c')).cell? ⟨q, 1, none⟩ = some (.slice p' n c')) := ⟨by rw [K8.cell]; rfl, by rw [K8.cell]; rfl⟩
      have HEnd : Hid (PutAns vp lp x h rs rk a k b w (.returned (.int .i64 0)) ((wz.drew.setCell ⟨vp, 1 + k * 2, none⟩ (.bool true)).setCell ⟨vp, 1 + k * 2 + 1, none⟩ (.slice p' n c'))) := by
        have hm0 := HM.out
        have hvx := hm0.vx
        refine ⟨((HTz.out.trans (TD.mono fun i _ q => q.elim)).trans (T1.mono fun i _ q => .inl q)).trans (T2.mono fun i _ q => .inl q), .inr ⟨rfl, HFz.out, ?_⟩⟩
        exact ⟨MD.out.set (some b) (by rw [hm0.rok.r41]; omega) HN.out HC2.out (HBz.out.keep fun g cs hk => hk.touch TD (fun q => q)), ((HKz.out.touch TD (fun q => q)).touch T1 hvx.symm).touch T2 hvx.symm, hm0.rok.set h1 (fun b' e => by cases e; exact ⟨HBz.out.has.byte, by rw [HN.out]; exact hm⟩), hm0.vld, HFz.out, hm0.home⟩
      have hLd : (loadVar 66 ⟨q, 0, none⟩).run Tryz.prog wz.drew = .ok (.agg [Value.bool true, .slice p' n c'].toArray) wz.drew := run_loadVar_mid _ _ _ _ [Value.bool true, .slice p' n c'] _ (blk_range (xs := []) K9) Tryz.underlying66 rfl size1
      have hSt := store_two (vp := vp) (o := 1 + k * 2) (u1 := .bool true) (u2 := .slice p' n c') (w := wz.drew) d1 f1 d2 f2 (by rfl) (by rfl)
      clear TD K9 K8 T1 T2 hqv z1 z2 HS0 HS9 d1 d2 f1 f2
      refine wp_region_any (by kernel_rfl) ?_
      change wpAny _ _ _ _ _ _ _ (World.drew _)
      generalize wz.drew = wd at *
      refine wpAny_take (i := 0) (oi := ⟨some 59, _, _, _, _, _⟩) (v := .pointer (some ⟨vp, 0, none⟩)) rfl (by kernel_rfl) (by kernel_rfl) (by kernel_rfl) (fun _ _ _ h => h) (Or.inl ⟨by rfl, fun w => by rfl⟩) ?_
      simp only [Act.put, List.setIfInBounds_toArray, List.set_cons_zero, List.set_cons_succ]
      refine wpAny_take (i := 1) (oi := ⟨some 60, _, _, _, _, _⟩) (v := .int .i64 (k : Int)) rfl (by kernel_rfl) (by kernel_rfl) (by kernel_rfl) (fun _ _ _ h => h) (Or.inl ⟨by rfl, fun w => by rfl⟩) ?_
      simp only [Act.put, List.setIfInBounds_toArray, List.set_cons_zero, List.set_cons_succ]
      refine wpAny_take (i := 3) (oi := ⟨some 62, _, _, _, _, _⟩) (v := .pointer (some ⟨vp, 0, none⟩)) rfl (by kernel_rfl) (by kernel_rfl) (by kernel_rfl) (fun _ _ _ h => h) (Or.inl ⟨by rfl, fun w => by rfl⟩) ?_
      simp only [Act.put, List.setIfInBounds_toArray, List.set_cons_zero, List.set_cons_succ]
      refine wpAny_take (i := 4) (oi := ⟨some 63, _, _, _, _, _⟩) (v := .pointer (some ⟨vp, 1, none⟩)) rfl (by kernel_rfl) (by kernel_rfl) (by kernel_rfl) (fun _ _ _ h => h) (Or.inl ⟨by rfl, fun w => by go_simp⟩) ?_
      simp only [Act.put, List.setIfInBounds_toArray, List.set_cons_zero, List.set_cons_succ]
      refine wpAny_ready (rs := [2]) (by kernel_rfl) (by simp) (AllReady.cons (o := ⟨some 61, _, _, _, _, _⟩) rfl (fun K hK => ?_) AllReady.nil)
      refine step_load rfl 66 (.tmp 7) rfl ⟨q, 0, none⟩ rfl _ hLd (hK _ _ ?_)
      clear hK K
      simp only [Act.put, List.setIfInBounds_toArray, List.set_cons_zero, List.set_cons_succ]
      refine wpAny_take (i := 5) (oi := ⟨some 64, _, _, _, _, _⟩) (v := .pointer (some ⟨vp, 1 + k * 2, none⟩)) rfl (by kernel_rfl) (by kernel_rfl) (by kernel_rfl) (fun _ _ _ h => h) (Or.inl ⟨by rfl, fun w => by go_simp⟩) ?_
      simp only [Act.put, List.setIfInBounds_toArray, List.set_cons_zero, List.set_cons_succ]
      refine wpAny_ready (rs := [6]) (by kernel_rfl) (by simp) (AllReady.cons (o := ⟨none, _, _, _, _, _⟩) rfl (fun K hK => ?_) AllReady.nil)
      refine step_store rfl 66 (.tmp 64) (.tmp 61) rfl ⟨vp, 1 + k * 2, none⟩ rfl (.agg [Value.bool true, .slice p' n c'].toArray) rfl _ hSt (hK _ _ ?_)
      clear hK K
      refine wpAny_done (by kernel_rfl) ?_ _
      try simp only [Act.put]
      go_wp2_with fail
      go_ret
      exact HEnd.out
    · obtain ⟨e, he⟩ : ∃ e : Nat, dv = (e : Int) := ⟨A - B, by have := HDV.out; omega⟩
      subst he
      have hd1 : ¬ (e : Int) < 0 := by omega
      by_cases hle : e ≤ h - 1 - sumT rs
      · have hE : h - 1 - sumT rs - e = h - 1 - sumT (rs.set k (some b)) ∧ sumT (rs.set k (some b)) + 1 ≤ h := by have := HSET.out; have := HAB.out; have := HDV.out; have := HM.out.fit; omega
        have HG := Lib.hid (btake_yes x (h - 1 - sumT rs) (h - 1) e hle (by have := HM.out.home; omega) w5 HBx.out)
        rw [hE.1] at HG
        have HFz := Lib.hid hE.2
        clear hE hle
        go_upto_region 11 with (first | ((with_reducible refine HG.out.mono ?_); rintro y wz ⟨rfl, K6, T6⟩
                                         have HKz := Lib.hid K6
                                         have HT6 := Lib.hid T6
                                         clear K6 T6))
        have HMz : Hid (MV wz vp lp x rs rk a) := HMV.out.touch HT6.out HM.out.vx (fun t i cs ht hi e => by rcases ht with rfl | rfl <;> exact hi.ne HBx.out (by decide) e)
        have HTz : Hid (Touch (fun i => i = vp ∨ i = x) w wz) := (HO5.out.mono fun i _ q => q.elim).trans (HT6.out.mono fun i _ q => .inr q)
        have HQz := Lib.hid (HQ5.out.touch HT6.out HQX.out)
        have HBz := Lib.hid (HBy.out.keep fun g cs hk => hk.touch HT6.out (hk.ne HBx.out (by decide)))
        have TD : Old wz wz.drew := (Touch.refl _ wz).drew
        have MD := Lib.hid (HMz.out.touch TD (fun q => q) (fun _ _ _ _ _ q => q))
        have f1 := MD.out.frozen (1 + k * 2)
        have f2 := MD.out.frozen (1 + k * 2 + 1)
        obtain ⟨pz, cz, d1, d2, _, _⟩ := MD.out.now k r0 HR0.out
        have K9 := HQz.out.touch TD (fun q => q)
        have z1 : wz.drew.cell? ⟨q, 0, none⟩ = some (.bool true) := by rw [K9.cell]; rfl
        have z2 : wz.drew.cell? ⟨q, 1, none⟩ = some (.slice p' n c') := by rw [K9.cell]; rfl
        have hqv : q ≠ vp := HQV.out
        have T1 := Touch.one (w := wz.drew) ⟨vp, 1 + k * 2, none⟩ (.bool true)
        have T2 := Touch.one (w := wz.drew.setCell ⟨vp, 1 + k * 2, none⟩ (.bool true)) ⟨vp, 1 + k * 2 + 1, none⟩ (.slice p' n c')
        have K8 := (K9.touch T1 hqv).touch T2 hqv
        have HS0 := Lib.hid (And.intro z1 z2)
        have HS9 : Hid (((wz.drew.setCell ⟨vp, 1 + k * 2, none⟩ (.bool true)).setCell ⟨vp, 1 + k * 2 + 1, none⟩ (.slice p' n c')).cell? ⟨q, 0, none⟩ = some (.bool true) ∧ ((wz.drew.setCell ⟨vp, 1 + k * 2, none⟩ (.bool true)).setCell ⟨vp, 1 + k * 2 + 1, none⟩ (.slice p' n c')).cell? ⟨q, 1, none⟩ = some (.slice p' n c')) := ⟨by rw [K8.cell]; rfl, by rw [K8.cell]; rfl⟩
        have HEnd : Hid (PutAns vp lp x h rs rk a k b w (.returned (.int .i64 0)) ((wz.drew.setCell ⟨vp, 1 + k * 2, none⟩ (.bool true)).setCell ⟨vp, 1 + k * 2 + 1, none⟩ (.slice p' n c'))) := by
          have hm0 := HM.out
          have hvx := hm0.vx
          refine ⟨((HTz.out.trans (TD.mono fun i _ q => q.elim)).trans (T1.mono fun i _ q => .inl q)).trans (T2.mono fun i _ q => .inl q), .inr ⟨rfl, HFz.out, ?_⟩⟩
          exact ⟨MD.out.set (some b) (by rw [hm0.rok.r41]; omega) HN.out HC2.out (HBz.out.keep fun g cs hk => hk.touch TD (fun q => q)), ((HKz.out.touch TD (fun q => q)).touch T1 hvx.symm).touch T2 hvx.symm, hm0.rok.set h1 (fun b' e => by cases e; exact ⟨HBz.out.has.byte, by rw [HN.out]; exact hm⟩), hm0.vld, HFz.out, hm0.home⟩
        have hLd : (loadVar 66 ⟨q, 0, none⟩).run Tryz.prog wz.drew = .ok (.agg [Value.bool true, .slice p' n c'].toArray) wz.drew := run_loadVar_mid _ _ _ _ [Value.bool true, .slice p' n c'] _ (blk_range (xs := []) K9) Tryz.underlying66 rfl size1
        have hSt := store_two (vp := vp) (o := 1 + k * 2) (u1 := .bool true) (u2 := .slice p' n c') (w := wz.drew) d1 f1 d2 f2 (by rfl) (by rfl)
        clear TD K9 K8 T1 T2 hqv z1 z2 HS0 HS9 d1 d2 f1 f2
        refine wp_region_any (by kernel_rfl) ?_
        change wpAny _ _ _ _ _ _ _ (World.drew _)
        generalize wz.drew = wd at *
        refine wpAny_take (i := 0) (oi := ⟨some 59, _, _, _, _, _⟩) (v := .pointer (some ⟨vp, 0, none⟩)) rfl (by kernel_rfl) (by kernel_rfl) (by kernel_rfl) (fun _ _ _ h => h) (Or.inl ⟨by rfl, fun w => by rfl⟩) ?_
        simp only [Act.put, List.setIfInBounds_toArray, List.set_cons_zero, List.set_cons_succ]
        refine wpAny_take (i := 1) (oi := ⟨some 60, _, _, _, _, _⟩) (v := .int .i64 (k : Int)) rfl (by kernel_rfl) (by kernel_rfl) (by kernel_rfl) (fun _ _ _ h => h) (Or.inl ⟨by rfl, fun w => by rfl⟩) ?_
        simp only [Act.put, List.setIfInBounds_toArray, List.set_cons_zero, List.set_cons_succ]
        refine wpAny_take (i := 3) (oi := ⟨some 62, _, _, _, _, _⟩) (v := .pointer (some ⟨vp, 0, none⟩)) rfl (by kernel_rfl) (by kernel_rfl) (by kernel_rfl) (fun _ _ _ h => h) (Or.inl ⟨by rfl, fun w => by rfl⟩) ?_
        simp only [Act.put, List.setIfInBounds_toArray, List.set_cons_zero, List.set_cons_succ]
        refine wpAny_take (i := 4) (oi := ⟨some 63, _, _, _, _, _⟩) (v := .pointer (some ⟨vp, 1, none⟩)) rfl (by kernel_rfl) (by kernel_rfl) (by kernel_rfl) (fun _ _ _ h => h) (Or.inl ⟨by rfl, fun w => by go_simp⟩) ?_
        simp only [Act.put, List.setIfInBounds_toArray, List.set_cons_zero, List.set_cons_succ]
        refine wpAny_ready (rs := [2]) (by kernel_rfl) (by simp) (AllReady.cons (o := ⟨some 61, _, _, _, _, _⟩) rfl (fun K hK => ?_) AllReady.nil)
        refine step_load rfl 66 (.tmp 7) rfl ⟨q, 0, none⟩ rfl _ hLd (hK _ _ ?_)
        clear hK K
        simp only [Act.put, List.setIfInBounds_toArray, List.set_cons_zero, List.set_cons_succ]
        refine wpAny_take (i := 5) (oi := ⟨some 64, _, _, _, _, _⟩) (v := .pointer (some ⟨vp, 1 + k * 2, none⟩)) rfl (by kernel_rfl) (by kernel_rfl) (by kernel_rfl) (fun _ _ _ h => h) (Or.inl ⟨by rfl, fun w => by go_simp⟩) ?_
        simp only [Act.put, List.setIfInBounds_toArray, List.set_cons_zero, List.set_cons_succ]
        refine wpAny_ready (rs := [6]) (by kernel_rfl) (by simp) (AllReady.cons (o := ⟨none, _, _, _, _, _⟩) rfl (fun K hK => ?_) AllReady.nil)
        refine step_store rfl 66 (.tmp 64) (.tmp 61) rfl ⟨vp, 1 + k * 2, none⟩ rfl (.agg [Value.bool true, .slice p' n c'].toArray) rfl _ hSt (hK _ _ ?_)
        clear hK K
        refine wpAny_done (by kernel_rfl) ?_ _
        try simp only [Act.put]
        go_wp2_with fail
        go_ret
        exact HEnd.out
      · have HG := Lib.hid (btake_no x (h - 1 - sumT rs) (h - 1) e (by omega) (by have := HAB.out; have := HDV.out; omega) w5 HBx.out)
        have HFz : Hid (h < sumT (rs.set k (some b)) + 1) := by have := HSET.out; have := HAB.out; have := HDV.out; have := HM.out.fit; show _ < _; omega
        clear hle
        go_wp2_with (first | ((with_reducible refine HG.out.mono ?_); rintro y wz ⟨rfl, K6, T6⟩
                              have HKz := Lib.hid K6
                              have HT6 := Lib.hid T6
                              clear K6 T6))
        go_ret
        have HMz : MV wz vp lp x rs rk a := HMV.out.touch HT6.out HM.out.vx (fun t i cs ht hi e => by rcases ht with rfl | rfl <;> exact hi.ne HBx.out (by decide) e)
        exact ⟨(HO5.out.mono fun i _ q => q.elim).trans (HT6.out.mono fun i _ q => .inr q), .inl ⟨rfl, HFz.out, ⟨HMz, HKz.out, HM.out.rok, HM.out.vld, HM.out.fit, HM.out.home⟩⟩⟩
end
end Go.Proofs.YtjajenkagcdhlaaGreat
/- Undo and IDs of a vault. -/
namespace Go.Proofs.YtjajenkagcdhlaaGreat
open Go.RowKit
set_option maxRecDepth 100000

theorem splice_mid {α : Type} {A B V U : List α} (h : V.length = U.length) : splice (A ++ (V ++ B)) A.length U = A ++ (U ++ B) := by
  unfold splice
  rw [List.take_left' rfl, ← List.append_assoc A V B, List.drop_left' (by rw [List.length_append, h])]
theorem blk_mid {w : World} {g : Nat} {t : TypeId} {A V B : List Value} (h : Blk w g t (A ++ (V ++ B))) : w.rangeAt g A.length V := fun j v hv => by
  rw [h.cell, List.getElem?_append_right (by omega), show A.length + j - A.length = j by omega, List.getElem?_append_left (lt_of_get hv)]
  exact hv
theorem vcells_now {lp x : Nat} {vn vk va vs : List Value} (h : vn.length = vs.length) : splice (vcells lp vn vk va x) 1 vs = vcells lp vs vk va x :=
  splice_mid (A := [.pointer (some ⟨lp, 0, none⟩)]) h
theorem vcells_kept {lp x : Nat} {vn vk va vs : List Value} (h1 : vn.length = 82) (h : vk.length = vs.length) : splice (vcells lp vn vk va x) 83 vs = vcells lp vn vs va x := by
  have := splice_mid (A := Value.pointer (some ⟨lp, 0, none⟩) :: vn) (B := va ++ [.pointer (some ⟨x, 0, none⟩)]) h
  rw [List.length_cons, h1] at this
  exact this
theorem vcells_at {lp x : Nat} {vn vk va vs : List Value} (h1 : vn.length = 82) (h2 : vk.length = 82) (h : va.length = vs.length) : splice (vcells lp vn vk va x) 165 vs = vcells lp vn vk vs x := by
  have := splice_mid (A := Value.pointer (some ⟨lp, 0, none⟩) :: (vn ++ vk)) (B := [.pointer (some ⟨x, 0, none⟩)]) h
  rw [List.length_cons, List.length_append, h1, h2] at this
  simpa [vcells] using this
theorem vcells_left {lp x x' : Nat} {vn vk va : List Value} (h1 : vn.length = 82) (h2 : vk.length = 82) (h3 : va.length = 41) : (vcells lp vn vk va x).set 206 (.pointer (some ⟨x', 0, none⟩)) = vcells lp vn vk va x' := by
  unfold vcells
  rw [show (206 : Nat) = 205 + 1 from rfl, List.set_cons_succ, List.set_append_right _ _ (by omega), h1, List.set_append_right _ _ (by omega), h2, List.set_append_right _ _ (by omega), h3]
  rfl
theorem vcells_length {lp x : Nat} {vn vk va : List Value} (h1 : vn.length = 82) (h2 : vk.length = 82) (h3 : va.length = 41) : (vcells lp vn vk va x).length = 207 := by
  unfold vcells
  simp [h1, h2, h3]

section
variable {w : World} {vp lp x h d g : Nat} {L : LS} {rs rk : Recs} {a : Places}
set_option maxHeartbeats 1600000 in
theorem vundo_any (m : VM w vp lp x h rs rk a) (hL : Blk w lp 129 (lhead d g L)) (hh : L.ws.length = h) :
    Calls Tryz.prog 15 #[.pointer (some ⟨vp, 0, none⟩)] w fun y w' => y = .returned (.tuple #[]) ∧ ∃ x', w.heap.size ≤ x' ∧ VM w' vp lp x' h rk rk a ∧ Touch (fun i => i = vp) w w' := by
  obtain ⟨vn, vk, va, b1, b2, b3, b4⟩ := m.mem
  have l1 : vn.length = 82 := by rw [b2.1, m.rok.r41]
  have l2 : vk.length = 82 := by rw [b3.1, m.vld.r41]
  have l3 : va.length = 41 := by rw [b4.1, m.vld.a41]
  have HB := Lib.hid b1
  have H3 := Lib.hid b3
  have H4 := Lib.hid b4
  have HL1 := Lib.hid l1
  have HL2 := Lib.hid l2
  have HL3 := Lib.hid l3
  have HRg : Hid (w.rangeAt vp 83 vk) := by
    have := blk_mid (w := w) (g := vp) (t := 74) (A := Value.pointer (some ⟨lp, 0, none⟩) :: vn) (V := vk) (B := va ++ [.pointer (some ⟨x, 0, none⟩)]) b1
    rwa [List.length_cons, l1] at this
  have HLd := Lib.hid hL
  have HH := Lib.hid hh
  have HM := Lib.hid m
  clear m b1 b2 b3 b4 l1 l2 l3 hL hh
  go_enter Tryz.func15, Tryz.ntmps15
  go_upto_region 2 with (first
    | (with_reducible refine wpList_load_recs (op := ⟨some 8, _, _, _, _, _⟩) rfl (.tmp 7) rfl vp 83 rfl vk HL2.out HRg.out ?_)
    | ((with_reducible refine wpList_store_cells (op := ⟨none, .store 69 _ _, _, _, _, _⟩) rfl 69 (.tmp 10) (.tmp 8) rfl vp 1 vk rfl rfl (by rw [HL2.out]; exact sizeR) H3.out.one 74 (vcells lp vn vk va x) (by rw [HL2.out, vcells_length HL1.out HL2.out HL3.out]; decide) HB.out ?_); intro w2 K2 T2))
  rw [vcells_now (by rw [HL1.out, HL2.out])] at K2
  have TD : Old w2 w2.drew := (Touch.refl _ w2).drew
  have h0 : w2.drew.cell? ⟨vp, 0, none⟩ = some (.pointer (some ⟨lp, 0, none⟩)) := by
    have := (K2.touch TD (fun q => q)).cell 0
    exact this
  have K2d := K2.touch TD (fun q => q)
  have hvl : lp ≠ vp := HLd.out.ne HB.out (by decide)
  have k5 : ∀ i ds, Blk w i 5 ds → Blk w2.drew i 5 ds := fun i ds hd => (hd.touch T2 (hd.ne HB.out (by decide))).touch TD (fun q => q)
  have k3 : ∀ i ds, Blk w i 3 ds → Blk w2.drew i 3 ds := fun i ds hd => (hd.touch T2 (hd.ne HB.out (by decide))).touch TD (fun q => q)
  have H3d := Lib.hid (H3.out.keep k5)
  have H4d := Lib.hid (H4.out.keep k3)
  have HTr := Lib.hid (vtracks_any h0 ((HLd.out.touch T2 hvl).touch TD (fun q => q)) HH.out)
  have hrk := HM.out.vld.rsOk
  have hfk := HM.out.vld.fits
  have HLb := Lib.hid (leftBy_any vp 1 h rk w2.drew (H3d.out.at_ (A := [.pointer (some ⟨lp, 0, none⟩)]) (B := vk ++ (va ++ [.pointer (some ⟨x, 0, none⟩)])) K2d) hrk hfk (by have := HM.out.home; omega))
  have HT2 : Hid (Touch (fun i => i = vp) w w2.drew) := T2.trans (TD.mono fun i _ q => q.elim)
  have HK2 := Lib.hid K2d
  have HRK := Lib.hid hrk
  have HFK := Lib.hid hfk
  clear TD h0 K2d hvl k5 k3 hrk hfk K2 T2 HRg
  go_region_held3 (fun _ => True) (trivial)
    (first
      | (go_at_call 20; with_reducible refine HTr.out.mono ?_; rintro y w4 ⟨rfl, rfl⟩)
      | (go_at_call 45; with_reducible refine HLb.out.mono ?_; rintro y w5 ⟨x', rfl, hx', Kx, O5⟩
         have K5 := HK2.out.touch O5 (fun q => q)
         have hl := vcells_length (lp := lp) (x := x) HL2.out HL2.out HL3.out
         obtain ⟨z, hz⟩ : ∃ z, w5.cell? ⟨vp, 206, none⟩ = some z := ⟨_, (K5.cell 206).trans (List.getElem?_eq_getElem (by rw [hl]; decide))⟩
         have hfz := K5.frozen 206
         have HK5 := Lib.hid K5
         have HKx := Lib.hid Kx
         have HO5 := Lib.hid O5
         have Hx' := Lib.hid hx'
         clear K5 Kx O5 hx' hl))
  all_goals
    rename_i hHeld
    clear hHeld hz hfz
    go_wp2_with fail
    go_end0
    have T6 := Touch.one (w := w5) ⟨vp, 206, none⟩ (.pointer (some ⟨x', 0, none⟩))
    have K6 := HK5.out.set 206 (.pointer (some ⟨x', 0, none⟩))
    rw [vcells_left HL2.out HL2.out HL3.out] at K6
    have k5 : ∀ t i ds, t ≠ 74 → Blk w2.drew i t ds → Blk (w5.setCell ⟨vp, 206, none⟩ (.pointer (some ⟨x', 0, none⟩))) i t ds := fun t i ds ht hd => by
      have hd5 := hd.touch HO5.out (fun q => q)
      exact hd5.touch T6 (hd5.ne HK5.out ht)
    have hxs : w.heap.size ≤ x' := Nat.le_trans HT2.out.size Hx'.out
    refine ⟨rfl, x', hxs, ⟨⟨vk, vk, va, K6, H3d.out.keep fun i ds => k5 5 i ds (by decide), H3d.out.keep fun i ds => k5 5 i ds (by decide), H4d.out.keep fun i ds => k5 3 i ds (by decide)⟩, ?_, HRK.out, HM.out.vld, HFK.out, HM.out.home⟩, (HT2.out.trans (HO5.out.mono fun i _ q => q.elim)).trans T6⟩
    exact HKx.out.touch T6 (HKx.out.ne HK5.out (by decide))
end
end Go.Proofs.YtjajenkagcdhlaaGreat
/- IDs of a vault. -/
namespace Go.Proofs.YtjajenkagcdhlaaGreat
open Go.RowKit
set_option maxRecDepth 100000

/-- The numbers of the records below t. -/
def idsTo (rs : Recs) (t : Nat) : List Nat := (List.range t).filter fun i => (rs.getD i none).isSome
theorem idsTo_next (rs : Recs) (t : Nat) : idsTo rs (t + 1) = idsTo rs t ++ (if (rs.getD t none).isSome then [t] else []) := by
  unfold idsTo
  rw [List.range_succ, List.filter_append]
  congr 1
  rw [List.filter_cons]
  split <;> rfl
theorem idsTo_length (rs : Recs) (t : Nat) : (idsTo rs t).length ≤ t := by
  unfold idsTo
  have := List.length_filter_le (fun i => (rs.getD i none).isSome) (List.range t)
  rwa [List.length_range] at this

section
variable {w : World} {vp lp x h : Nat} {rs rk : Recs} {a : Places}
set_option maxHeartbeats 3200000 in
theorem vids_any (m : VM w vp lp x h rs rk a) : Calls Tryz.prog 31 #[.pointer (some ⟨vp, 0, none⟩)] w fun y w' => ∃ v, y = .returned v ∧ MineI w' w.heap.size v (iv (idsTo rs 41)) ∧ Old w w' := by
  have HM := Lib.hid m
  have HF0 : Hid (MineI w w.heap.size (.slice none 0 0) (iv (idsTo rs 0))) := MineI.nil _ _
  have HO0 : Hid (Old w w) := Touch.refl _ w
  clear m
  go_enter Tryz.func31, Tryz.ntmps31
  go_wp2_with fail
  go_loopw [3, 13, 4, 5] (fun v i _ _ wx => ∃ t : Nat, t ≤ 41 ∧ i = .int .i64 t ∧ Hid (MineI wx w.heap.size v (iv (idsTo rs t))) ∧ Hid (Old w wx)) (fun _ i _ _ _ => 41 - (intOf i).toNat)
  case atStart => exact ⟨0, by omega, rfl, HF0, HO0⟩
  case round =>
    obtain ⟨t, ht, rfl, HF, HO⟩ := hrel
    clear HF0 HO0
    by_cases htm : t < 41
    · obtain ⟨r, hr⟩ := get_of_lt (l := rs) (n := t) (by rw [HM.out.rok.r41]; exact htm)
      obtain ⟨p, c, c1, c2, hc, hB⟩ := (HM.out.old HO.out).now t r hr
      have j0 : (0 : Int) ≤ (t : Int) := by omega
      have j1 : (t : Int) < (41 : Int) := by omega
      have HR := Lib.hid hr
      have HSall : Hid (∀ w', Old wr w' → w'.cell? ⟨vp, 1 + t * 2, none⟩ = some (.bool r.isSome) ∧ w'.cell? ⟨vp, 1 + t * 2 + 1, none⟩ = some (.slice p (bytesOf r).length c)) := fun w' O =>
        ⟨(O.cell (p := ⟨vp, 1 + t * 2, none⟩) (lt_of_cell? c1) (fun q => q)).trans c1, (O.cell (p := ⟨vp, 1 + t * 2 + 1, none⟩) (lt_of_cell? c2) (fun q => q)).trans c2⟩
      have HS1 := Lib.hid (HSall.out wr.drew ((Touch.refl _ wr).drew))
      clear hr hc hB c1 c2
      go_upto_region 6 with fail
      generalize (bytesOf r).length = n at *
      go_region_held3 (fun w' => w'.cell? ⟨vp, 1 + t * 2, none⟩ = some (.bool r.isSome) ∧ w'.cell? ⟨vp, 1 + t * 2 + 1, none⟩ = some (.slice p n c)) (first | exact HS1.out | (refine HSall.out _ ?_; first | exact ((Touch.refl _ wr).drew).alloc _ | (refine Touch.setCell (Touch.setCell (((Touch.refl _ wr).drew).alloc _) (.inr ?_) _) (.inr ?_) _ <;> exact Nat.le_refl _))) (fail)
      all_goals
        rename_i hHeld
        clear hHeld
        have Oq : Old wr (wr.alloc (Obj.cells #[Value.bool (Option.isSome r), Value.slice p n c] 66)).drew := ((Touch.refl _ wr).alloc _).drew
        have Kq : Blk (wr.alloc (Obj.cells #[Value.bool (Option.isSome r), Value.slice p n c] 66)).drew wr.heap.size 66 [Value.bool (Option.isSome r), .slice p n c] := Blk.new wr 66 [Value.bool (Option.isSome r), .slice p n c]
        have hcq := Kq.cell 0
        have HFq := Lib.hid (HF.out.old Oq)
        have HOq := Lib.hid (HO.out.trans Oq)
        clear HSall HS1 HF HO Oq Kq
        generalize (wr.alloc (Obj.cells #[Value.bool (Option.isSome r), Value.slice p n c] 66)).drew = wq at *
        generalize wr.heap.size = q at *
        have hgd : rs.getD t none = r := getD_of HR.out
        cases r with
        | none =>
          have hc0 : wq.cell? ⟨q, 0, none⟩ = some (.bool false) := hcq
          have HFn : Hid (MineI wq w.heap.size u3 (iv (idsTo rs (t + 1)))) := by
            show MineI _ _ _ _
            rw [idsTo_next, hgd]
            simpa using HFq.out
          clear hcq HFq hgd
          go_wp2_with fail
          exact ⟨⟨t + 1, by omega, by go_num, HFn, HOq⟩, by simp [intOf]; omega⟩
        | some b =>
          have hc0 : wq.cell? ⟨q, 0, none⟩ = some (.bool true) := hcq
          obtain ⟨v', w', hap, M', T'⟩ := HFq.out.more HOq.out.size (t : Int) (by have := idsTo_length rs t; unfold iv; simp only [List.length_map]; omega)
          have HFn : Hid (MineI w' w.heap.size v' (iv (idsTo rs (t + 1)))) := by
            show MineI _ _ _ _
            rw [idsTo_next, hgd, iv_append]
            simpa using M'
          have HOn : Hid (Old w w') := Touch.above HOq.out (Nat.le_refl _) (fun k hk => (HFq.out.lt k hk).1) T'
          clear hcq HFq hgd M' T' HOq
          go_wp2_with (first | (at_builtin; refine wpList_append_run rfl _ _ 31 31 rfl _ _ rfl rfl _ _ (hap _) ?_))
          exact ⟨⟨t + 1, by omega, by go_num, HFn, HOn⟩, by simp [intOf]; omega⟩
    · obtain rfl : t = 41 := by omega
      have HN : Hid (∃ v, u3 = v ∧ MineI wr w.heap.size v (iv (idsTo rs 41))) := ⟨u3, rfl, HF.out⟩
      clear HF
      go_wp2_with fail
      go_ret
      obtain ⟨v, rfl, hv⟩ := HN.out
      exact ⟨_, rfl, hv, HO.out⟩
end
end Go.Proofs.YtjajenkagcdhlaaGreat
/- Keep of a vault. -/
namespace Go.Proofs.YtjajenkagcdhlaaGreat
open Go.RowKit
set_option maxRecDepth 100000

/-- What Keep would write. -/
def turnedM (rs rk : Recs) (a : Places) (h : Nat) : List Ent := othersM (layW rk a h) (layW rs (placeM rs a h) h)
section
variable {ops : Array Oper} {o : Oper} {a : Act} {w : World} {K : Act → World → Prop} {Q : Exit → Act → World → Prop} {E : Prop}
theorem step_alloc_places (hg : o.guard = none) (ho : o.op = .alloc 71) (h : K (a.put o.dst (.pointer (some ⟨w.heap.size, 0, none⟩))) (w.alloc (.cells noPlaces.toArray 71))) : if Region.wanted o (yielded ops a.tmps) = true then Oper.wp Tryz.prog o a w K Q else E := by
  refine step_wanted hg ?_
  unfold Oper.wp execOp
  simp only [ho, Sem.run_bind, Sem.run_pure, Result.andThen_ok, allocP]
  exact h
end
theorem store_places {w : World} {q : Nat} {z vs : List Value} (K : Blk w q 71 z) (hz : z.length = 41) (hl : vs.length = 41) (o : ∀ v ∈ vs, v.oneCell' = true) : (storeVar 71 ⟨q, 0, none⟩ (.agg vs.toArray)).run Tryz.prog w = .ok () (w.setCells q 0 vs) ∧ Blk (w.setCells q 0 vs) q 71 vs ∧ Touch (fun i => i = q) w (w.setCells q 0 vs) := by
  refine ⟨run_storeVar_mid _ _ _ _ vs.toArray (fun j hj => ⟨?_, K.frozen _⟩) (by rw [sizeP, List.size_toArray, hl]) (all_oneCell_toArray o), ?_, setCells_touch _ _ _ _⟩
  · rw [List.size_toArray, hl] at hj
    rw [K.cell, List.getElem?_eq_getElem (by omega)]
    rfl
  · have := Blk.setCells vs 0 z w K (by omega)
    rwa [splice_all (by omega)] at this
theorem keep_stores {w wd : World} {vp lp x q : Nat} {vn vk va vs : List Value} (b1 : Blk w vp 74 (vcells lp vn vk va x)) (Kq : Blk w q 71 vs) (l1 : vn.length = 82) (l2 : vk.length = 82) (l3 : va.length = 41) (l4 : vs.length = 41) (o1 : ∀ v ∈ vn, v.oneCell' = true) (o2 : ∀ v ∈ vs, v.oneCell' = true) (hd : wd = w.drew := by rfl) :
    (loadVar 69 ⟨vp, 1, none⟩).run Tryz.prog wd = .ok (.agg vn.toArray) wd ∧ (loadVar 71 ⟨q, 0, none⟩).run Tryz.prog wd = .ok (.agg vs.toArray) wd ∧ (loadVar 71 ⟨q, 0, none⟩).run Tryz.prog (wd.setCells vp 83 vn) = .ok (.agg vs.toArray) (wd.setCells vp 83 vn) ∧
    (storeVar 69 ⟨vp, 83, none⟩ (.agg vn.toArray)).run Tryz.prog wd = .ok () (wd.setCells vp 83 vn) ∧ (storeVar 71 ⟨vp, 165, none⟩ (.agg vs.toArray)).run Tryz.prog (wd.setCells vp 83 vn) = .ok () ((wd.setCells vp 83 vn).setCells vp 165 vs) ∧ Blk ((wd.setCells vp 83 vn).setCells vp 165 vs) vp 74 (vcells lp vn vn vs x) := by
  subst hd
  have TD : Old w w.drew := (Touch.refl _ w).drew
  have B := b1.touch TD (fun q => q)
  have Q := Kq.touch TD (fun q => q)
  have hl := vcells_length (lp := lp) (x := x) l1 l2 l3
  have t1 : Touch (fun i => i = vp) w.drew (w.drew.setCells vp 83 vn) := setCells_touch _ _ _ _
  have B1 := Blk.setCells vn 83 _ _ B (by rw [hl, l1]; decide)
  rw [vcells_kept l1 (by rw [l1, l2])] at B1
  have hl1 := vcells_length (lp := lp) (x := x) l1 l1 l3
  have B2 := Blk.setCells vs 165 _ _ B1 (by rw [hl1, l4]; decide)
  rw [vcells_at l1 l1 (by rw [l3, l4])] at B2
  have Q1 := Q.touch t1 (Q.ne B (by decide))
  refine ⟨run_loadVar_mid _ _ _ _ vn _ (blk_mid (A := [.pointer (some ⟨lp, 0, none⟩)]) (V := vn) (B := vk ++ (va ++ [.pointer (some ⟨x, 0, none⟩)])) B) Tryz.underlying69 rfl (by rw [sizeR, l1]), run_loadVar_mid _ _ _ _ vs _ (blk_range (xs := []) Q) Tryz.underlying71 rfl (by rw [sizeP, l4]), run_loadVar_mid _ _ _ _ vs _ (blk_range (xs := []) Q1) Tryz.underlying71 rfl (by rw [sizeP, l4]),
    run_storeVar_mid _ _ _ _ vn.toArray (fun j hj => ⟨?_, B.frozen _⟩) (by rw [sizeR, List.size_toArray, l1]) (all_oneCell_toArray o1), run_storeVar_mid _ _ _ _ vs.toArray (fun j hj => ⟨?_, B1.frozen _⟩) (by rw [sizeP, List.size_toArray, l4]) (all_oneCell_toArray o2), B2⟩
  · rw [List.size_toArray, l1] at hj
    rw [B.cell, List.getElem?_eq_getElem (by omega)]
    rfl
  · rw [List.size_toArray, l4] at hj
    rw [B1.cell, List.getElem?_eq_getElem (by omega)]
    rfl
theorem lay_vld (gr or ga oa h : Nat) (rs : Recs) (a : Places) (w : World) (hR : RAt w gr or rs) (hP : PAt w ga oa a) (v : Vld rs a h) (hm : h ≤ 5000) (hgr : ∃ t cs, Blk w gr t cs ∧ t ≠ 30) (hga : ∃ t cs, Blk w ga t cs ∧ t ≠ 30) :
    Calls Tryz.prog 43 #[.pointer (some ⟨gr, or, none⟩), .pointer (some ⟨ga, oa, none⟩), .int .i64 (h : Int)] w fun x w' => ∃ g, x = .returned (.slice (some ⟨g, 0, none⟩) h h) ∧ w.heap.size ≤ g ∧ WriF w' g (layW rs a h) ∧ Old w w' :=
  lay_any6 gr or ga oa h rs a w hR hP v.r41 v.a41 hgr hga (fun ks hks k hk => v.lt k (List.mem_flatten.2 ⟨ks, hks, hk⟩)) hm v.pos (fun b hb => by
    obtain ⟨i, hi⟩ := List.getElem?_of_mem hb
    exact (v.rsOk.ok i b hi).2) (fun ks hks => by
    obtain ⟨i, hi⟩ := List.getElem?_of_mem hks
    obtain ⟨r, hr⟩ := get_of_lt (l := rs) (n := i) (by have := lt_of_get hi; rw [v.a41] at this; rw [v.r41]; exact this)
    have := v.ok i r ks hr hi
    cases r with
    | none => have e : ks = [] := this; subst e; exact Nat.zero_le _
    | some b => have e : ks.length = takesN b.length := this.2.2; have := takesN_le this.2.1; omega)
theorem placeM_length {rs : Recs} {had : Places} {home : Nat} (hr : rs.length = 41) (ha : had.length = 41) : (placeM rs had home).length = 41 := by
  have hl : (place0 had rs).length = rs.length := by rw [place0_length (by rw [hr, ha]), hr]
  unfold placeM
  rw [fill_length hl, hr]
section
variable {w : World} {vp lp x h d g : Nat} {L : LS} {rs rk : Recs} {a : Places}
/-- What Keep answers: R tells of the ledger's Write. -/
def KeepAns (vp lp x h : Nat) (rs rk : Recs) (a : Places) (R : Nat → World → Prop) (w : World) (y : Ending) (w' : World) : Prop :=
  (turnedM rs rk a h = [] ∧ y = .returned (.int .i64 0) ∧ Old w w' ∧ VM w' vp lp x h rs rk a) ∨
  (turnedM rs rk a h ≠ [] ∧ ∃ (E : Nat) (w1 w2 : World), y = .returned (.int .i64 (E : Int)) ∧ Old w w1 ∧ KeptL w1 w2 ∧ R E w2 ∧ Touch (fun i => i = vp) w2 w' ∧
    ((E = 0 ∧ VM w' vp lp x h rs rs (placeM rs a h)) ∨ (E = 5 ∧ ∃ x', w2.heap.size ≤ x' ∧ VM w' vp lp x' h rk rk a) ∨ (E ≠ 0 ∧ E ≠ 5 ∧ VM w' vp lp x h rs rk a)))
/-- What is asked of the ledger's Write. -/
def WriteOk (lp x h : Nat) (bs : List Value) (e : List Ent) (R : Nat → World → Prop) (w : World) : Prop := ∀ w1, Old w w1 → ∀ p c, Ents w1 p e → e.length ≤ c → Calls Tryz.prog 44 #[.pointer (some ⟨lp, 0, none⟩), .slice p e.length c] w1 fun y w2 =>
  ∃ E : Nat, y = .returned (.int .i64 (E : Int)) ∧ KeptL w1 w2 ∧ (∃ d g L, Blk w2 lp 129 (lhead d g L) ∧ L.ws.length = h) ∧ Blk w2 x 120 bs ∧ E ≤ 100 ∧ R E w2
set_option maxHeartbeats 6400000 in
theorem vkeep_any (m : VM w vp lp x h rs rk a) (hL : Blk w lp 129 (lhead d g L)) (hh : L.ws.length = h) (R : Nat → World → Prop) (hW : WriteOk lp x h (bud (h - 1 - sumT rs) (h - 1)) (turnedM rs rk a h) R w) :
    Calls Tryz.prog 13 #[.pointer (some ⟨vp, 0, none⟩)] w (KeepAns vp lp x h rs rk a R w) := by
  have HM := Lib.hid m
  have HL := Lib.hid hL
  have HH := Lib.hid hh
  have HW := Lib.hid hW
  have h0 := m.lp0
  clear m hL hh hW
  go_enter Tryz.func13, Tryz.ntmps13
  go_upto_region 3 with fail
  have h41 := HM.out.home
  have HPl : Hid (∀ w1, Old w w1 → Calls Tryz.prog 41 #[.pointer (some ⟨vp, 1, none⟩), .pointer (some ⟨vp, 165, none⟩), .int .i64 (h : Int)] w1 fun y w' => ∃ vs, y = .returned (.agg vs.toArray) ∧ PV w' (placeM rs a h) vs ∧ Old w1 w') := fun w1 O => place_any vp 1 vp 165 h rs a w1 ((HM.out.old O).now) ((HM.out.old O).at_) HM.out.rok HM.out.vld.plOk (by omega) HM.out.fit
  have HTr : Hid (∀ w1, Old w w1 → Calls Tryz.prog 20 #[.pointer (some ⟨vp, 0, none⟩)] w1 fun y w' => y = .returned (.int .i64 (h : Int)) ∧ w1 = w') := fun w1 O => vtracks_any ((HM.out.old O).lp0) (HL.out.touch O (fun q => q)) HH.out
  go_cut [3] (fun v wx => ∃ q, v = .pointer (some ⟨q, 0, none⟩) ∧ Hid (w.heap.size ≤ q ∧ Old w wx ∧ ∃ vs, Blk wx q 71 vs ∧ PV wx (placeM rs a h) vs))
  case first =>
    refine wp_region_any (by kernel_rfl) ?_
    change wpAny _ _ _ _ _ _ _ (World.drew _)
    have OD : Old w w.drew := (Touch.refl _ w).drew
    refine wpAny_take (i := 0) (oi := ⟨some 15, _, _, _, _, _⟩) (v := .pointer (some ⟨vp, 0, none⟩)) rfl (by kernel_rfl) (by kernel_rfl) (by kernel_rfl) (fun _ _ _ h => h) (Or.inl ⟨by rfl, fun w => by rfl⟩) ?_
    simp only [Act.put, List.setIfInBounds_toArray, List.set_cons_zero, List.set_cons_succ]
    refine wpAny_take (i := 1) (oi := ⟨some 16, _, _, _, _, _⟩) (v := .pointer (some ⟨vp, 0, none⟩)) rfl (by kernel_rfl) (by kernel_rfl) (by kernel_rfl) (fun _ _ _ h => h) (Or.inl ⟨by rfl, fun w => by rfl⟩) ?_
    simp only [Act.put, List.setIfInBounds_toArray, List.set_cons_zero, List.set_cons_succ]
    refine wpAny_take (i := 2) (oi := ⟨some 17, _, _, _, _, _⟩) (v := .pointer (some ⟨vp, 1, none⟩)) rfl (by kernel_rfl) (by kernel_rfl) (by kernel_rfl) (fun _ _ _ h => h) (Or.inl ⟨by rfl, fun w => by go_simp⟩) ?_
    simp only [Act.put, List.setIfInBounds_toArray, List.set_cons_zero, List.set_cons_succ]
    refine wpAny_take (i := 3) (oi := ⟨some 18, _, _, _, _, _⟩) (v := .pointer (some ⟨vp, 0, none⟩)) rfl (by kernel_rfl) (by kernel_rfl) (by kernel_rfl) (fun _ _ _ h => h) (Or.inl ⟨by rfl, fun w => by rfl⟩) ?_
    simp only [Act.put, List.setIfInBounds_toArray, List.set_cons_zero, List.set_cons_succ]
    refine wpAny_take (i := 4) (oi := ⟨some 19, _, _, _, _, _⟩) (v := .pointer (some ⟨vp, 0, none⟩)) rfl (by kernel_rfl) (by kernel_rfl) (by kernel_rfl) (fun _ _ _ h => h) (Or.inl ⟨by rfl, fun w => by rfl⟩) ?_
    simp only [Act.put, List.setIfInBounds_toArray, List.set_cons_zero, List.set_cons_succ]
    refine wpAny_take (i := 5) (oi := ⟨some 20, _, _, _, _, _⟩) (v := .pointer (some ⟨vp, 165, none⟩)) rfl (by kernel_rfl) (by kernel_rfl) (by kernel_rfl) (fun _ _ _ h => h) (Or.inl ⟨by rfl, fun w => by go_simp⟩) ?_
    simp only [Act.put, List.setIfInBounds_toArray, List.set_cons_zero, List.set_cons_succ]
    refine wpAny_take (i := 6) (oi := ⟨some 21, _, _, _, _, _⟩) (v := .pointer (some ⟨vp, 0, none⟩)) rfl (by kernel_rfl) (by kernel_rfl) (by kernel_rfl) (fun _ _ _ h => h) (Or.inl ⟨by rfl, fun w => by rfl⟩) ?_
    simp only [Act.put, List.setIfInBounds_toArray, List.set_cons_zero, List.set_cons_succ]
    refine wpAny_ready (rs := [7, 9]) (by kernel_rfl) (by simp) (AllReady.cons (o := ⟨some 22, _, _, _, _, _⟩) rfl (fun K hK => ?_) (AllReady.cons (o := ⟨some 3, _, _, _, _, _⟩) rfl (fun K hK => ?_) AllReady.nil))
    · go_simp
      with_reducible refine (HTr.out _ OD).mono ?_
      rintro y w7 ⟨rfl, rfl⟩
      refine hK _ _ ?_
      clear hK K
      try simp only [Act.put, List.setIfInBounds_toArray, List.set_cons_zero, List.set_cons_succ]
      refine wpAny_ready (rs := [8, 9]) (by kernel_rfl) (by simp) (AllReady.cons (o := ⟨some 23, _, _, _, _, _⟩) rfl (fun K hK => ?_) (AllReady.cons (o := ⟨some 3, _, _, _, _, _⟩) rfl (fun K hK => ?_) AllReady.nil))
      · go_simp
        with_reducible refine (HPl.out _ OD).mono ?_
        rintro y w8 ⟨vs, rfl, PV8, O8⟩
        have OE := OD.trans O8
        refine hK _ _ ?_
        clear hK K
        try simp only [Act.put, List.setIfInBounds_toArray, List.set_cons_zero, List.set_cons_succ]
        refine wpAny_ready (rs := [9]) (by kernel_rfl) (by simp) (AllReady.cons (o := ⟨some 3, _, _, _, _, _⟩) rfl (fun K hK => ?_) AllReady.nil)
        refine step_alloc_places rfl rfl (hK _ _ ?_)
        have KQ := Blk.new w8 71 noPlaces
        have OA : Old w8 (w8.alloc (.cells noPlaces.toArray 71)) := (Touch.refl _ _).alloc _
        have OF := OE.trans OA
        have hq : w.heap.size ≤ w8.heap.size := OE.size
        generalize w8.heap.size = q at *
        have PV9 := PV8.old OA
        generalize w8.alloc (.cells noPlaces.toArray 71) = wA at *
        clear hK K
        try simp only [Act.put, List.setIfInBounds_toArray, List.set_cons_zero, List.set_cons_succ]
        refine wpAny_ready (rs := [10]) (by kernel_rfl) (by simp) (AllReady.cons (o := ⟨none, _, _, _, _, _⟩) rfl (fun K hK => ?_) AllReady.nil)
        obtain ⟨hst, K10, T10⟩ := store_places KQ noPlaces_length (by rw [PV9.1, placeM_length HM.out.rok.r41 HM.out.vld.a41]) PV9.one
        refine step_store rfl 71 (.tmp 3) (.tmp 23) rfl ⟨q, 0, none⟩ rfl (.agg vs.toArray) rfl _ hst (hK _ _ ?_)
        clear hK K
        refine wpAny_done (by kernel_rfl) ?_ _
        go_wp2_with fail
        go_meet
        exact ⟨q, rfl, hq, OF.own T10 hq, vs, K10, PV9.keep fun g cs hk => hk.touch T10 (hk.ne KQ (by decide))⟩
      · refine step_alloc_places rfl rfl (hK _ _ ?_)
        have KQ := Blk.new w.drew 71 noPlaces
        have OA : Old w.drew (w.drew.alloc (.cells noPlaces.toArray 71)) := (Touch.refl _ _).alloc _
        have OF := OD.trans OA
        have hq : w.heap.size ≤ w.drew.heap.size := OD.size
        generalize w.drew.heap.size = q at *
        generalize w.drew.alloc (.cells noPlaces.toArray 71) = wA at *
        clear hK K
        try simp only [Act.put, List.setIfInBounds_toArray, List.set_cons_zero, List.set_cons_succ]
        refine wpAny_ready (rs := [8]) (by kernel_rfl) (by simp) (AllReady.cons (o := ⟨some 23, _, _, _, _, _⟩) rfl (fun K hK => ?_) AllReady.nil)
        go_simp
        with_reducible refine (HPl.out _ OF).mono ?_
        rintro y w8 ⟨vs, rfl, PV8, O8⟩
        have OE := OF.trans O8
        have KQ8 := KQ.touch O8 (fun q => q)
        refine hK _ _ ?_
        clear hK K
        try simp only [Act.put, List.setIfInBounds_toArray, List.set_cons_zero, List.set_cons_succ]
        refine wpAny_ready (rs := [10]) (by kernel_rfl) (by simp) (AllReady.cons (o := ⟨none, _, _, _, _, _⟩) rfl (fun K hK => ?_) AllReady.nil)
        obtain ⟨hst, K10, T10⟩ := store_places KQ8 noPlaces_length (by rw [PV8.1, placeM_length HM.out.rok.r41 HM.out.vld.a41]) PV8.one
        refine step_store rfl 71 (.tmp 3) (.tmp 23) rfl ⟨q, 0, none⟩ rfl (.agg vs.toArray) rfl _ hst (hK _ _ ?_)
        clear hK K
        refine wpAny_done (by kernel_rfl) ?_ _
        go_wp2_with fail
        go_meet
        exact ⟨q, rfl, hq, OE.own T10 hq, vs, K10, PV8.keep fun g cs hk => hk.touch T10 (hk.ne KQ8 (by decide))⟩
    · refine step_alloc_places rfl rfl (hK _ _ ?_)
      have KQ := Blk.new w.drew 71 noPlaces
      have OA : Old w.drew (w.drew.alloc (.cells noPlaces.toArray 71)) := (Touch.refl _ _).alloc _
      have OF := OD.trans OA
      have hq : w.heap.size ≤ w.drew.heap.size := OD.size
      generalize w.drew.heap.size = q at *
      generalize w.drew.alloc (.cells noPlaces.toArray 71) = wA at *
      clear hK K
      try simp only [Act.put, List.setIfInBounds_toArray, List.set_cons_zero, List.set_cons_succ]
      refine wpAny_ready (rs := [7]) (by kernel_rfl) (by simp) (AllReady.cons (o := ⟨some 22, _, _, _, _, _⟩) rfl (fun K hK => ?_) AllReady.nil)
      go_simp
      with_reducible refine (HTr.out _ OF).mono ?_
      rintro y w7 ⟨rfl, rfl⟩
      refine hK _ _ ?_
      clear hK K
      try simp only [Act.put, List.setIfInBounds_toArray, List.set_cons_zero, List.set_cons_succ]
      refine wpAny_ready (rs := [8]) (by kernel_rfl) (by simp) (AllReady.cons (o := ⟨some 23, _, _, _, _, _⟩) rfl (fun K hK => ?_) AllReady.nil)
      go_simp
      with_reducible refine (HPl.out _ OF).mono ?_
      rintro y w8 ⟨vs, rfl, PV8, O8⟩
      have OE := OF.trans O8
      have KQ8 := KQ.touch O8 (fun q => q)
      refine hK _ _ ?_
      clear hK K
      try simp only [Act.put, List.setIfInBounds_toArray, List.set_cons_zero, List.set_cons_succ]
      refine wpAny_ready (rs := [10]) (by kernel_rfl) (by simp) (AllReady.cons (o := ⟨none, _, _, _, _, _⟩) rfl (fun K hK => ?_) AllReady.nil)
      obtain ⟨hst, K10, T10⟩ := store_places KQ8 noPlaces_length (by rw [PV8.1, placeM_length HM.out.rok.r41 HM.out.vld.a41]) PV8.one
      refine step_store rfl 71 (.tmp 3) (.tmp 23) rfl ⟨q, 0, none⟩ rfl (.agg vs.toArray) rfl _ hst (hK _ _ ?_)
      clear hK K
      refine wpAny_done (by kernel_rfl) ?_ _
      go_wp2_with fail
      go_meet
      exact ⟨q, rfl, hq, OE.own T10 hq, vs, K10, PV8.keep fun g cs hk => hk.touch T10 (hk.ne KQ8 (by decide))⟩
  case rest =>
    obtain ⟨q, rfl, hq, Oc, vs, Kq, PVq⟩ := hcut
    have Hq := Lib.hid hq
    have HOc := Lib.hid Oc
    have HVd : Hid (Vld rs (placeM rs a h) h) := place_vld HM.out.rok HM.out.vld.plOk HM.out.fit
    have HKq := Lib.hid Kq
    have HPq := Lib.hid PVq
    have HMc := Lib.hid (HM.out.old Oc)
    have HLA : Hid (∀ w1, Old wc w1 → Calls Tryz.prog 43 #[.pointer (some ⟨vp, 83, none⟩), .pointer (some ⟨vp, 165, none⟩), .int .i64 (h : Int)] w1 fun y w' => ∃ g, y = .returned (.slice (some ⟨g, 0, none⟩) h h) ∧ w1.heap.size ≤ g ∧ WriF w' g (layW rk a h) ∧ Old w1 w') := fun w1 O => by
      have m1 := HMc.out.old O
      obtain ⟨z, hz⟩ := m1.blk
      exact lay_vld vp 83 vp 165 h rk a w1 m1.keptAt m1.at_ m1.vld (by have := m1.home; omega) ⟨_, _, hz, by decide⟩ ⟨_, _, hz, by decide⟩
    have HLB : Hid (∀ w1, Old wc w1 → Calls Tryz.prog 43 #[.pointer (some ⟨vp, 1, none⟩), .pointer (some ⟨q, 0, none⟩), .int .i64 (h : Int)] w1 fun y w' => ∃ g, y = .returned (.slice (some ⟨g, 0, none⟩) h h) ∧ w1.heap.size ≤ g ∧ WriF w' g (layW rs (placeM rs a h) h) ∧ Old w1 w') := fun w1 O => by
      have m1 := HMc.out.old O
      obtain ⟨z, hz⟩ := m1.blk
      have K1 := HKq.out.touch O (fun q => q)
      exact lay_vld vp 1 q 0 h rs (placeM rs a h) w1 m1.now ((HPq.out.old O).at_ (A := []) (B := []) (by simpa using K1)) HVd.out (by have := m1.home; omega) ⟨_, _, hz, by decide⟩ ⟨_, _, K1, by decide⟩
    have HTc : Hid (∀ w1, Old wc w1 → Calls Tryz.prog 20 #[.pointer (some ⟨vp, 0, none⟩)] w1 fun y w' => y = .returned (.int .i64 (h : Int)) ∧ w1 = w') := fun w1 O => HTr.out w1 (HOc.out.trans O)
    have HO := (Touch.refl (fun _ => False) wc).drew
    clear hq Oc Kq PVq h41 HPl HTr h0
    go_upto_region 4 with fail
    go_region_held3 (fun _ => True) (trivial)
      (first
        | (go_at_call 20; with_reducible refine (HTc.out _ HO).mono ?_; rintro y w' ⟨rfl, rfl⟩)
        | (go_at_call 43; with_reducible refine (HLA.out _ HO).mono ?_; rintro y w6 ⟨g1, rfl, hg1, W1, O6⟩
           have HO6 := HO.trans O6
           have HW1 := Lib.hid W1
           clear HO hg1 W1 O6
           have HO := HO6
           clear HO6)
        | (go_at_call 43; with_reducible refine (HLB.out _ HO).mono ?_; rintro y w7 ⟨g2, rfl, hg2, W2, O7⟩
           have HO7 := HO.trans O7
           have HW2 := Lib.hid W2
           have HW1' := Lib.hid (HW1.out.old O7)
           have HOt := Lib.hid (others_any g1 g2 h _ _ w7 HW1'.out HW2.out (layW_length _ _ _) (layW_length _ _ _) (by have := HM.out.home; omega))
           clear HO hg2 W2 O7
           have HO := HO7
           clear HO7)
        | (go_at_call 42; with_reducible refine HOt.out.mono ?_; rintro y w8 ⟨v, rfl, E8, O8⟩
           have HO8 := HO.trans O8
           obtain ⟨pe, ce, rfl, hce, En⟩ := E8.form
           have HE8 := Lib.hid E8
           have HEn := Lib.hid En
           have HCe := Lib.hid hce
           clear HO E8 O8 hce En
           have HO := HO8
           clear HO8))
    all_goals
      rename_i hHeld
      clear hHeld
      have HOw : Hid (Old w w8) := HOc.out.trans HO
      have HMw := Lib.hid (HM.out.old HOw.out)
      have HKw := Lib.hid (HKq.out.touch HO (fun q => q))
      have HPw := Lib.hid (HPq.out.old HO)
      have HL8 := Lib.hid (HL.out.touch HOw.out (fun q => q))
      clear HO HOc HMc HKq HPq HLA HLB HTc HW1 HW2 HW1' HOt HE8
      obtain ⟨e, he⟩ : ∃ e, turnedM rs rk a h = e := ⟨_, rfl⟩
      have he' : othersM (layW rk a h) (layW rs (placeM rs a h) h) = e := he
      rw [he'] at HEn HCe ⊢
      rw [he] at HW
      have Hee := Lib.hid he
      clear he he'
      cases e with
      | nil =>
        have hl0 : ((List.length ([] : List Ent) : Nat) : Int) = 0 := rfl
        go_wp2_with fail
        go_ret
        exact .inl ⟨Hee.out, rfl, HOw.out, HMw.out⟩
      | cons e0 es =>
        have hlen : 0 < (e0 :: es).length := Nat.succ_pos _
        generalize hes : e0 :: es = e at *
        have hne : Hid (e ≠ []) := by intro q; rw [← hes] at q; cases q
        clear hes
        have HWr := Lib.hid (HW.out w8 HOw.out pe ce HEn.out HCe.out)
        have HCp := HMw.out.lp0
        obtain ⟨n, hn⟩ : ∃ n, e.length = n := ⟨_, rfl⟩
        rw [hn] at hlen HWr
        rw [hn]
        have hn0 : ¬ (n : Int) = 0 := by omega
        clear hn hlen HW
        go_upto_region 8 with (first
          | ((with_reducible refine HWr.out.mono ?_); rintro y w9 ⟨E, rfl, K9, hb9, hx9, hE1, hR9⟩
             have HK9 := Lib.hid K9
             have Hb9 := Lib.hid hb9
             have Hx9 := Lib.hid hx9
             have HR9 := Lib.hid hR9
             clear K9 hb9 hx9 hR9))
        have HM9 : Hid (VM w9 vp lp x h rs rk a) := HMw.out.kept (fun t g cs _ ht hb => HK9.out.blk t g cs ht hb) (fun _ => Hx9.out)
        clear HWr HCp
        by_cases hE0 : E = 0
        · subst hE0
          have hK9 := HKw.out
          have Kq9 := HK9.out.blk 71 q _ (by unfold otherL other; decide) hK9
          have PV9 : PV w9 (placeM rs a h) vs := HPw.out.keep fun g cs hb => HK9.out.blk 3 g cs (by unfold otherL other; decide) hb
          obtain ⟨vn, vk, va, b1, b2, b3, b4⟩ := HM9.out.mem
          have HSt := Lib.hid (keep_stores (wd := w9.drew) (q := q) (vs := vs) (lp := lp) (x := x) b1 Kq9 (by rw [b2.1, HM.out.rok.r41]) (by rw [b3.1, HM.out.vld.r41]) (by rw [b4.1, HM.out.vld.a41]) (by rw [PV9.1, placeM_length HM.out.rok.r41 HM.out.vld.a41]) b2.one PV9.one)
          have HEnd : Hid (KeepAns vp lp x h rs rk a R w (.returned (.int .i64 0)) ((w9.drew.setCells vp 83 vn).setCells vp 165 vs)) := by
            have hvx := HM.out.vx
            have TD : Old w9 w9.drew := (Touch.refl _ w9).drew
            have t1 : Touch (fun i => i = vp) w9.drew (w9.drew.setCells vp 83 vn) := setCells_touch _ _ _ _
            have t2 : Touch (fun i => i = vp) (w9.drew.setCells vp 83 vn) ((w9.drew.setCells vp 83 vn).setCells vp 165 vs) := setCells_touch _ _ _ _
            have TT : Touch (fun i => i = vp) w9 ((w9.drew.setCells vp 83 vn).setCells vp 165 vs) := ((TD.mono fun i _ q => q.elim).trans t1).trans t2
            have k5 : ∀ t i ds, t ≠ 74 → Blk w9 i t ds → Blk ((w9.drew.setCells vp 83 vn).setCells vp 165 vs) i t ds := fun t i ds ht hd => hd.touch TT (hd.ne b1 ht)
            exact .inr ⟨by rw [Hee.out]; exact hne.out, 0, w8, w9, rfl, HOw.out, HK9.out, HR9.out, TT, .inl ⟨rfl, ⟨⟨vn, vn, vs, HSt.out.2.2.2.2.2, b2.keep fun i ds => k5 5 i ds (by decide), b2.keep fun i ds => k5 5 i ds (by decide), PV9.keep fun i ds => k5 3 i ds (by decide)⟩, Hx9.out.touch TT hvx.symm, HM.out.rok, HVd.out, HM.out.fit, HM.out.home⟩⟩⟩
          clear b1 b2 b3 b4 Kq9 PV9 hK9
          go_upto_region 9 with fail
          refine wp_region_any (by kernel_rfl) ?_
          change wpAny _ _ _ _ _ _ _ (World.drew _)
          refine wpAny_take (i := 0) (oi := ⟨some 51, _, _, _, _, _⟩) (v := .pointer (some ⟨vp, 0, none⟩)) rfl (by kernel_rfl) (by kernel_rfl) (by kernel_rfl) (fun _ _ _ h => h) (Or.inl ⟨by rfl, fun w => by rfl⟩) ?_
          simp only [Act.put, List.setIfInBounds_toArray, List.set_cons_zero, List.set_cons_succ]
          refine wpAny_take (i := 1) (oi := ⟨some 52, _, _, _, _, _⟩) (v := .pointer (some ⟨vp, 0, none⟩)) rfl (by kernel_rfl) (by kernel_rfl) (by kernel_rfl) (fun _ _ _ h => h) (Or.inl ⟨by rfl, fun w => by rfl⟩) ?_
          simp only [Act.put, List.setIfInBounds_toArray, List.set_cons_zero, List.set_cons_succ]
          refine wpAny_take (i := 2) (oi := ⟨some 53, _, _, _, _, _⟩) (v := .pointer (some ⟨vp, 0, none⟩)) rfl (by kernel_rfl) (by kernel_rfl) (by kernel_rfl) (fun _ _ _ h => h) (Or.inl ⟨by rfl, fun w => by rfl⟩) ?_
          simp only [Act.put, List.setIfInBounds_toArray, List.set_cons_zero, List.set_cons_succ]
          refine wpAny_take (i := 3) (oi := ⟨some 54, _, _, _, _, _⟩) (v := .pointer (some ⟨vp, 0, none⟩)) rfl (by kernel_rfl) (by kernel_rfl) (by kernel_rfl) (fun _ _ _ h => h) (Or.inl ⟨by rfl, fun w => by rfl⟩) ?_
          simp only [Act.put, List.setIfInBounds_toArray, List.set_cons_zero, List.set_cons_succ]
          refine wpAny_take (i := 4) (oi := ⟨some 55, _, _, _, _, _⟩) (v := .pointer (some ⟨vp, 1, none⟩)) rfl (by kernel_rfl) (by kernel_rfl) (by kernel_rfl) (fun _ _ _ h => h) (Or.inl ⟨by rfl, fun w => by go_simp⟩) ?_
          simp only [Act.put, List.setIfInBounds_toArray, List.set_cons_zero, List.set_cons_succ]
          refine wpAny_ready (rs := [5, 6]) (by kernel_rfl) (by simp) (AllReady.cons (o := ⟨some 56, _, _, _, _, _⟩) rfl (fun K hK => ?_) (AllReady.cons (o := ⟨some 57, _, _, _, _, _⟩) rfl (fun K hK => ?_) AllReady.nil))
          · refine step_load rfl 69 (.tmp 55) rfl ⟨vp, 1, none⟩ rfl _ HSt.out.1 (hK _ _ ?_)
            clear hK K
            simp only [Act.put, List.setIfInBounds_toArray, List.set_cons_zero, List.set_cons_succ]
            refine wpAny_ready (rs := [6]) (by kernel_rfl) (by simp) (AllReady.cons (o := ⟨some 57, _, _, _, _, _⟩) rfl (fun K hK => ?_) AllReady.nil)
            refine step_load rfl 71 (.tmp 3) rfl ⟨q, 0, none⟩ rfl _ HSt.out.2.1 (hK _ _ ?_)
            clear hK K
            simp only [Act.put, List.setIfInBounds_toArray, List.set_cons_zero, List.set_cons_succ]
            refine wpAny_take (i := 7) (oi := ⟨some 58, _, _, _, _, _⟩) (v := .pointer (some ⟨vp, 0, none⟩)) rfl (by kernel_rfl) (by kernel_rfl) (by kernel_rfl) (fun _ _ _ h => h) (Or.inl ⟨by rfl, fun w => by rfl⟩) ?_
            simp only [Act.put, List.setIfInBounds_toArray, List.set_cons_zero, List.set_cons_succ]
            refine wpAny_take (i := 8) (oi := ⟨some 59, _, _, _, _, _⟩) (v := .pointer (some ⟨vp, 83, none⟩)) rfl (by kernel_rfl) (by kernel_rfl) (by kernel_rfl) (fun _ _ _ h => h) (Or.inl ⟨by rfl, fun w => by go_simp⟩) ?_
            simp only [Act.put, List.setIfInBounds_toArray, List.set_cons_zero, List.set_cons_succ]
            refine wpAny_ready (rs := [9]) (by kernel_rfl) (by simp) (AllReady.cons (o := ⟨none, _, _, _, _, _⟩) rfl (fun K hK => ?_) AllReady.nil)
            refine step_store rfl 69 (.tmp 59) (.tmp 56) rfl ⟨vp, 83, none⟩ rfl (.agg vn.toArray) rfl _ HSt.out.2.2.2.1 (hK _ _ ?_)
            clear hK K
            try simp only [Act.put]
            refine wpAny_take (i := 10) (oi := ⟨some 60, _, _, _, _, _⟩) (v := .pointer (some ⟨vp, 0, none⟩)) rfl (by kernel_rfl) (by kernel_rfl) (by kernel_rfl) (fun _ _ _ h => h) (Or.inl ⟨by rfl, fun w => by rfl⟩) ?_
            simp only [Act.put, List.setIfInBounds_toArray, List.set_cons_zero, List.set_cons_succ]
            refine wpAny_take (i := 11) (oi := ⟨some 61, _, _, _, _, _⟩) (v := .pointer (some ⟨vp, 165, none⟩)) rfl (by kernel_rfl) (by kernel_rfl) (by kernel_rfl) (fun _ _ _ h => h) (Or.inl ⟨by rfl, fun w => by go_simp⟩) ?_
            simp only [Act.put, List.setIfInBounds_toArray, List.set_cons_zero, List.set_cons_succ]
            refine wpAny_ready (rs := [12]) (by kernel_rfl) (by simp) (AllReady.cons (o := ⟨none, _, _, _, _, _⟩) rfl (fun K hK => ?_) AllReady.nil)
            refine step_store rfl 71 (.tmp 61) (.tmp 57) rfl ⟨vp, 165, none⟩ rfl (.agg vs.toArray) rfl _ HSt.out.2.2.2.2.1 (hK _ _ ?_)
            clear hK K
            refine wpAny_done (by kernel_rfl) ?_ _
            go_wp2_with fail
            go_ret
            exact HEnd.out
          · refine step_load rfl 71 (.tmp 3) rfl ⟨q, 0, none⟩ rfl _ HSt.out.2.1 (hK _ _ ?_)
            clear hK K
            simp only [Act.put, List.setIfInBounds_toArray, List.set_cons_zero, List.set_cons_succ]
            refine wpAny_ready (rs := [5]) (by kernel_rfl) (by simp) (AllReady.cons (o := ⟨some 56, _, _, _, _, _⟩) rfl (fun K hK => ?_) AllReady.nil)
            refine step_load rfl 69 (.tmp 55) rfl ⟨vp, 1, none⟩ rfl _ HSt.out.1 (hK _ _ ?_)
            clear hK K
            simp only [Act.put, List.setIfInBounds_toArray, List.set_cons_zero, List.set_cons_succ]
            refine wpAny_take (i := 7) (oi := ⟨some 58, _, _, _, _, _⟩) (v := .pointer (some ⟨vp, 0, none⟩)) rfl (by kernel_rfl) (by kernel_rfl) (by kernel_rfl) (fun _ _ _ h => h) (Or.inl ⟨by rfl, fun w => by rfl⟩) ?_
            simp only [Act.put, List.setIfInBounds_toArray, List.set_cons_zero, List.set_cons_succ]
            refine wpAny_take (i := 8) (oi := ⟨some 59, _, _, _, _, _⟩) (v := .pointer (some ⟨vp, 83, none⟩)) rfl (by kernel_rfl) (by kernel_rfl) (by kernel_rfl) (fun _ _ _ h => h) (Or.inl ⟨by rfl, fun w => by go_simp⟩) ?_
            simp only [Act.put, List.setIfInBounds_toArray, List.set_cons_zero, List.set_cons_succ]
            refine wpAny_ready (rs := [9]) (by kernel_rfl) (by simp) (AllReady.cons (o := ⟨none, _, _, _, _, _⟩) rfl (fun K hK => ?_) AllReady.nil)
            refine step_store rfl 69 (.tmp 59) (.tmp 56) rfl ⟨vp, 83, none⟩ rfl (.agg vn.toArray) rfl _ HSt.out.2.2.2.1 (hK _ _ ?_)
            clear hK K
            try simp only [Act.put]
            refine wpAny_take (i := 10) (oi := ⟨some 60, _, _, _, _, _⟩) (v := .pointer (some ⟨vp, 0, none⟩)) rfl (by kernel_rfl) (by kernel_rfl) (by kernel_rfl) (fun _ _ _ h => h) (Or.inl ⟨by rfl, fun w => by rfl⟩) ?_
            simp only [Act.put, List.setIfInBounds_toArray, List.set_cons_zero, List.set_cons_succ]
            refine wpAny_take (i := 11) (oi := ⟨some 61, _, _, _, _, _⟩) (v := .pointer (some ⟨vp, 165, none⟩)) rfl (by kernel_rfl) (by kernel_rfl) (by kernel_rfl) (fun _ _ _ h => h) (Or.inl ⟨by rfl, fun w => by go_simp⟩) ?_
            simp only [Act.put, List.setIfInBounds_toArray, List.set_cons_zero, List.set_cons_succ]
            refine wpAny_ready (rs := [12]) (by kernel_rfl) (by simp) (AllReady.cons (o := ⟨none, _, _, _, _, _⟩) rfl (fun K hK => ?_) AllReady.nil)
            refine step_store rfl 71 (.tmp 61) (.tmp 57) rfl ⟨vp, 165, none⟩ rfl (.agg vs.toArray) rfl _ HSt.out.2.2.2.2.1 (hK _ _ ?_)
            clear hK K
            refine wpAny_done (by kernel_rfl) ?_ _
            go_wp2_with fail
            go_ret
            exact HEnd.out
        · by_cases hE5 : E = 5
          · subst hE5
            have HU : Hid (Calls Tryz.prog 15 #[.pointer (some ⟨vp, 0, none⟩)] w9 fun y w' => y = .returned (.tuple #[]) ∧ ∃ x', w9.heap.size ≤ x' ∧ VM w' vp lp x' h rk rk a ∧ Touch (fun i => i = vp) w9 w') := by
              obtain ⟨d9, g9, L9, hb9, hl9⟩ := Hb9.out
              exact vundo_any HM9.out hb9 hl9
            go_wp2_with (first
              | ((with_reducible refine HU.out.mono ?_); rintro y w10 ⟨rfl, x', hx', M10, T10⟩
                 have HX' := Lib.hid hx'
                 have HM10 := Lib.hid M10
                 have HT10 := Lib.hid T10
                 clear hx' M10 T10))
            go_ret
            exact .inr ⟨by rw [Hee.out]; exact hne.out, 5, w8, w9, rfl, HOw.out, HK9.out, HR9.out, HT10.out, .inr (.inl ⟨rfl, x', HX'.out, HM10.out⟩)⟩
          · have h0' : ((E : Int) == 0) = false := by simp only [beq_eq_false_iff_ne]; omega
            have h5' : ((E : Int) == 5) = false := by simp only [beq_eq_false_iff_ne]; omega
            go_wp2_with fail
            go_ret
            exact .inr ⟨by rw [Hee.out]; exact hne.out, E, w8, w9, rfl, HOw.out, HK9.out, HR9.out, Touch.refl _ w9, .inr (.inr ⟨hE0, hE5, HM9.out⟩)⟩
end
end Go.Proofs.YtjajenkagcdhlaaGreat
