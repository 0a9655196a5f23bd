/- The contract of ledger.readPosting. -/
import Derived.Test.YtjajenkagcdhlaaGreatPage
namespace Go.Proofs.YtjajenkagcdhlaaGreat
open Go.RowKit
set_option maxRecDepth 100000

theorem info115 : (Tryz.prog.info? 115).map (fun i => (i.zero, i.size, i.bytes)) = some (some (.agg #[.int .i64 0, .slice none 0 0]), 2, 32) := by kernel_rfl
def noEnts (n : Nat) : List Value := (List.replicate n [Value.int .i64 0, .slice none 0 0]).flatten
theorem noEnts_length (n : Nat) : (noEnts n).length = n * 2 := by
  unfold noEnts
  rw [flatten_length 2 _ (fun b hb => by rw [(List.mem_replicate.1 hb).2]; rfl), List.length_replicate]
theorem made_ents (n : Nat) : madeCells (Value.agg #[.int .i64 0, .slice none 0 0]).cells (n * 2) = (noEnts n).toArray := by
  apply Array.ext'
  apply List.ext_getElem?
  intro i
  have hz : (Value.agg #[.int .i64 0, .slice none 0 0]).cells = #[.int .i64 0, .slice none 0 0] := rfl
  rcases Nat.lt_or_ge i (n * 2) with h | h
  · have h2 := flatten_get 2 (List.replicate n [Value.int .i64 0, .slice none 0 0]) (i / 2) (i % 2) (fun b hb => by rw [(List.mem_replicate.1 hb).2]; rfl) (by omega)
    rw [show i / 2 * 2 + i % 2 = i by omega, List.getElem?_replicate] at h2
    rw [show (noEnts n).toArray.toList = noEnts n by simp, noEnts, h2, if_pos (by omega)]
    simp only [madeCells, hz]
    simp [h]
    have : i % 2 = 0 ∨ i % 2 = 1 := by omega
    rcases this with e | e <;> rw [e] <;> rfl
  · rw [List.getElem?_eq_none (by simp [madeCells]; omega), List.getElem?_eq_none (by simp [noEnts_length]; omega)]
theorem make_ents (n : Nat) (hn : n ≤ 100000) (w : World) : (Instr.makeSlice 78 (.int .i64 n) (.int .i64 n)).run Tryz.prog w = .ok (.slice (some ⟨w.heap.size, 0, none⟩) n n) (w.alloc (.cells (noEnts n).toArray 115)) := by
  obtain ⟨i0, hi, hz0, hz1, hz2⟩ := info_parts info115
  have h := run_make (P := Tryz.prog) w 78 115 i0 _ Tryz.underlying78 hi hz0 .i64 .i64 (n : Int) (n : Int) (by omega) (by omega) (by rw [hz2]; omega) (by omega)
  rw [hz1] at h
  rw [h, ← made_ents]
  simp

/-- Of a row of entries the first t are laid. -/
def EnTo (w : World) (g c : Nat) (f : Nat → Ent) (t : Nat) : Prop := ∃ cs : List Value, Blk w g 115 cs ∧ cs.length = c * 2 ∧ ∀ i, i < t → ∃ p q, cs[i * 2]? = some (.int .i64 ((f i).1 : Int)) ∧ cs[i * 2 + 1]? = some (.slice p 96 q) ∧ (f i).2.length = 96 ∧ 96 ≤ q ∧ Byt w p (f i).2
theorem EnTo.touch {S : Nat → Prop} {w w' : World} {g c t : Nat} {f : Nat → Ent} (h : EnTo w g c f t) (o : Touch S w w') (hg : ¬ S g) (hs : ∀ k cs, Blk w k 5 cs → ¬ S k) : EnTo w' g c f t := by
  obtain ⟨cs, hb, hl, hf⟩ := h
  refine ⟨cs, hb.touch o hg, hl, fun i hi => ?_⟩
  obtain ⟨p, q, h1, h2, h3, h4, h5⟩ := hf i hi
  exact ⟨p, q, h1, h2, h3, h4, h5.keep (fun g cs q => q.touch o (hs g cs q))⟩
theorem EnTo.old {w w' : World} {g c t : Nat} {f : Nat → Ent} (h : EnTo w g c f t) (o : Old w w') : EnTo w' g c f t := h.touch o (fun q => q) (fun _ _ _ q => q)
theorem EnTo.cell {w : World} {g c t j : Nat} {f : Nat → Ent} (h : EnTo w g c f t) (hj : j < c * 2) : ∃ v, w.cell? ⟨g, j, none⟩ = some v ∧ w.frozen? ⟨g, j, none⟩ = false := by
  obtain ⟨cs, hb, hl, _⟩ := h
  exact ⟨_, (hb.cell j).trans (List.getElem?_eq_getElem (by omega)), hb.frozen j⟩
theorem EnTo.next {w : World} {g c t : Nat} {f : Nat → Ent} {p : Option Addr} {q : Nat} (h : EnTo w g c f t) (ht : t < c) (hl : (f t).2.length = 96) (hq : 96 ≤ q) (hB : Byt w p (f t).2) :
    EnTo ((w.setCell ⟨g, t * 2, none⟩ (.int .i64 ((f t).1 : Int))).setCell ⟨g, t * 2 + 1, none⟩ (.slice p 96 q)) g c f (t + 1) := by
  obtain ⟨cs, hb, hcl, hf⟩ := h
  have T : Touch (fun k => k = g) w ((w.setCell ⟨g, t * 2, none⟩ (.int .i64 ((f t).1 : Int))).setCell ⟨g, t * 2 + 1, none⟩ (.slice p 96 q)) := (Touch.one ⟨g, t * 2, none⟩ _).trans (Touch.one ⟨g, t * 2 + 1, none⟩ _)
  have hk : ∀ k ds, Blk w k 5 ds → Blk ((w.setCell ⟨g, t * 2, none⟩ (.int .i64 ((f t).1 : Int))).setCell ⟨g, t * 2 + 1, none⟩ (.slice p 96 q)) k 5 ds := fun k ds hd => hd.touch T (hd.ne hb (by decide))
  refine ⟨_, (hb.set _ _).set _ _, by rw [List.length_set, List.length_set, hcl], fun i hi => ?_⟩
  by_cases e : i = t
  · subst e
    exact ⟨p, q, by rw [List.getElem?_set_ne (by omega), List.getElem?_set_self (by omega)], by rw [List.getElem?_set_self (by rw [List.length_set]; omega)], hl, hq, hB.keep hk⟩
  · obtain ⟨p', q', h1, h2, h3, h4, h5⟩ := hf i (by omega)
    exact ⟨p', q', by rw [List.getElem?_set_ne (by omega), List.getElem?_set_ne (by omega)]; exact h1, by rw [List.getElem?_set_ne (by omega), List.getElem?_set_ne (by omega)]; exact h2, h3, h4, h5.keep hk⟩
theorem EnTo.ents {w : World} {g c : Nat} {f : Nat → Ent} (h : EnTo w g c f c) : Ents w (some ⟨g, 0, none⟩) ((List.range c).map f) := by
  obtain ⟨cs, hb, hl, hf⟩ := h
  refine ⟨fun i x hx => ?_, fun g' o e => by cases e; exact ⟨cs, hb⟩⟩
  have hi : i < c := by have := lt_of_get hx; simpa using this
  rw [List.getElem?_map, List.getElem?_range hi] at hx
  injection hx with hx
  subst hx
  obtain ⟨p, q, h1, h2, h3, h4, h5⟩ := hf i hi
  exact ⟨g, 0, p, q, rfl, by rw [Nat.zero_add, hb.cell]; exact h1, by rw [Nat.zero_add, hb.cell, h3]; exact h2, by omega, h5⟩

/-- What readPosting answers. -/
def Reads (ps : List (List Nat)) (r n home : Nat) (w : World) (x : Ending) (w' : World) : Prop :=
  Old w w' ∧ ((readP ps r n home = none ∧ x = .returned (.tuple #[.slice none 0 0, .bool false])) ∨
    ∃ e g, readP ps r n home = some e ∧ x = .returned (.tuple #[.slice (some ⟨g, 0, none⟩) e.length e.length, .bool true]) ∧ w.heap.size ≤ g ∧ Ents w' (some ⟨g, 0, none⟩) e)

theorem readP_eq {ps : List (List Nat)} {p : List Nat} (hp : ps[0]? = some p) (r n home : Nat) : readP ps r n home = if ps.length < leavesOf (countOf p) then none else if Goes (entsOf ps (countOf p)) home then
      if posting r n (entsOf ps (countOf p)) = ps.take (leavesOf (countOf p)) then some (entsOf ps (countOf p)) else none else none := by
  cases ps with
  | nil => cases hp
  | cons q s => injection hp with hp; subst hp; rfl
/-- What stands on the first t leaves. -/
theorem pieces_next {ps : List (List Nat)} {t : Nat} {x : List Nat} (h : ps[t]? = some x) : pieces (ps.take t) ++ (x.drop 12).take 64 = pieces (ps.take (t + 1)) := by
  unfold pieces
  rw [take_get h]
  simp
theorem pieces_length {ps : List (List Nat)} (h : ∀ x ∈ ps, x.length = 96) (t : Nat) (ht : t ≤ ps.length) : (pieces (ps.take t)).length = t * 64 := by
  unfold pieces
  rw [flatten_length 64 _ (fun b hb => by
    obtain ⟨x, hx, rfl⟩ := List.mem_map.1 hb
    rw [List.length_take, List.length_drop, h x (List.mem_of_mem_take hx)]; rfl), List.length_map, List.length_take, Nat.min_eq_left ht]
theorem Pgs.len {w : World} {a : Option Addr} {ps : List (List Nat)} (h : Pgs w a ps) : ∀ x ∈ ps, x.length = 96 := fun x hx => by
  obtain ⟨i, hi⟩ := List.getElem?_of_mem hx
  obtain ⟨_, _, _, _, _, hl, _⟩ := h.pg i x hi
  exact hl
theorem Pgs.byte {w : World} {a : Option Addr} {ps : List (List Nat)} (h : Pgs w a ps) : ∀ x ∈ ps, ∀ y ∈ x, y < 256 := fun x hx => by
  obtain ⟨i, hi⟩ := List.getElem?_of_mem hx
  obtain ⟨_, _, _, _, _, _, hb⟩ := h.pg i x hi
  exact hb.has.byte

theorem Mine.byt {w : World} {B : Nat} {v : Value} {xs : List Nat} (h : Mine w B v xs) (h0 : 0 < xs.length) : ∃ g c, v = .slice (some ⟨g, 0, none⟩) xs.length c ∧ xs.length ≤ c ∧ Byt w (some ⟨g, 0, none⟩) xs := by
  rcases h with ⟨_, rfl⟩ | ⟨g, c, rfl, _, G⟩
  · exact absurd h0 (Nat.lt_irrefl _)
  · refine ⟨g, c, rfl, ?_, G.own.byt⟩
    obtain ⟨_, _, hl⟩ := G.row
    omega

theorem readPosting_none (a : Option Addr) (cap r n home : Nat) (w : World) : Calls Tryz.prog 101 #[.slice a 0 cap, .int .i64 r, .int .i64 n, .int .i64 home] w (Reads [] r n home w) := by
  go_enter Tryz.func101, Tryz.ntmps101
  go_wp2_with fail
  go_ret2
  exact ⟨Touch.refl _ _, .inl ⟨rfl, rfl⟩⟩

set_option maxHeartbeats 3200000 in
theorem readPosting_any (a : Option Addr) (ps : List (List Nat)) (len cap r n home : Nat) (w : World) (h : Pgs w a ps) (hlen : ps.length = len) (h0 : 0 < len) (hcap : len ≤ cap) (hm : len ≤ 5000) (hh : home ≤ 5000) (hr : r ≤ 140737488355328) (hn : n ≤ 140737488355328) :
    Calls Tryz.prog 101 #[.slice a len cap, .int .i64 r, .int .i64 n, .int .i64 home] w (Reads ps r n home w) := by
  obtain ⟨p, hp⟩ := get_of_lt (l := ps) (n := 0) (by omega)
  obtain ⟨ga, oa, pa, rfl, hc0, hp96, hpB⟩ := h.pg 0 p hp
  have hc0' : w.cell? ⟨ga, oa, none⟩ = some (.slice pa 96 96) := hc0
  obtain ⟨gp, op, rfl, _⟩ := hpB.has.cell 0 (by omega)
  have hcl : countOf p < 65536 := num_lt (fun x hx => hpB.has.byte x (List.mem_of_mem_drop (List.mem_of_mem_take hx))) 2
  have HN := Lib.hid (number_any (some ⟨gp, op + 12, none⟩) ((p.drop 12).take 2) 2 84 w (hpB.has.part 12 2) (by rw [List.length_take, List.length_drop, hp96]; rfl) (by omega))
  have HE := Lib.hid (readP_eq hp r n home)
  have H := Lib.hid h
  have HL := Lib.hid hlen
  rw [show num ((p.drop 12).take 2) 2 = countOf p from rfl] at HN
  clear h hlen hp hpB hp96 hc0
  generalize countOf p = c at *
  have HLv := Lib.hid (fun w => leaves_any c w (by omega))
  have hmk := make_ents c (by omega) w
  have HT0 : Hid (Old w (w.alloc (.cells (noEnts c).toArray 115))) := (Touch.refl _ _).alloc _
  have HK0 : Hid (Blk (w.alloc (.cells (noEnts c).toArray 115)) w.heap.size 115 (noEnts c)) := Blk.new w 115 (noEnts c)
  generalize w.alloc (.cells (noEnts c).toArray 115) = w0 at *
  have hl0 : ¬ (len : Int) = 0 := by omega
  have hl1 : (0 : Int) < (len : Int) := by omega
  go_enter Tryz.func101, Tryz.ntmps101
  go_wp2_with fail
  refine HN.out.mono ?_
  rintro x w' ⟨rfl, rfl⟩
  go_wp2_with fail
  clear hmk HN
  refine (HLv.out _).mono ?_
  rintro x w' ⟨rfl, rfl⟩
  have hmc := leavesOf_le c
  by_cases hbig : len < leavesOf c
  · have hbig' : (len : Int) < ((leavesOf c : Nat) : Int) := by omega
    have HN : Hid (readP ps r n home = none) := by show _ = _; rw [HE.out, HL.out, if_pos hbig]
    clear HE
    go_wp2_with fail
    go_ret2
    exact ⟨HT0.out, .inl ⟨HN.out, rfl⟩⟩
  · have hbig' : ¬ (len : Int) < ((leavesOf c : Nat) : Int) := by omega
    rw [HL.out, if_neg hbig] at HE
    have HLP := Lib.hid (fun q : 0 < c => leavesOf_pos q)
    obtain ⟨m, hm'⟩ : ∃ m, leavesOf c = m := ⟨_, rfl⟩
    have HMm := Lib.hid hm'
    rw [hm'] at hbig hbig' HE HLv HLP hmc
    rw [hm']
    clear hm'
    have q0 : (0 : Int) ≤ (m : Int) := by omega
    have q1 : (m : Int) ≤ (cap : Int) := by omega
    go_wp2_with fail
    refine (HLv.out _).mono ?_
    rintro x w' ⟨rfl, rfl⟩
    clear hbig'
    go_wp2_with fail
    have HM0 : Hid (Mine w0 w.heap.size (.slice none 0 0) (pieces (ps.take 0))) := Mine.nil _ _
    go_loopw [11, 40] (fun v i wx => ∃ t : Nat, t ≤ m ∧ i = .int .i64 t ∧ Hid (Mine wx w.heap.size v (pieces (ps.take t))) ∧ Hid (Blk wx w.heap.size 115 (noEnts c)) ∧ Hid (Old w wx)) (fun _ i _ => m - (intOf i).toNat)
    case atStart => exact ⟨0, by omega, rfl, HM0, HK0, HT0⟩
    case round =>
      obtain ⟨t, hle, rfl, HMi, HK, HO⟩ := hrel
      clear HM0 HK0 HT0
      by_cases hlt : t < m
      · obtain ⟨y, hy⟩ := get_of_lt (l := ps) (n := t) (by rw [HL.out]; omega)
        obtain ⟨ga', oa', py, ee, hcy, hy96, hyB⟩ := (H.out.old HO.out).pg t y hy
        cases ee
        obtain ⟨gy, oy, rfl, _⟩ := hyB.has.cell 0 (by omega)
        have i0 : (0 : Int) ≤ (t : Int) := by omega
        have i1 : (t : Int) < (m : Int) := by omega
        obtain ⟨v2, w2, hap, P2⟩ := mine_append wr w.heap.size u11 _ ((y.drop 12).take 64) _ 64 84 HMi.out HO.out.size (hyB.has.part 12 64) (by rw [List.length_take, List.length_drop, hy96]; rfl) (by rw [pieces_length H.out.len _ (by rw [HL.out]; omega)]; omega)
        rw [pieces_next hy] at P2
        have HM2 := Lib.hid P2.mine
        have HO2 := Lib.hid (Touch.blk_old HO.out (Nat.le_refl _) HMi.out P2.touch)
        have HK2 := Lib.hid (HK.out.touch P2.touch (HMi.out.not_blk HK.out (by decide)))
        clear P2 HMi HO HK hy hyB hy96
        go_wp2_with (first | (at_builtin; refine wpList_append_run rfl _ _ 30 30 rfl _ _ rfl rfl _ _ (hap _) ?_))
        exact ⟨⟨t + 1, by omega, by go_num, HM2, HK2, HO2⟩, by simp [intOf]; omega⟩
      · obtain rfl : t = m := by omega
        have HTL := Lib.hid (pieces_length H.out.len t (by rw [HL.out]; omega))
        have HE0 : Hid (EnTo wr w.heap.size c (entAt (pieces (ps.take t))) 0) := ⟨_, HK.out, noEnts_length c, (fun i hi => absurd hi (Nat.not_lt_zero _))⟩
        clear HK
        go_wp2_with fail
        go_loopw [51] (fun i wx => ∃ k : Nat, k ≤ c ∧ i = .int .i64 k ∧ Hid (EnTo wx w.heap.size c (entAt (pieces (ps.take t))) k) ∧ Hid (Mine wx w.heap.size u11 (pieces (ps.take t))) ∧ Hid (Old w wx)) (fun i _ => c - (intOf i).toNat)
        case atStart => exact ⟨0, by omega, rfl, HE0, HMi, HO⟩
        case round =>
          obtain ⟨k, hkc, rfl, HEk, HMk, HOk⟩ := hrel
          clear HE0 HMi HO
          by_cases hltk : k < c
          · have hlp := HLP.out (by omega)
            obtain ⟨gt, c2, e2, hc2, B2⟩ := HMk.out.byt (by rw [HTL.out]; omega)
            rw [HTL.out] at e2 hc2
            obtain ⟨tl, htl⟩ : ∃ tl, t * 64 = tl := ⟨_, rfl⟩
            rw [htl] at e2 hc2 hlp
            subst e2
            have hlen2 : (pieces (ps.take t)).length = tl := by rw [HTL.out, htl]
            have HD : Hid (Old wr wr.drew) := (Touch.refl _ _).drew
            have B3 : Byt wr.drew (some ⟨gt, 0 + (2 + k * 98), none⟩) (((pieces (ps.take t)).drop (2 + k * 98)).take 2) := (B2.old HD.out).part (2 + k * 98) 2
            have B4 : Byt wr.drew (some ⟨gt, 0 + (2 + k * 98 + 2), none⟩) (entAt (pieces (ps.take t)) k).2 := (B2.old HD.out).part (2 + k * 98 + 2) 96
            rw [Nat.zero_add] at B3 B4
            have hn1 : (((pieces (ps.take t)).drop (2 + k * 98)).take 2).length = 2 := by rw [List.length_take, List.length_drop, hlen2]; omega
            have hn2 : (entAt (pieces (ps.take t)) k).2.length = 96 := by unfold entAt; rw [List.length_take, List.length_drop, hlen2]; omega
            have HNk := Lib.hid (fun q => number_any (some ⟨gt, 2 + k * 98, none⟩) _ 2 q wr.drew B3.has hn1 (by omega))
            have HE1 := Lib.hid ((HEk.out.old HD.out).next hltk hn2 (q := c2 - (2 + k * 98) - 2) (by omega) B4)
            obtain ⟨z0, hz0, hf0⟩ := HEk.out.cell (j := k * 2) (by omega)
            obtain ⟨z1, hz1, hf1⟩ := HEk.out.cell (j := k * 2 + 1) (by omega)
            have HBk : Hid (∃ cs, Blk wr.drew w.heap.size 115 cs) := by
              obtain ⟨cs, hb, _⟩ := HEk.out.old HD.out
              exact ⟨cs, hb⟩
            rw [show num (((pieces (ps.take t)).drop (2 + k * 98)).take 2) 2 = (entAt (pieces (ps.take t)) k).1 from rfl] at HNk
            have HMd := Lib.hid (HMk.out.old HD.out)
            have HOd := Lib.hid (HOk.out.trans HD.out)
            clear B2 B3 B4 hn1 hn2 hlen2 HMk HOk HEk htl
            generalize (entAt (pieces (ps.take t)) k).1 = N at *
            have i0 : (0 : Int) ≤ (k : Int) := by omega
            have i1 : (k : Int) < (c : Int) := by omega
            have hw1 : IntKind.i64.wrap ((k : Int) * 98) = (k : Int) * 98 := wrap_fits ⟨by omega, by omega⟩
            have hw2 : IntKind.i64.wrap (2 + (k : Int) * 98) = 2 + (k : Int) * 98 := wrap_fits ⟨by omega, by omega⟩
            have j0 : (0 : Int) ≤ 2 + (k : Int) * 98 := by omega
            have j1 : 2 + (k : Int) * 98 ≤ (tl : Int) := by omega
            have j2 : (2 + (k : Int) * 98).toNat = 2 + k * 98 := by omega
            have HBC : Hid (98 ≤ c2 - (2 + k * 98)) := by show _ ≤ _; omega
            go_wp2_with fail
            clear hw1 hw2 j0 j1 j2
            generalize c2 - (2 + k * 98) = bc at *
            generalize tl - (2 + k * 98) = bl at *
            generalize 2 + k * 98 = oo at *
            have k0 : (2 : Int) ≤ (bc : Int) := by have := HBC.out; omega
            have k1 : (98 : Int) ≤ (bc : Int) := by have := HBC.out; omega
            go_region_held3 (fun _ => True) (trivial) (first | (go_at_call 112; with_reducible refine (HNk.out _).mono ?_; rintro x w' ⟨rfl, rfl⟩))
            all_goals
              go_wp2_with fail
              refine ⟨⟨k + 1, by omega, by go_num, HE1, ?_, (HOd.out.setCell (.inr (Nat.le_refl _)) _).setCell (.inr (Nat.le_refl _)) _⟩, by simp [intOf]; omega⟩
              obtain ⟨cs, hb⟩ := HBk.out
              exact HMd.out.touch ((Touch.one ⟨w.heap.size, k * 2, none⟩ _).trans (Touch.one ⟨w.heap.size, k * 2 + 1, none⟩ _)) (fun q hq e => HMd.out.not_blk hb (by decide) (by rw [← show q = w.heap.size from e]; exact hq))
          · obtain rfl : k = c := by omega
            have HEn : Hid (Ents wr (some ⟨w.heap.size, 0, none⟩) (entsOf ps k)) := by
              show Ents _ _ _
              unfold entsOf
              rw [HMm.out]
              exact HEk.out.ents
            have HEl : Hid ((entsOf ps k).length = k) := by show _ = _; simp [entsOf]
            clear HEk HMk HLP
            generalize entsOf ps k = E at *
            go_wp2_with fail
            refine (goes_any _ E k k home wr HEn.out HEl.out (by omega) hh).mono ?_
            rintro x w2 ⟨rfl, O2⟩
            have HO2 := Lib.hid (HOk.out.trans O2)
            have HEn2 := Lib.hid (HEn.out.old O2)
            clear O2 HOk HEn
            by_cases hG : Goes E home
            · rw [if_pos hG] at HE
              rw [decide_eq_true hG]
              have HG := Lib.hid hG
              clear hG
              have HLt := Lib.hid (layText_any _ E k k r n w2 HEn2.out HEl.out (by rw [← HEl.out]; exact HG.out.2.2) (by omega) (fun x hx => (HG.out.1 x hx).2) (fun x hx => by have := (HG.out.1 x hx).1; omega) hr hn)
              rw [HMm.out] at HLt
              have HPl : Hid ((posting r n E).length = t) := by show _ = _; unfold posting; rw [List.length_map, List.length_range, HEl.out, HMm.out]
              go_wp2_with fail
              refine HLt.out.mono ?_
              rintro x w3 ⟨g3, rfl, hg3, P3, O3⟩
              have HP3 := Lib.hid P3
              have HO3 := Lib.hid (HO2.out.trans O3)
              have HEn3 := Lib.hid (HEn2.out.old O3)
              clear P3 O3 HO2 HEn2 HLt hg3
              generalize posting r n E = PP at *
              go_wp2_with fail
              go_loop [78] (fun i => ∃ j : Nat, j ≤ t ∧ i = .int .i64 j ∧ Hid (PP.take j = ps.take j)) (fun i => t - (intOf i).toNat)
              case atStart => exact ⟨0, by omega, rfl, by rfl⟩
              case round =>
                obtain ⟨j, hjt, rfl, HJ⟩ := hrel
                by_cases hltj : j < t
                · obtain ⟨y1, hy1⟩ := get_of_lt (l := PP) (n := j) (by rw [HPl.out]; exact hltj)
                  obtain ⟨y2, hy2⟩ := get_of_lt (l := ps) (n := j) (by rw [HL.out]; omega)
                  obtain ⟨b1, o1, q1, ee, hc1, hl1, hB1⟩ := HP3.out.pg j y1 hy1
                  cases ee
                  obtain ⟨b2, o2, q2, ee, hc2, hl2, hB2⟩ := (H.out.old HO3.out).pg j y2 hy2
                  cases ee
                  have i0 : (0 : Int) ≤ (j : Int) := by omega
                  have i1 : (j : Int) < (t : Int) := by omega
                  have hc1' : w3.cell? ⟨g3, j, none⟩ = some (.slice q1 96 96) := by have := hc1; rwa [Nat.zero_add] at this
                  have HEq := Lib.hid (equal_any q1 q2 y1 y2 96 96 96 96 w3 hB1.has hB2.has hl1 hl2)
                  have HY1 := Lib.hid hy1
                  have HY2 := Lib.hid hy2
                  clear hB1 hB2 hl1 hl2 hy1 hy2 hc1
                  go_wp2_with fail
                  refine HEq.out.mono ?_
                  rintro x w' ⟨rfl, rfl⟩
                  by_cases hyy : y1 = y2
                  · rw [decide_eq_true hyy]
                    have HJ' : Hid (PP.take (j + 1) = ps.take (j + 1)) := by show _ = _; rw [take_get HY1.out, take_get HY2.out, HJ.out, hyy]
                    clear hyy HEq
                    go_wp2_with fail
                    go_round
                    case rel => exact ⟨j + 1, by omega, by go_num, HJ'⟩
                    case measure => simp [intOf]; omega
                  · rw [decide_eq_false hyy]
                    have HN : Hid (readP ps r n home = none) := by
                      show _ = _
                      rw [HE.out, if_neg]
                      intro q
                      have := congrArg (fun l => l[j]?) q
                      simp only [List.getElem?_take_of_lt hltj, HY1.out, HY2.out] at this
                      injection this with this
                      exact hyy this
                    clear hyy HEq HE
                    go_wp2_with fail
                    go_ret2
                    exact ⟨HO3.out, .inl ⟨HN.out, rfl⟩⟩
                · obtain rfl : j = t := by omega
                  have HN : Hid (readP ps r n home = some E) := by
                    show _ = _
                    have hJ := HJ.out
                    rw [List.take_of_length_le (by rw [HPl.out]; exact Nat.le_refl _)] at hJ
                    rw [HE.out, if_pos hJ]
                  clear HE
                  go_wp2_with fail
                  go_ret2
                  refine ⟨HO3.out, .inr ⟨E, w.heap.size, HN.out, ?_, Nat.le_refl _, HEn3.out⟩⟩
                  rw [HEl.out]
                  rfl
            · rw [if_neg hG] at HE
              rw [decide_eq_false hG]
              clear hG
              go_wp2_with fail
              go_ret2
              exact ⟨HO2.out, .inl ⟨HE.out, rfl⟩⟩
end Go.Proofs.YtjajenkagcdhlaaGreat
