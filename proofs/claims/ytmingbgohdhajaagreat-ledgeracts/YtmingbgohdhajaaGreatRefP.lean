/- The contract of lariatref3.posting. -/
import Derived.Test.YtmingbgohdhajaaGreatRefS
namespace Go.Proofs.YtmingbgohdhajaaGreat
open Go.RowKit
set_option maxRecDepth 100000
set_option linter.unusedSimpArgs false

/-- A row of texts of one's own, not older than B, or nil. -/
def MineT (w : World) (B : Nat) (v : Value) (T : List (List Nat)) : Prop := w.ownsRow B 9 1 v T.length (rstrs T)
theorem MineT.nil (w : World) (B : Nat) : MineT w B (.slice none 0 0) [] := World.ownsRow_nil _ _ _ _
theorem MineT.old {w w' : World} {B : Nat} {v : Value} {T : List (List Nat)} (h : MineT w B v T) (m : Old w w') : MineT w' B v T := owns_touch h m (fun _ _ q => q)
theorem MineT.form {w : World} {B : Nat} {v : Value} {T : List (List Nat)} (h : MineT w B v T) : ∃ a c, v = .slice a T.length c := str_form h
theorem MineT.at {w : World} {B : Nat} {a : Option Addr} {n c : Nat} {T : List (List Nat)} (h : MineT w B (.slice a n c) T) (hn : T.length = n) {k : Nat} {b : List Nat} (hk : T[k]? = some b) : ∃ g, a = some ⟨g, 0, none⟩ ∧ w.cell? ⟨g, k, none⟩ = some (.string (strOf b)) := by
  have hl := lt_of_get hk
  unfold MineT at h
  rw [hn] at h
  obtain ⟨g, rfl, _, _, _⟩ := row_ptr h (by omega)
  exact ⟨g, rfl, by rw [h.cellAt k (by omega), rstrs_get hk]⟩
theorem MineT.touch {S : Nat → Prop} {w w' : World} {B : Nat} {v : Value} {T : List (List Nat)} (h : MineT w B v T) (m : Touch S w w') (hn : ∀ k, blk v k → ¬ S k) : MineT w' B v T := owns_touch h m hn
theorem MineT.typed {w : World} {B : Nat} {v : Value} {T : List (List Nat)} (h : MineT w B v T) : ∀ k, blk v k → ∃ cs, Blk w k 9 cs := by
  obtain ⟨_, ⟨rfl, _⟩ | ⟨g, cap, cur, rfl, _, hg, _⟩⟩ := h
  · intro k hk; cases hk
  · intro k hk
    have e1 : g = k := by injection hk
    subst e1
    exact ⟨cur.toList, by unfold Blk; rw [hg]⟩
theorem MineT.more {w : World} {B : Nat} {v : Value} {T : List (List Nat)} (h : MineT w B v T) (hB : B ≤ w.heap.size) (b : List Nat) (hl : T.length ≤ 1000000) :
    ∃ v' w', (∀ ty, (Builtin.append_ #[56, 56] ty #[v, .slice (some ⟨w.heap.size, 0, none⟩) 1 1]).run Tryz.prog (w.alloc (.cells #[.string (strOf b)] 9)) = .ok v' w') ∧ MineT w' B v' (T ++ [b]) ∧ Touch (blk v) w w' := by
  have T1 : Old w (w.alloc (.cells #[.string (strOf b)] 9)) := (Touch.refl _ w).alloc _
  have K1 : Blk (w.alloc (.cells #[.string (strOf b)] 9)) w.heap.size 9 [.string (strOf b)] := Blk.new w 9 [.string (strOf b)]
  have h1 := h.old T1
  have hB1 : B ≤ (w.alloc (.cells #[.string (strOf b)] 9)).heap.size := Nat.le_trans hB T1.size
  generalize w.alloc (.cells #[.string (strOf b)] 9) = w1 at *
  obtain ⟨i0, hi0, hz0, hz1, hz2⟩ := info_parts rinfo9
  obtain ⟨v', w', hap, own, gr, _, _⟩ := run_append_own_at (P := Tryz.prog) w1 B 56 56 9 i0 _ 1 16 Tryz.underlying56 hi0 hz0 hz1 hz2 rfl (by omega) v _ _ h1 ⟨w.heap.size, 0, none⟩ 1 1 [.string (strOf b)] rfl (World.news_of_block K1) (fun u hu => by rw [List.mem_singleton.1 hu]; rfl) (by simp only [maxLen]; omega) (by omega) hB1
  refine ⟨v', w', fun ty => hap, ?_, (Touch.of_old T1).trans (Touch.grown gr (fun k hk => hk))⟩
  unfold MineT
  rw [List.length_append, show rstrs (T ++ [b]) = rstrs T ++ [.string (strOf b)] by simp [rstrs]]
  exact own
theorem MineT.lt {w : World} {B : Nat} {v : Value} {T : List (List Nat)} (h : MineT w B v T) : ∀ k, blk v k → B ≤ k ∧ k < w.heap.size := fun k hk => World.ownsRow.lt h k hk

/-- The text of the first t entries. -/
def retextTo (e : List Ent) (t : Nat) : List Nat := high e.length 2 ++ ((e.take t).map entText).flatten
theorem retextTo_succ {e : List Ent} {t : Nat} {x : Ent} (hx : e[t]? = some x) : retextTo e t ++ high x.1 2 ++ x.2 = retextTo e (t + 1) := by
  unfold retextTo
  rw [take_get hx, List.map_append, List.flatten_append]
  simp [entText]
theorem retextTo_length {e : List Ent} (h : ∀ x ∈ e, x.2.length = 96) {t : Nat} (ht : t ≤ e.length) : (retextTo e t).length = 2 + t * 98 := by
  unfold retextTo
  rw [List.length_append, high_length, flatten_length 98 _ (fun b hb => by
    obtain ⟨x, hx, rfl⟩ := List.mem_map.1 hb
    simp [entText, high_length, h x (List.mem_of_mem_take hx)]), List.length_map, List.length_take, Nat.min_eq_left ht]
theorem retextTo_all (e : List Ent) : retextTo e e.length = etext e := by unfold retextTo etext; rw [List.take_length]
theorem rleaf_text (r n k m : Nat) (p : List Nat) : high r 4 ++ high n 4 ++ high k 2 ++ high m 2 ++ p ++ high n 4 ++ high r 4 = leafText r n k m p := by simp [leafText]
theorem rposting_take {r n : Nat} {e : List Ent} {t : Nat} (h : t < leavesOf e.length) : (posting r n e).take (t + 1) = (posting r n e).take t ++ [leaf r n e t] := by
  rw [take_get (x := leaf r n e t)]
  unfold posting
  rw [List.getElem?_map, List.getElem?_range h]
  rfl

theorem rleafText_byte {r n k m : Nat} {p : List Nat} (hp : ∀ q ∈ p, q < 256) : ∀ q ∈ leafText r n k m p, q < 256 := fun q hq => by
  simp only [leafText, List.mem_append] at hq
  rcases hq with h | h | h | h | h | h | h
  · exact high_byte _ _ q h
  · exact high_byte _ _ q h
  · exact high_byte _ _ q h
  · exact high_byte _ _ q h
  · exact hp q h
  · exact high_byte _ _ q h
  · exact high_byte _ _ q h
theorem rptext_bytes {e : List Ent} (h : ∀ x ∈ e, ∀ q ∈ x.2, q < 256) : ∀ q ∈ ptext e, q < 256 := fun q hq => by
  simp only [ptext, etext, List.mem_append] at hq
  rcases hq with (h1 | h1) | h1
  · exact high_byte _ _ q h1
  · obtain ⟨l, hl, hq⟩ := List.mem_flatten.1 h1
    obtain ⟨x, hx, rfl⟩ := List.mem_map.1 hl
    rcases List.mem_append.1 hq with h2 | h2
    · exact high_byte _ _ q h2
    · exact h x hx q h2
  · exact zeros_byte _ q h1

structure RPost (w wx : World) (v : Value) (r n : Nat) (e : List Ent) (t : Nat) : Prop where
  mine : MineT wx w.heap.size v ((posting r n e).take t)
  old : Old w wx

set_option maxHeartbeats 6400000 in
theorem rposting_any (r n : Nat) (a : Option Addr) (e : List Ent) (m c : Nat) (w : World) (h : REnts w a e) (hm : e.length = m) (hc : m ≤ 2000) (he : ∀ x ∈ e, x.2.length = 96 ∧ x.1 ≤ 1000000 ∧ ∀ q ∈ x.2, q < 256) (hr : r ≤ 140737488355328) (hn : n ≤ 140737488355328) :
    Calls Tryz.prog 67 #[.int .i64 (r : Int), .int .i64 (n : Int), .slice a m c] w fun x w' => ∃ v, x = .returned v ∧ MineT w' w.heap.size v (posting r n e) ∧ Old w w' := by
  have H := Lib.hid h
  have HM := Lib.hid hm
  have HE := Lib.hid he
  have HX0 : Hid (retextTo e 0 = high m 2) := by show _ = _; unfold retextTo; rw [hm]; simp
  have HXn : Hid (retextTo e m = etext e) := by show _ = _; rw [← hm]; exact retextTo_all e
  have HXl : Hid (∀ t, t ≤ m → (retextTo e t).length = 2 + t * 98) := fun t ht => retextTo_length (fun x hx => (he x hx).1) (by omega)
  clear h hm he
  go_enter Tryz.func67, Tryz.ntmps67
  go_wp2_with fail
  refine (rhigh_any m 2 (by omega) (by omega) (by omega) w).mono ?_
  rintro x w1 ⟨g1, c1, rfl, _, _, G1, T1⟩
  rw [high_length]
  have hs : (convert 61 9 (.slice (some ⟨g1, 0, none⟩) 2 c1)).run Tryz.prog w1 = .ok (.string (strOf (retextTo e 0))) w1 := by rw [HX0.out]; exact str_any w1 _ _ 2 c1 G1.has (high_length m 2)
  have HT1 := Lib.hid T1
  clear G1 T1 HX0
  go_wp2_with fail
  go_loopw [7, 8] (fun s i wx => ∃ t : Nat, t ≤ m ∧ i = .int .i64 t ∧ s = .string (strOf (retextTo e t)) ∧ Hid (Old w wx)) (fun _ i _ => m - (intOf i).toNat)
  case atStart => exact ⟨0, Nat.zero_le _, rfl, rfl, HT1⟩
  case round =>
    obtain ⟨t, ht, rfl, rfl, HO⟩ := hrel
    clear HT1 hs
    by_cases hlt : t < m
    · obtain ⟨x, hx⟩ := get_of_lt (l := e) (n := t) (by rw [HM.out]; exact hlt)
      obtain ⟨g, rfl, cx0, cx1⟩ := (H.out.old HO.out) t x hx
      have HEx := Lib.hid (HE.out x (mem_of_get hx))
      have HS := Lib.hid (retextTo_succ hx)
      have i0 : (0 : Int) ≤ (t : Int) := by omega
      have i1 : (t : Int) < (m : Int) := by omega
      have d0 : wr.drew.cell? ⟨g, t * 2, none⟩ = some (.int .i64 (x.1 : Int)) := cx0
      have d1 : wr.drew.cell? ⟨g, t * 2 + 1, none⟩ = some (.string (strOf x.2)) := cx1
      have hz1 : ¬ 9223372036854775807 < (strOf (retextTo e t)).size + (strOf (high x.1 2)).size := by rw [rstr_size, rstr_size, HXl.out t ht, high_length]; omega
      have hz2 : ¬ 9223372036854775807 < (strOf (retextTo e t)).size + (strOf (high x.1 2)).size + (strOf x.2).size := by rw [rstr_size, rstr_size, rstr_size, HXl.out t ht, high_length, HEx.out.1]; omega
      have HS2 : Hid (strOf (retextTo e t) ++ strOf (high x.1 2) ++ strOf x.2 = strOf (retextTo e (t + 1))) := by show _ = _; rw [rstr_append, rstr_append, HS.out]
      clear hx cx0 cx1 HS
      generalize hs0 : strOf (retextTo e t) = s0 at *
      generalize hs1 : strOf x.2 = s1 at *
      generalize hs2 : strOf (high x.1 2) = s2 at *
      have Hs2 := Lib.hid hs2
      clear hs0 hs1 hs2
      go_wp2_with fail
      refine wp_region_grow (by kernel_rfl) ?_
      refine wpGrow_take (i := 0) (oi := ⟨some 25, _, _, _, _, _⟩) (v := ?av0) rfl (by kernel_rfl) (by kernel_rfl) (by kernel_rfl) (fun _ _ _ h => h) (by kernel_rfl) ?ay0 ?ar0
      case ay0 =>
        intro wt hO
        go_simp
        try with_reducible rfl
      try simp only [Act.put, List.setIfInBounds_toArray, List.set_cons_zero, List.set_cons_succ]
      refine wpGrow_take (i := 1) (oi := ⟨some 26, _, _, _, _, _⟩) (v := ?av1) rfl (by kernel_rfl) (by kernel_rfl) (by kernel_rfl) (fun _ _ _ h => h) (by kernel_rfl) ?ay1 ?ar1
      case ay1 =>
        intro wt hO
        go_simp
        try with_reducible rfl
      try simp only [Act.put, List.setIfInBounds_toArray, List.set_cons_zero, List.set_cons_succ]
      refine wpGrow_take (i := 2) (oi := ⟨some 27, _, _, _, _, _⟩) (v := ?av2) rfl (by kernel_rfl) (by kernel_rfl) (by kernel_rfl) (fun _ _ _ h => h) (by kernel_rfl) ?ay2 ?ar2
      case ay2 =>
        intro wt hO
        go_simp
        try with_reducible rfl
      try simp only [Act.put, List.setIfInBounds_toArray, List.set_cons_zero, List.set_cons_succ]
      refine wpGrow_take (i := 3) (oi := ⟨some 28, _, _, _, _, _⟩) (v := ?av3) rfl (by kernel_rfl) (by kernel_rfl) (by kernel_rfl) (fun _ _ _ h => h) (by kernel_rfl) ?ay3 ?ar3
      case ay3 =>
        intro wt hO
        go_simp
        try with_reducible rfl
      try simp only [Act.put, List.setIfInBounds_toArray, List.set_cons_zero, List.set_cons_succ]
      refine wpGrow_take (i := 4) (oi := ⟨some 29, _, _, _, _, _⟩) (v := ?av4) rfl (by kernel_rfl) (by kernel_rfl) (by kernel_rfl) (fun _ _ _ h => h) (by kernel_rfl) ?ay4 ?ar4
      case ay4 =>
        intro wt hO
        go_simp
        try with_reducible rfl
      try simp only [Act.put, List.setIfInBounds_toArray, List.set_cons_zero, List.set_cons_succ]
      refine wpGrow_take (i := 5) (oi := ⟨some 30, _, _, _, _, _⟩) (v := ?av5) rfl (by kernel_rfl) (by kernel_rfl) (by kernel_rfl) (fun _ _ _ h => h) (by kernel_rfl) ?ay5 ?ar5
      case ay5 =>
        intro wt hO
        have f0 := (hO.cell (p := ⟨g, t * 2, none⟩) (lt_of_cell? d0) (fun q => q)).trans d0; go_simp
        try with_reducible rfl
      try simp only [Act.put, List.setIfInBounds_toArray, List.set_cons_zero, List.set_cons_succ]
      refine wpGrow_take (i := 9) (oi := ⟨some 34, _, _, _, _, _⟩) (v := ?av9) rfl (by kernel_rfl) (by kernel_rfl) (by kernel_rfl) (fun _ _ _ h => h) (by kernel_rfl) ?ay9 ?ar9
      case ay9 =>
        intro wt hO
        go_simp
        try with_reducible rfl
      try simp only [Act.put, List.setIfInBounds_toArray, List.set_cons_zero, List.set_cons_succ]
      refine wpGrow_take (i := 10) (oi := ⟨some 35, _, _, _, _, _⟩) (v := ?av10) rfl (by kernel_rfl) (by kernel_rfl) (by kernel_rfl) (fun _ _ _ h => h) (by kernel_rfl) ?ay10 ?ar10
      case ay10 =>
        intro wt hO
        go_simp
        try with_reducible rfl
      try simp only [Act.put, List.setIfInBounds_toArray, List.set_cons_zero, List.set_cons_succ]
      refine wpGrow_take (i := 11) (oi := ⟨some 36, _, _, _, _, _⟩) (v := ?av11) rfl (by kernel_rfl) (by kernel_rfl) (by kernel_rfl) (fun _ _ _ h => h) (by kernel_rfl) ?ay11 ?ar11
      case ay11 =>
        intro wt hO
        go_simp
        try with_reducible rfl
      try simp only [Act.put, List.setIfInBounds_toArray, List.set_cons_zero, List.set_cons_succ]
      refine wpGrow_take (i := 12) (oi := ⟨some 37, _, _, _, _, _⟩) (v := ?av12) rfl (by kernel_rfl) (by kernel_rfl) (by kernel_rfl) (fun _ _ _ h => h) (by kernel_rfl) ?ay12 ?ar12
      case ay12 =>
        intro wt hO
        go_simp
        try with_reducible rfl
      try simp only [Act.put, List.setIfInBounds_toArray, List.set_cons_zero, List.set_cons_succ]
      refine wpGrow_take (i := 13) (oi := ⟨some 38, _, _, _, _, _⟩) (v := ?av13) rfl (by kernel_rfl) (by kernel_rfl) (by kernel_rfl) (fun _ _ _ h => h) (by kernel_rfl) ?ay13 ?ar13
      case ay13 =>
        intro wt hO
        have f1 := (hO.cell (p := ⟨g, t * 2 + 1, none⟩) (lt_of_cell? d1) (fun q => q)).trans d1; go_simp
        try with_reducible rfl
      try simp only [Act.put, List.setIfInBounds_toArray, List.set_cons_zero, List.set_cons_succ]
      refine wpGrow_call (i := 6) (o := ⟨some 31, _, _, _, _, _⟩) rfl (by kernel_rfl) (by kernel_rfl) (fun K hK => ?_)
      go_simp
      refine (rhigh_any x.1 2 (by omega) (by omega) (by have := HEx.out.2.1; omega) wr.drew).mono ?_
      rintro ye w2 ⟨g2, c2, rfl, _, _, G2, T2⟩
      rw [high_length]
      have HG2 := Lib.hid G2.has
      have HO2 := Lib.hid ((HO.out.drew).trans T2)
      refine hK.out _ _ T2 ?_
      clear hK G2 T2
      try simp only [Act.put, List.setIfInBounds_toArray, List.set_cons_zero, List.set_cons_succ]
      refine wpGrow_take (i := 7) (oi := ⟨some 32, _, _, _, _, _⟩) (v := ?av7) rfl (by kernel_rfl) (by kernel_rfl) (by kernel_rfl) (fun _ _ _ h => h) (by kernel_rfl) ?ay7 ?ar7
      case ay7 =>
        intro wt hO
        have hs : (convert 61 9 (.slice (some ⟨g2, 0, none⟩) 2 c2)).run Tryz.prog wt = .ok (.string s2) wt := (by rw [← Hs2.out]; exact str_any wt _ _ 2 c2 (HG2.out.old hO) (high_length _ 2)); go_simp
        try with_reducible rfl
      try simp only [Act.put, List.setIfInBounds_toArray, List.set_cons_zero, List.set_cons_succ]
      refine wpGrow_take (i := 8) (oi := ⟨some 33, _, _, _, _, _⟩) (v := ?av8) rfl (by kernel_rfl) (by kernel_rfl) (by kernel_rfl) (fun _ _ _ h => h) (by kernel_rfl) ?ay8 ?ar8
      case ay8 =>
        intro wt hO
        go_simp
        try with_reducible rfl
      try simp only [Act.put, List.setIfInBounds_toArray, List.set_cons_zero, List.set_cons_succ]
      refine wpGrow_take (i := 14) (oi := ⟨some 39, _, _, _, _, _⟩) (v := ?av14) rfl (by kernel_rfl) (by kernel_rfl) (by kernel_rfl) (fun _ _ _ h => h) (by kernel_rfl) ?ay14 ?ar14
      case ay14 =>
        intro wt hO
        go_simp
        try with_reducible rfl
      try simp only [Act.put, List.setIfInBounds_toArray, List.set_cons_zero, List.set_cons_succ]
      refine wpGrow_take (i := 15) (oi := ⟨some 7, _, _, _, _, _⟩) (v := ?av15) rfl (by kernel_rfl) (by kernel_rfl) (by kernel_rfl) (fun _ _ _ h => h) (by kernel_rfl) ?ay15 ?ar15
      case ay15 =>
        intro wt hO
        go_simp
        try with_reducible rfl
      try simp only [Act.put, List.setIfInBounds_toArray, List.set_cons_zero, List.set_cons_succ]
      refine wpGrow_done (by kernel_rfl) ?_ _
      go_wp2_with fail
      exact ⟨⟨t + 1, by omega, by go_num, by rw [HS2.out], HO2⟩, by simp [intOf]; omega⟩
    · obtain rfl : t = m := by omega
      have HN : Hid ((retextTo e t).length = 2 + t * 98) := HXl.out t (Nat.le_refl _)
      rw [HXn.out] at HN ⊢
      obtain ⟨L, hL⟩ : ∃ L, leavesOf t = L := ⟨_, rfl⟩
      have hLb : L ≤ 4000 := by rw [← hL]; unfold leavesOf; split <;> omega
      have hLz : L = 0 ∨ 2 + t * 98 ≤ L * 64 := by rw [← hL]; unfold leavesOf; split <;> omega
      obtain ⟨z, hz⟩ : ∃ z, L * 64 - (2 + t * 98) = z := ⟨_, rfl⟩
      have hmx : max 0 ((L : Int) * 64 - (((strOf (etext e)).size : Nat) : Int)) = (z : Int) := by rw [rstr_size, HN.out]; omega
      have hzz : ¬ 9223372036854775807 < (strOf (etext e)).size + (strOf (zeros z)).size := by rw [rstr_size, rstr_size, HN.out, zeros_length]; omega
      have HP : Hid (strOf (etext e) ++ strOf (zeros z) = strOf (ptext e)) := by show _ = _; rw [rstr_append]; unfold ptext; rw [HM.out, hL, HN.out, hz]
      have HPl : Hid ((ptext e).length = 2 + t * 98 + z) := by show _ = _; unfold ptext; rw [List.length_append, HN.out, HM.out, hL, hz, zeros_length]
      have HL := Lib.hid hL
      have Hz := Lib.hid hz
      have HLe : Hid (leavesOf e.length = L) := by show _ = _; rw [HM.out]; exact hL
      clear hL hz HXn HXl
      generalize hq : strOf (etext e) = q at *
      clear hq
      go_wp2_with fail
      refine (rleaves_any t wr (by omega)).mono ?_
      rintro x w' ⟨rfl, rfl⟩
      rw [HL.out]
      go_wp2_with fail
      refine (rzeros_any _ z hmx (by omega) wr).mono ?_
      rintro x w2 ⟨rfl, hw2⟩
      have O2 : Old wr w2 := by rw [hw2]; exact (Touch.refl _ _).alloc _
      have hs : (convert 61 9 (.slice (some ⟨wr.heap.size, 0, none⟩) z z)).run Tryz.prog w2 = .ok (.string (strOf (zeros z))) w2 := by rw [hw2]; exact str_any _ _ _ z z (Own.new wr (zeros z) (zeros_byte z)).has (zeros_length z)
      have HO2 := Lib.hid (HO.out.trans O2)
      clear hw2 O2 HO
      generalize strOf (zeros z) = q2 at *
      go_wp2_with fail
      rw [HP.out]
      clear HP hs hzz hmx
      have HR0 : Hid (RPost w w2 (.slice none 0 0) r n e 0) := ⟨by rw [List.take_zero]; exact MineT.nil _ _, HO2.out⟩
      clear HO2
      go_loopw [10, 11] (fun v i wx => ∃ k : Nat, k ≤ L ∧ i = .int .i64 k ∧ Hid (RPost w wx v r n e k)) (fun _ i _ => L - (intOf i).toNat)
      case atStart => exact ⟨0, Nat.zero_le _, rfl, HR0⟩
      case round =>
        obtain ⟨k, hk, rfl, HR⟩ := hrel
        clear HR0
        by_cases hkl : k < L
        · have HT0 : Hid (Old wr wr.drew) := (Touch.refl _ _).drew
          have hsz : (strOf (ptext e)).size = L * 64 := by rw [rstr_size, HPl.out]; have := Hz.out; omega
          have Hpc : Hid ((strOf (ptext e)).extract (k * 64) ((k + 1) * 64) = strOf (((ptext e).drop (k * 64)).take 64)) := by show _ = _; rw [rstr_extract]; congr 2; omega
          have k0 : (0 : Int) ≤ (k : Int) * 64 := by omega
          have k3 : (k : Int) < (L : Int) := by omega
          have k4 : (k : Int) * 64 ≤ ((k : Int) + 1) * 64 := by omega
          have k5 : ((k : Int) + 1) * 64 ≤ (L : Int) * 64 := by omega
          have k6 : ((k : Int) + 1) * 64 ≤ (((strOf (ptext e)).size : Nat) : Int) := by rw [hsz]; omega
          obtain ⟨sr, hsr⟩ : ∃ s, strOf (high r 4) = s := ⟨_, rfl⟩
          obtain ⟨sn, hsn⟩ : ∃ s, strOf (high n 4) = s := ⟨_, rfl⟩
          obtain ⟨sk, hsk⟩ : ∃ s, strOf (high k 2) = s := ⟨_, rfl⟩
          obtain ⟨sL, hsL⟩ : ∃ s, strOf (high L 2) = s := ⟨_, rfl⟩
          have hr4 : sr.size = 4 := by rw [← hsr, rstr_size, high_length]
          have hn4 : sn.size = 4 := by rw [← hsn, rstr_size, high_length]
          have hk2 : sk.size = 2 := by rw [← hsk, rstr_size, high_length]
          have hL2 : sL.size = 2 := by rw [← hsL, rstr_size, high_length]
          have Hsr := Lib.hid hsr
          have Hsn := Lib.hid hsn
          have Hsk := Lib.hid hsk
          have HsL := Lib.hid hsL
          clear hsr hsn hsk hsL
          have hw1 : IntKind.i64.wrap ((k : Int) + 1) = (k : Int) + 1 := wrap_fits ⟨by omega, by omega⟩
          have hw2 : IntKind.i64.wrap (((k : Int) + 1) * 64) = ((k : Int) + 1) * 64 := wrap_fits ⟨by omega, by omega⟩
          have hw3 : IntKind.i64.wrap ((k : Int) * 64) = (k : Int) * 64 := wrap_fits ⟨by omega, by omega⟩
          have hn1 : ((k : Int) * 64).toNat = k * 64 := by omega
          have hn2 : (((k : Int) + 1) * 64).toNat = (k + 1) * 64 := by omega
          have k7 : (0 : Int) ≤ ((k : Int) + 1) * 64 := by omega
          have k8 : (k : Int) + 1 ≤ (L : Int) := by omega
          have k9 : (k : Int) ≤ (k : Int) + 1 := by omega
          have hpz : (strOf (((ptext e).drop (k * 64)).take 64)).size = 64 := by rw [rstr_size, List.length_take, List.length_drop, HPl.out]; have := Hz.out; omega
          have Hpb : Hid (∀ q ∈ leafText r n k L (((ptext e).drop (k * 64)).take 64), q < 256) := rleafText_byte (fun q hq => rptext_bytes (fun x hx => (HE.out x hx).2.2) q (List.mem_of_mem_drop (List.mem_of_mem_take hq)))
          have Hpl : Hid ((leafText r n k L (((ptext e).drop (k * 64)).take 64)).length = 84) := by show _ = _; rw [rstr_size] at hpz; simp [leafText, high_length, hpz]
          have HLf : Hid (leaf r n e k = track (leafText r n k L (((ptext e).drop (k * 64)).take 64))) := by show _ = _; unfold leaf; rw [HLe.out]
          have HTx : Hid (sr ++ sn ++ sk ++ sL ++ (strOf (ptext e)).extract (k * 64) ((k + 1) * 64) ++ sn ++ sr = strOf (leafText r n k L (((ptext e).drop (k * 64)).take 64))) := by show _ = _; rw [Hpc.out, ← Hsr.out, ← Hsn.out, ← Hsk.out, ← HsL.out, rstr_append, rstr_append, rstr_append, rstr_append, rstr_append, rstr_append, rleaf_text]
          have Hst := Lib.hid (rposting_take (r := r) (n := n) (e := e) (t := k) (by rw [HLe.out]; exact hkl))
          rw [← Hpc.out] at hpz
          clear Hpc
          generalize ((ptext e).drop (k * 64)).take 64 = pc at *
          generalize hsp : strOf (ptext e) = sp at *
          clear hsp
          go_wp2_with fail
          refine wp_region_grow (by kernel_rfl) ?_
          refine wpGrow_take (i := 0) (oi := ⟨some 57, _, _, _, _, _⟩) (v := ?bv0) rfl (by kernel_rfl) (by kernel_rfl) (by kernel_rfl) (fun _ _ _ h => h) (by kernel_rfl) ?by0 ?br0
          case by0 =>
            intro wt hO
            go_simp
            try with_reducible rfl
          try simp only [Act.put, List.setIfInBounds_toArray, List.set_cons_zero, List.set_cons_succ]
          refine wpGrow_take (i := 3) (oi := ⟨some 60, _, _, _, _, _⟩) (v := ?bv3) rfl (by kernel_rfl) (by kernel_rfl) (by kernel_rfl) (fun _ _ _ h => h) (by kernel_rfl) ?by3 ?br3
          case by3 =>
            intro wt hO
            go_simp
            try with_reducible rfl
          try simp only [Act.put, List.setIfInBounds_toArray, List.set_cons_zero, List.set_cons_succ]
          refine wpGrow_take (i := 7) (oi := ⟨some 64, _, _, _, _, _⟩) (v := ?bv7) rfl (by kernel_rfl) (by kernel_rfl) (by kernel_rfl) (fun _ _ _ h => h) (by kernel_rfl) ?by7 ?br7
          case by7 =>
            intro wt hO
            go_simp
            try with_reducible rfl
          try simp only [Act.put, List.setIfInBounds_toArray, List.set_cons_zero, List.set_cons_succ]
          refine wpGrow_take (i := 11) (oi := ⟨some 68, _, _, _, _, _⟩) (v := ?bv11) rfl (by kernel_rfl) (by kernel_rfl) (by kernel_rfl) (fun _ _ _ h => h) (by kernel_rfl) ?by11 ?br11
          case by11 =>
            intro wt hO
            go_simp
            try with_reducible rfl
          try simp only [Act.put, List.setIfInBounds_toArray, List.set_cons_zero, List.set_cons_succ]
          refine wpGrow_take (i := 15) (oi := ⟨some 72, _, _, _, _, _⟩) (v := ?bv15) rfl (by kernel_rfl) (by kernel_rfl) (by kernel_rfl) (fun _ _ _ h => h) (by kernel_rfl) ?by15 ?br15
          case by15 =>
            intro wt hO
            go_simp
            try with_reducible rfl
          try simp only [Act.put, List.setIfInBounds_toArray, List.set_cons_zero, List.set_cons_succ]
          refine wpGrow_take (i := 16) (oi := ⟨some 73, _, _, _, _, _⟩) (v := ?bv16) rfl (by kernel_rfl) (by kernel_rfl) (by kernel_rfl) (fun _ _ _ h => h) (by kernel_rfl) ?by16 ?br16
          case by16 =>
            intro wt hO
            go_simp
            try with_reducible rfl
          try simp only [Act.put, List.setIfInBounds_toArray, List.set_cons_zero, List.set_cons_succ]
          refine wpGrow_take (i := 17) (oi := ⟨some 74, _, _, _, _, _⟩) (v := ?bv17) rfl (by kernel_rfl) (by kernel_rfl) (by kernel_rfl) (fun _ _ _ h => h) (by kernel_rfl) ?by17 ?br17
          case by17 =>
            intro wt hO
            go_simp
            try with_reducible rfl
          try simp only [Act.put, List.setIfInBounds_toArray, List.set_cons_zero, List.set_cons_succ]
          refine wpGrow_take (i := 18) (oi := ⟨some 75, _, _, _, _, _⟩) (v := ?bv18) rfl (by kernel_rfl) (by kernel_rfl) (by kernel_rfl) (fun _ _ _ h => h) (by kernel_rfl) ?by18 ?br18
          case by18 =>
            intro wt hO
            go_simp
            try with_reducible rfl
          try simp only [Act.put, List.setIfInBounds_toArray, List.set_cons_zero, List.set_cons_succ]
          refine wpGrow_take (i := 19) (oi := ⟨some 76, _, _, _, _, _⟩) (v := ?bv19) rfl (by kernel_rfl) (by kernel_rfl) (by kernel_rfl) (fun _ _ _ h => h) (by kernel_rfl) ?by19 ?br19
          case by19 =>
            intro wt hO
            go_simp
            try with_reducible rfl
          try simp only [Act.put, List.setIfInBounds_toArray, List.set_cons_zero, List.set_cons_succ]
          refine wpGrow_take (i := 20) (oi := ⟨some 77, _, _, _, _, _⟩) (v := ?bv20) rfl (by kernel_rfl) (by kernel_rfl) (by kernel_rfl) (fun _ _ _ h => h) (by kernel_rfl) ?by20 ?br20
          case by20 =>
            intro wt hO
            go_simp
            try with_reducible rfl
          try simp only [Act.put, List.setIfInBounds_toArray, List.set_cons_zero, List.set_cons_succ]
          refine wpGrow_take (i := 21) (oi := ⟨some 78, _, _, _, _, _⟩) (v := ?bv21) rfl (by kernel_rfl) (by kernel_rfl) (by kernel_rfl) (fun _ _ _ h => h) (by kernel_rfl) ?by21 ?br21
          case by21 =>
            intro wt hO
            go_simp
            try with_reducible rfl
          try simp only [Act.put, List.setIfInBounds_toArray, List.set_cons_zero, List.set_cons_succ]
          refine wpGrow_take (i := 23) (oi := ⟨some 80, _, _, _, _, _⟩) (v := ?bv23) rfl (by kernel_rfl) (by kernel_rfl) (by kernel_rfl) (fun _ _ _ h => h) (by kernel_rfl) ?by23 ?br23
          case by23 =>
            intro wt hO
            go_simp
            try with_reducible rfl
          try simp only [Act.put, List.setIfInBounds_toArray, List.set_cons_zero, List.set_cons_succ]
          refine wpGrow_take (i := 27) (oi := ⟨some 84, _, _, _, _, _⟩) (v := ?bv27) rfl (by kernel_rfl) (by kernel_rfl) (by kernel_rfl) (fun _ _ _ h => h) (by kernel_rfl) ?by27 ?br27
          case by27 =>
            intro wt hO
            go_simp
            try with_reducible rfl
          try simp only [Act.put, List.setIfInBounds_toArray, List.set_cons_zero, List.set_cons_succ]
          refine wpGrow_call (i := 1) (o := ⟨some 58, _, _, _, _, _⟩) rfl (by kernel_rfl) (by kernel_rfl) (fun K hK => ?_)
          go_simp
          refine (rhigh_any r 4 (by omega) (by omega) (by omega) wr.drew).mono ?_
          rintro ye v1 ⟨g1, c1, rfl, _, _, G1, T1⟩
          rw [high_length]
          have HG1 := Lib.hid G1.has
          have HT1 := Lib.hid (HT0.out.trans T1)
          refine hK.out _ _ T1 ?_
          clear hK G1 T1 HT0
          try simp only [Act.put, List.setIfInBounds_toArray, List.set_cons_zero, List.set_cons_succ]
          refine wpGrow_take (i := 2) (oi := ⟨some 59, _, _, _, _, _⟩) (v := ?bv2) rfl (by kernel_rfl) (by kernel_rfl) (by kernel_rfl) (fun _ _ _ h => h) (by kernel_rfl) ?by2 ?br2
          case by2 =>
            intro wt hO
            have hs : (convert 61 9 (.slice (some ⟨g1, 0, none⟩) 4 c1)).run Tryz.prog wt = .ok (.string sr) wt := (by rw [← Hsr.out]; exact str_any wt _ _ 4 c1 (HG1.out.old hO) (high_length r 4)); go_simp
            try with_reducible rfl
          try simp only [Act.put, List.setIfInBounds_toArray, List.set_cons_zero, List.set_cons_succ]
          refine wpGrow_call (i := 4) (o := ⟨some 61, _, _, _, _, _⟩) rfl (by kernel_rfl) (by kernel_rfl) (fun K hK => ?_)
          go_simp
          refine (rhigh_any n 4 (by omega) (by omega) (by omega) v1).mono ?_
          rintro ye v2 ⟨g2, c2, rfl, _, _, G2, T2⟩
          rw [high_length]
          have HG2 := Lib.hid G2.has
          have HT2 := Lib.hid (HT1.out.trans T2)
          refine hK.out _ _ T2 ?_
          clear hK G2 T2 HT1
          try simp only [Act.put, List.setIfInBounds_toArray, List.set_cons_zero, List.set_cons_succ]
          refine wpGrow_take (i := 5) (oi := ⟨some 62, _, _, _, _, _⟩) (v := ?bv5) rfl (by kernel_rfl) (by kernel_rfl) (by kernel_rfl) (fun _ _ _ h => h) (by kernel_rfl) ?by5 ?br5
          case by5 =>
            intro wt hO
            have hs : (convert 61 9 (.slice (some ⟨g2, 0, none⟩) 4 c2)).run Tryz.prog wt = .ok (.string sn) wt := (by rw [← Hsn.out]; exact str_any wt _ _ 4 c2 (HG2.out.old hO) (high_length n 4)); go_simp
            try with_reducible rfl
          try simp only [Act.put, List.setIfInBounds_toArray, List.set_cons_zero, List.set_cons_succ]
          refine wpGrow_take (i := 6) (oi := ⟨some 63, _, _, _, _, _⟩) (v := ?bv6) rfl (by kernel_rfl) (by kernel_rfl) (by kernel_rfl) (fun _ _ _ h => h) (by kernel_rfl) ?by6 ?br6
          case by6 =>
            intro wt hO
            go_simp
            try with_reducible rfl
          try simp only [Act.put, List.setIfInBounds_toArray, List.set_cons_zero, List.set_cons_succ]
          refine wpGrow_call (i := 8) (o := ⟨some 65, _, _, _, _, _⟩) rfl (by kernel_rfl) (by kernel_rfl) (fun K hK => ?_)
          go_simp
          refine (rhigh_any k 2 (by omega) (by omega) (by omega) v2).mono ?_
          rintro ye v3 ⟨g3, c3, rfl, _, _, G3, T3⟩
          rw [high_length]
          have HG3 := Lib.hid G3.has
          have HT3 := Lib.hid (HT2.out.trans T3)
          refine hK.out _ _ T3 ?_
          clear hK G3 T3 HT2
          try simp only [Act.put, List.setIfInBounds_toArray, List.set_cons_zero, List.set_cons_succ]
          refine wpGrow_take (i := 9) (oi := ⟨some 66, _, _, _, _, _⟩) (v := ?bv9) rfl (by kernel_rfl) (by kernel_rfl) (by kernel_rfl) (fun _ _ _ h => h) (by kernel_rfl) ?by9 ?br9
          case by9 =>
            intro wt hO
            have hs : (convert 61 9 (.slice (some ⟨g3, 0, none⟩) 2 c3)).run Tryz.prog wt = .ok (.string sk) wt := (by rw [← Hsk.out]; exact str_any wt _ _ 2 c3 (HG3.out.old hO) (high_length k 2)); go_simp
            try with_reducible rfl
          try simp only [Act.put, List.setIfInBounds_toArray, List.set_cons_zero, List.set_cons_succ]
          refine wpGrow_take (i := 10) (oi := ⟨some 67, _, _, _, _, _⟩) (v := ?bv10) rfl (by kernel_rfl) (by kernel_rfl) (by kernel_rfl) (fun _ _ _ h => h) (by kernel_rfl) ?by10 ?br10
          case by10 =>
            intro wt hO
            go_simp
            try with_reducible rfl
          try simp only [Act.put, List.setIfInBounds_toArray, List.set_cons_zero, List.set_cons_succ]
          refine wpGrow_call (i := 12) (o := ⟨some 69, _, _, _, _, _⟩) rfl (by kernel_rfl) (by kernel_rfl) (fun K hK => ?_)
          go_simp
          refine (rhigh_any L 2 (by omega) (by omega) (by omega) v3).mono ?_
          rintro ye v4 ⟨g4, c4, rfl, _, _, G4, T4⟩
          rw [high_length]
          have HG4 := Lib.hid G4.has
          have HT4 := Lib.hid (HT3.out.trans T4)
          refine hK.out _ _ T4 ?_
          clear hK G4 T4 HT3
          try simp only [Act.put, List.setIfInBounds_toArray, List.set_cons_zero, List.set_cons_succ]
          refine wpGrow_take (i := 13) (oi := ⟨some 70, _, _, _, _, _⟩) (v := ?bv13) rfl (by kernel_rfl) (by kernel_rfl) (by kernel_rfl) (fun _ _ _ h => h) (by kernel_rfl) ?by13 ?br13
          case by13 =>
            intro wt hO
            have hs : (convert 61 9 (.slice (some ⟨g4, 0, none⟩) 2 c4)).run Tryz.prog wt = .ok (.string sL) wt := (by rw [← HsL.out]; exact str_any wt _ _ 2 c4 (HG4.out.old hO) (high_length L 2)); go_simp
            try with_reducible rfl
          try simp only [Act.put, List.setIfInBounds_toArray, List.set_cons_zero, List.set_cons_succ]
          refine wpGrow_take (i := 14) (oi := ⟨some 71, _, _, _, _, _⟩) (v := ?bv14) rfl (by kernel_rfl) (by kernel_rfl) (by kernel_rfl) (fun _ _ _ h => h) (by kernel_rfl) ?by14 ?br14
          case by14 =>
            intro wt hO
            go_simp
            try with_reducible rfl
          try simp only [Act.put, List.setIfInBounds_toArray, List.set_cons_zero, List.set_cons_succ]
          refine wpGrow_take (i := 22) (oi := ⟨some 79, _, _, _, _, _⟩) (v := ?bv22) rfl (by kernel_rfl) (by kernel_rfl) (by kernel_rfl) (fun _ _ _ h => h) (by kernel_rfl) ?by22 ?br22
          case by22 =>
            intro wt hO
            go_simp
            try with_reducible rfl
          try simp only [Act.put, List.setIfInBounds_toArray, List.set_cons_zero, List.set_cons_succ]
          refine wpGrow_call (i := 24) (o := ⟨some 81, _, _, _, _, _⟩) rfl (by kernel_rfl) (by kernel_rfl) (fun K hK => ?_)
          go_simp
          refine (rhigh_any n 4 (by omega) (by omega) (by omega) v4).mono ?_
          rintro ye v5 ⟨g5, c5, rfl, _, _, G5, T5⟩
          rw [high_length]
          have HG5 := Lib.hid G5.has
          have HT5 := Lib.hid (HT4.out.trans T5)
          refine hK.out _ _ T5 ?_
          clear hK G5 T5 HT4
          try simp only [Act.put, List.setIfInBounds_toArray, List.set_cons_zero, List.set_cons_succ]
          refine wpGrow_take (i := 25) (oi := ⟨some 82, _, _, _, _, _⟩) (v := ?bv25) rfl (by kernel_rfl) (by kernel_rfl) (by kernel_rfl) (fun _ _ _ h => h) (by kernel_rfl) ?by25 ?br25
          case by25 =>
            intro wt hO
            have hs : (convert 61 9 (.slice (some ⟨g5, 0, none⟩) 4 c5)).run Tryz.prog wt = .ok (.string sn) wt := (by rw [← Hsn.out]; exact str_any wt _ _ 4 c5 (HG5.out.old hO) (high_length n 4)); go_simp
            try with_reducible rfl
          try simp only [Act.put, List.setIfInBounds_toArray, List.set_cons_zero, List.set_cons_succ]
          refine wpGrow_take (i := 26) (oi := ⟨some 83, _, _, _, _, _⟩) (v := ?bv26) rfl (by kernel_rfl) (by kernel_rfl) (by kernel_rfl) (fun _ _ _ h => h) (by kernel_rfl) ?by26 ?br26
          case by26 =>
            intro wt hO
            go_simp
            try with_reducible rfl
          try simp only [Act.put, List.setIfInBounds_toArray, List.set_cons_zero, List.set_cons_succ]
          refine wpGrow_call (i := 28) (o := ⟨some 85, _, _, _, _, _⟩) rfl (by kernel_rfl) (by kernel_rfl) (fun K hK => ?_)
          go_simp
          refine (rhigh_any r 4 (by omega) (by omega) (by omega) v5).mono ?_
          rintro ye v6 ⟨g6, c6, rfl, _, _, G6, T6⟩
          rw [high_length]
          have HG6 := Lib.hid G6.has
          have HT6 := Lib.hid (HT5.out.trans T6)
          refine hK.out _ _ T6 ?_
          clear hK G6 T6 HT5
          try simp only [Act.put, List.setIfInBounds_toArray, List.set_cons_zero, List.set_cons_succ]
          refine wpGrow_take (i := 29) (oi := ⟨some 86, _, _, _, _, _⟩) (v := ?bv29) rfl (by kernel_rfl) (by kernel_rfl) (by kernel_rfl) (fun _ _ _ h => h) (by kernel_rfl) ?by29 ?br29
          case by29 =>
            intro wt hO
            have hs : (convert 61 9 (.slice (some ⟨g6, 0, none⟩) 4 c6)).run Tryz.prog wt = .ok (.string sr) wt := (by rw [← Hsr.out]; exact str_any wt _ _ 4 c6 (HG6.out.old hO) (high_length r 4)); go_simp
            try with_reducible rfl
          try simp only [Act.put, List.setIfInBounds_toArray, List.set_cons_zero, List.set_cons_succ]
          refine wpGrow_take (i := 30) (oi := ⟨some 87, _, _, _, _, _⟩) (v := ?bv30) rfl (by kernel_rfl) (by kernel_rfl) (by kernel_rfl) (fun _ _ _ h => h) (by kernel_rfl) ?by30 ?br30
          case by30 =>
            intro wt hO
            go_simp
            try with_reducible rfl
          try simp only [Act.put, List.setIfInBounds_toArray, List.set_cons_zero, List.set_cons_succ]
          refine wpGrow_take (i := 31) (oi := ⟨some 12, _, _, _, _, _⟩) (v := ?bv31) rfl (by kernel_rfl) (by kernel_rfl) (by kernel_rfl) (fun _ _ _ h => h) (by kernel_rfl) ?by31 ?br31
          case by31 =>
            intro wt hO
            go_simp
            try with_reducible rfl
          try simp only [Act.put, List.setIfInBounds_toArray, List.set_cons_zero, List.set_cons_succ]
          refine wpGrow_done (by kernel_rfl) ?_ _
          rw [HTx.out]
          obtain ⟨cb, wb, hcv, hcb, hLo, hOb⟩ := bytes_of v6 (leafText r n k L pc) Hpb.out
          rw [Hpl.out] at hcv hcb
          have HLo := Lib.hid hLo
          have HOb := Lib.hid (HT6.out.trans hOb)
          clear hLo hOb HTx HT6 HG6 HG5 HG4 HG3 HG2 HG1
          generalize strOf (leafText r n k L pc) = q5 at *
          go_wp2_with fail
          refine (rclose_any _ (leafText r n k L pc) 84 cb wb HLo.out.has Hpl.out (by omega)).mono ?_
          rintro y w7 ⟨g7, c7, rfl, hc7, _, G7, T7⟩
          rw [← HLf.out] at G7
          have hs7 : (convert 61 9 (.slice (some ⟨g7, 0, none⟩) 96 c7)).run Tryz.prog w7 = .ok (.string (strOf (leaf r n e k))) w7 := str_any w7 _ _ 96 c7 G7.has (by rw [HLf.out]; exact track_length (by rw [Hpl.out]; omega))
          have O7 := HOb.out.trans T7
          have M7 := HR.out.mine.old O7
          obtain ⟨v8, w8, hap, M8, T8⟩ := M7.more (Nat.le_trans HR.out.old.size O7.size) (leaf r n e k) (by rw [List.length_take]; omega)
          have HN : Hid (RPost w w8 v8 r n e (k + 1)) := ⟨by rw [Hst.out]; exact M8, old_mine (HR.out.old.trans O7) (fun q hq => (M7.lt q hq).1) T8⟩
          clear O7 M7 M8 T8 G7 T7 HLo HOb HR hcv
          generalize strOf (leaf r n e k) = q6 at *
          go_wp2_with (first | (at_builtin; with_reducible refine wpList_append_run (o := ⟨some 98, _, _, _, _, _⟩) rfl (.tmp 94) (.tmp 97) 56 56 rfl _ _ rfl rfl _ _ (hap _) ?_))
          exact ⟨⟨k + 1, by omega, by go_num, HN⟩, by simp [intOf]; omega⟩
        · obtain rfl : k = L := by omega
          have HF : Hid (MineT wr w.heap.size u10 (posting r n e) ∧ Old w wr) := ⟨by have := HR.out.mine; rwa [List.take_of_length_le (by unfold posting; rw [List.length_map, List.length_range, HLe.out]; exact Nat.le_refl _)] at this, HR.out.old⟩
          have k3 : ¬ (k : Int) < (k : Int) := by omega
          go_wp2_with fail
          go_ret
          exact ⟨_, rfl, HF.out.1, HF.out.2⟩
end Go.Proofs.YtmingbgohdhajaaGreat
