/- The reference's Look. -/
import Derived.Test.YthbkhhcijekplaaRefSet
namespace Go.Proofs.Ythbkhhcijekplaa
open Go.RowKit

theorem rlain_form {w : World} {base n : Nat} {v : Value} {xs : List Value} (h : w.ownsRow base 50 2 v n xs) : ∃ a c, v = .slice a n c := by
  rcases h.2 with ⟨rfl, rfl⟩ | ⟨g, cap, cur, rfl, _⟩
  · exact ⟨none, 0, rfl⟩
  · exact ⟨_, _, rfl⟩
theorem rlain_cells {w : World} {base g c n : Nat} {A : List (Nat × List Nat)} (hn : A.length = n) (h : w.ownsRow base 50 2 (.slice (some ⟨g, 0, none⟩) n c) n (rlains A)) {i : Nat} {x : Nat × List Nat} (hi : A[i]? = some x) :
    w.cell? ⟨g, i * 2, none⟩ = some (.int .i64 (x.1 : Int)) ∧ w.cell? ⟨g, i * 2 + 1, none⟩ = some (.string (strOf x.2)) := by
  have hl := lt_of_get hi
  have h0 := h.cellAt (i * 2 + 0) (by omega)
  have h1 := h.cellAt (i * 2 + 1) (by omega)
  rw [rlains_get hi (by omega)] at h0 h1
  exact ⟨h0, h1⟩

theorem rlook_arg {w0 w : World} {r : Nat} {D : DS} (h : Rs w0 r D w) (k : Int) (hk : k < 0 ∨ (D.T.length : Int) ≤ k) :
    Calls Try.prog 27 #[.pointer (some ⟨r, 0, none⟩), .int .i64 k] w fun e w' => e = .returned (.tuple #[.slice none 0 0, .int .i64 1]) ∧ w = w' := by
  obtain ⟨vt, va, ha⟩ := h.ex
  obtain ⟨a, c, rfl⟩ := str_form ha.tr
  have hc0 : w.cell? ⟨r, 0, none⟩ = some (.slice a D.T.length c) := ha.head.cell 0
  clear h ha
  generalize D.T.length = n at *
  by_cases h0 : k < 0
  · clear hk
    go_enter Try.func27, Try.ntmps27
    go_wp2
    go_ret2
    exact ⟨rfl, rfl⟩
  · have h1 : (n : Int) ≤ k := by omega
    clear hk
    go_enter Try.func27, Try.ntmps27
    go_wp2
    go_ret2
    exact ⟨rfl, rfl⟩
theorem rlook_down {w0 w : World} {r : Nat} {D : DS} (h : Rs w0 r D w) (k : Nat) (hk : k < D.T.length) (hd : D.down = true) :
    Calls Try.prog 27 #[.pointer (some ⟨r, 0, none⟩), .int .i64 k] w fun e w' => e = .returned (.tuple #[.slice none 0 0, .int .i64 4]) ∧ w = w' := by
  obtain ⟨vt, va, ha⟩ := h.ex
  obtain ⟨a, c, rfl⟩ := str_form ha.tr
  have hc0 : w.cell? ⟨r, 0, none⟩ = some (.slice a D.T.length c) := ha.head.cell 0
  have hc3 : w.cell? ⟨r, 3, none⟩ = some (.bool true) := by rw [← hd]; exact ha.head.cell 3
  have h0 : ¬ (k : Int) < 0 := by omega
  have h1 : ¬ (D.T.length : Int) ≤ (k : Int) := by omega
  clear h ha hd hk
  generalize D.T.length = n at *
  go_enter Try.func27, Try.ntmps27
  go_wp2
  go_ret2
  exact ⟨rfl, rfl⟩

/-- What the reference's Look answers: bytes. -/
def RLooked (xs : List Nat) (w : World) (e : Ending) (w' : World) : Prop := ∃ a c, e = .returned (.tuple #[.slice a 96 c, .int .i64 0]) ∧ Has w' a xs ∧ Old w w'

theorem over_succ {T : List (List Nat)} {A : List (Nat × List Nat)} {i k : Nat} {x : Nat × List Nat} (hk : k < T.length) (h : A[i]? = some x) : (over T (A.take (i + 1))).getD k [] = if x.1 = k then x.2 else (over T (A.take i)).getD k [] := by
  rw [take_get h, over_snoc]
  by_cases e : x.1 = k
  · rw [if_pos e, e]
    exact getD_of (List.getElem?_set_self (by rw [over_length]; exact hk))
  · rw [if_neg e, List.getD_eq_getElem?_getD, List.getD_eq_getElem?_getD, List.getElem?_set_ne e]

set_option maxRecDepth 100000 in
set_option maxHeartbeats 1600000 in
theorem rlook_ok {w0 w : World} {r : Nat} {D : DS} (h : Rs w0 r D w) (ok : D.Ok) (ht : D.turns ≤ 100000) (k : Nat) (hk : k < D.T.length) (hd : D.down = false) :
    Calls Try.prog 27 #[.pointer (some ⟨r, 0, none⟩), .int .i64 k] w (RLooked (D.seen.getD k []) w) := by
  obtain ⟨vt, va, ha⟩ := h.ex
  obtain ⟨a, c, rfl⟩ := str_form ha.tr
  obtain ⟨g, rfl, _, _, _⟩ := row_ptr ha.tr (by have := ok.few; omega)
  obtain ⟨aa, ca, rfl⟩ := rlain_form ha.af
  have hc0 : w.cell? ⟨r, 0, none⟩ = some (.slice (some ⟨g, 0, none⟩) D.T.length c) := ha.head.cell 0
  have hc1 : w.cell? ⟨r, 1, none⟩ = some (.slice aa D.A.length ca) := ha.head.cell 1
  have hc3 : w.cell? ⟨r, 3, none⟩ = some (.bool false) := by rw [← hd]; exact ha.head.cell 3
  obtain ⟨o, ho⟩ := get_of_lt hk
  have hcg : w.cell? ⟨g, k, none⟩ = some (.string (strOf o)) := by rw [ha.tr.cellAt k (by omega), strs_get ho]
  have h0 : (0 : Int) ≤ (k : Int) := by omega
  have h1 : (k : Int) < (D.T.length : Int) := by omega
  have h2 : ¬ (k : Int) < 0 := by omega
  have h3 : ¬ (D.T.length : Int) ≤ (k : Int) := by omega
  have HOV : Hid (∀ (i : Nat) (x : Nat × List Nat), D.A[i]? = some x → (over D.T (D.A.take (i + 1))).getD k [] = if x.1 = k then x.2 else (over D.T (D.A.take i)).getD k []) := fun i x hx => over_succ hk hx
  have HA := Lib.hid ha
  have HOk := Lib.hid ok
  have hm : D.A.length ≤ 100000 := Nat.le_trans ok.long ht
  have HS0 : Hid ((over D.T (D.A.take 0)).getD k [] = o) := getD_of ho
  have HSn : Hid ((over D.T (D.A.take D.A.length)).getD k [] = D.seen.getD k []) := by show _ = _; rw [List.take_length]; rfl
  have Htr : Hid (Trk (D.seen.getD k [])) := by
    obtain ⟨o2, ho2⟩ := get_of_lt (l := D.seen) (n := k) (by rw [DS.seen_length]; exact hk)
    show Trk _
    rw [getD_of ho2]
    exact DS.seen_trk ok _ (mem_of_get ho2)
  clear h ha ok ho hd ht hk
  generalize hM : D.A.length = m at *
  have HM := Lib.hid hM
  clear hM
  generalize D.T.length = n at *
  have hcg' : w.cell? ⟨g, k, none⟩ = some (.string (strOf ((over D.T (D.A.take 0)).getD k []))) := by rw [HS0.out]; exact hcg
  clear hcg HS0
  go_enter Try.func27, Try.ntmps27
  go_wp2_with fail
  clear hcg'
  go_loopw [6, 7] (fun v i wx => ∃ t : Nat, t ≤ m ∧ i = .int .i64 t ∧ v = .string (strOf ((over D.T (D.A.take t)).getD k [])) ∧ wx = w) (fun _ i _ => m - (intOf i).toNat)
  case atStart => exact ⟨0, by omega, rfl, rfl, rfl⟩
  case round =>
    obtain ⟨t, hle, rfl, rfl, rfl⟩ := hrel
    by_cases hlt : t < m
    · obtain ⟨x, hx⟩ := get_of_lt (l := D.A) (n := t) (by rw [HM.out]; exact hlt)
      have haf := HA.out.af
      rw [HM.out] at haf
      obtain ⟨ga, rfl, _, _, _⟩ := row_ptr haf (by omega)
      obtain ⟨hx0, hx1⟩ := rlain_cells HM.out haf hx
      have HN := Lib.hid (HOV.out t x hx)
      have ht0 : (0 : Int) ≤ (t : Int) := by omega
      have ht1 : (t : Int) < (m : Int) := by omega
      clear haf hx
      by_cases hxk : x.1 = k
      · have hxk1 : (x.1 : Int) = (k : Int) := by omega
        rw [hxk1] at hx0
        rw [if_pos hxk] at HN
        clear hxk hxk1
        go_wp2_with fail
        exact ⟨⟨t + 1, by omega, by go_num, by rw [HN.out], trivial⟩, by simp [intOf]; omega⟩
      · have hxk1 : ((x.1 : Int) == (k : Int)) = false := by simp; omega
        have hxk2 : ¬ (x.1 : Int) = (k : Int) := by omega
        rw [if_neg hxk] at HN
        generalize x.1 = q at *
        go_wp2_with fail
        exact ⟨⟨t + 1, by omega, by go_num, by rw [HN.out], trivial⟩, by simp [intOf]; omega⟩
    · obtain rfl : t = m := by omega
      rw [HSn.out]
      obtain ⟨cb, wb, hcv, hHas, hOld⟩ := bytes_of wr (D.seen.getD k []) Htr.out.byte
      rw [Htr.out.len] at hcv
      have HH := Lib.hid hHas
      have HOl := Lib.hid hOld
      clear hHas hOld
      generalize strOf (D.seen.getD k []) = s at *
      go_wp2_with fail
      go_ret2
      exact ⟨_, _, rfl, HH.out, HOl.out⟩
end Go.Proofs.Ythbkhhcijekplaa
