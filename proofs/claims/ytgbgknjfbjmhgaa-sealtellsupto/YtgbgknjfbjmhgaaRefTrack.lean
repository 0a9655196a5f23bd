/- The contracts of lariatref3.Close and lariatref3.Open, and of the two pairs in one form. -/
import Derived.Test.YtgbgknjfbjmhgaaRefSums
import Derived.Test.YtgbgknjfbjmhgaaEq
namespace Go.Proofs.Ytgbgknjfbjmhgaa
open Go.RowKit

theorem refclose_long (a : Option Addr) (len cap : Nat) (w : World) (h : 84 < len) :
    Calls Try.prog 13 #[.slice a len cap] w fun e w' => e = .returned (.tuple #[.slice none 0 0, .bool false]) ∧ w = w' := by
  go_enter Try.func13, Try.ntmps13
  go_wp2
  go_ret2
  exact ⟨rfl, rfl⟩

set_option maxRecDepth 100000 in
set_option maxHeartbeats 1600000 in
theorem refclose_any (a : Option Addr) (xs : List Nat) (len cap : Nat) (w : World) (h : Has w a xs) (hlen : xs.length = len) (hl : len ≤ 84) :
    Calls Try.prog 13 #[.slice a len cap] w fun e w' => ∃ g c, e = .returned (.tuple #[.slice (some ⟨g, 0, none⟩) 96 c, .bool true]) ∧ 96 ≤ c ∧ w.heap.size ≤ g ∧ Own w' g (track xs) ∧ Old w w' := by
  obtain ⟨z, hz⟩ : ∃ z : Nat, 84 - len = z := ⟨_, rfl⟩
  obtain ⟨g1, c1, w1, h1, hg1, G1, T1⟩ := append_new w _ xs len cap h hlen (by omega)
  have Tz : Old w1 (w1.alloc (.cells (cells (zeros z)).toArray 5)) := (Touch.refl _ w1).alloc _
  obtain ⟨g2, c2, w2, h2, hg2, G2, T2⟩ := append_onto _ g1 c1 len xs (zeros z) _ z z (G1.old Tz) (Own.new w1 (zeros z) (zeros_byte z)).has hlen (zeros_length z) (by omega)
  have T2' : Hid (Old w w2) := (T1.trans Tz).own T2 hg1
  have hg2' : w.heap.size ≤ g2 := by have := T1.size; have := Tz.size; rcases hg2 with h | h <;> omega
  have hnz : len + z = 84 := by omega
  rw [hnz] at h2
  have hB : xs ++ zeros z = body xs := by unfold body; rw [hlen, hz]
  rw [hB] at G2
  have HG2 := Lib.hid G2
  have HBl := Lib.hid (body_length (xs := xs) (by omega))
  have hb1 := sum1_lt (body xs)
  have hb2 := sum2_lt (body xs)
  have hc2 : 84 ≤ c2 := by obtain ⟨rest, _, hl⟩ := G2.row; rw [HBl.out] at hl; omega
  have hmx : max 0 (84 - (len : Int)) = (z : Int) := by omega
  unfold track
  clear h G1 T1 Tz G2 T2 hg1 hg2 hB
  generalize body xs = B at *
  generalize hS1 : sum1 B = S1 at *
  generalize hS2 : sum2 B = S2 at *
  have HS1 := Lib.hid hS1
  have HS2 := Lib.hid hS2
  clear hS1 hS2
  go_enter Try.func13, Try.ntmps13
  go_wp2_with (first | (at_builtin; with_reducible refine wpList_append_run (o := ⟨some 12, _, _, _, _, _⟩) rfl (.tmp 10) (.tmp 11) 25 25 rfl _ _ rfl rfl _ _ (h1 _) ?_))
  refine (zeros_any _ z hmx (by omega) w1).mono ?_
  rintro e w' ⟨rfl, rfl⟩
  go_wp2_with (first | (at_builtin; with_reducible refine wpList_append_run (o := ⟨some 17, _, _, _, _, _⟩) rfl (.tmp 12) (.tmp 16) 25 25 rfl _ _ rfl rfl _ _ (h2 _) ?_))
  clear h1 h2
  refine (refsums_any _ B 84 c2 w2 HG2.out.own.has HBl.out hc2 (by omega)).mono ?_
  rintro e w3 ⟨rfl, T3'⟩
  have HG3 := Lib.hid (HG2.out.old T3')
  have T3 := Lib.hid (T2'.out.trans T3')
  clear HG2 T2' T3'
  rw [HS1.out, HS2.out]
  clear HS1 HS2
  go_wp2_with fail
  refine (high_any S1 hb1 w3).mono ?_
  rintro e w4 ⟨g4, c4, rfl, hg4, G4, T4'⟩
  obtain ⟨g5, c5, w5, h5, hg5, G5, T5'⟩ := append_onto w4 g2 c2 84 B (digits S1) _ 6 c4 (HG3.out.old T4') G4.own.has HBl.out rfl (by omega)
  have T5 : Hid (Old w w5) := (T3.out.trans T4').own T5' hg2'
  have hg5' : w.heap.size ≤ g5 := by have := (T3.out.trans T4').size; rcases hg5 with h | h <;> omega
  have HG5 := Lib.hid G5
  clear G4 T4' G5 T5' HG3 T3 hg5 hg4
  go_wp2_with (first | (at_builtin; with_reducible refine wpList_append_run (o := ⟨some 26, _, _, _, _, _⟩) rfl (.tmp 23) (.tmp 25) 25 25 rfl _ _ rfl rfl _ _ (h5 _) ?_))
  refine (high_any S2 hb2 w5).mono ?_
  rintro e w6 ⟨g6, c6, rfl, hg6, G6, T6'⟩
  obtain ⟨g7, c7, w7, h7, hg7, G7, T7'⟩ := append_onto w6 g5 c5 90 (B ++ digits S1) (digits S2) _ 6 c6 (HG5.out.old T6') G6.own.has (by rw [List.length_append, HBl.out]; rfl) rfl (by omega)
  have T7 : Hid (Old w w7) := (T5.out.trans T6').own T7' hg5'
  have hg7' : w.heap.size ≤ g7 := by have := (T5.out.trans T6').size; rcases hg7 with h | h <;> omega
  have hc7 : 96 ≤ c7 := by
    obtain ⟨rest, _, hl⟩ := G7.row
    rw [List.length_append, List.length_append, HBl.out, show (digits S1).length = 6 from rfl, show (digits S2).length = 6 from rfl] at hl
    omega
  have HO7 : Hid (Own w7 g7 (B ++ (digits S1 ++ digits S2))) := by have := G7.own; rwa [List.append_assoc] at this
  clear G6 T6' G7 T7' HG5 T5 hg7 hg6 h5
  go_wp2_with (first | (at_builtin; with_reducible refine wpList_append_run (o := ⟨some 29, _, _, _, _, _⟩) rfl (.tmp 26) (.tmp 28) 25 25 rfl _ _ rfl rfl _ _ (h7 _) ?_))
  go_ret2
  exact ⟨g7, c7, rfl, hc7, hg7', HO7.out, T7.out⟩

/-- A track whose sums are right is what its first bytes come to. -/
theorem digits_num {ys : List Nat} (hb : ∀ x ∈ ys, x < 256) (hl : ys.length = 6) : digits (num ys 6) = ys := by
  match ys, hl, hb with
  | [a, b, c, d, e, f], _, hb =>
    have ha : a < 256 := hb a (by simp)
    have hb' : b < 256 := hb b (by simp)
    have hc : c < 256 := hb c (by simp)
    have hd : d < 256 := hb d (by simp)
    have he : e < 256 := hb e (by simp)
    have hf : f < 256 := hb f (by simp)
    simp only [num, digits, at0, List.getD_cons_zero, List.getD_cons_succ]
    congr 1
    · omega
    congr 1
    · omega
    congr 1
    · omega
    congr 1
    · omega
    congr 1
    · omega
    congr 1
    omega
theorem track_of_right {xs : List Nat} (hb : ∀ x ∈ xs, x < 256) (hl : xs.length = 96) : track (xs.take 84) = xs ↔ right xs := by
  have hl84 : (xs.take 84).length = 84 := by rw [List.length_take]; omega
  have hbody : body (xs.take 84) = xs.take 84 := by unfold body; rw [hl84]; simp [zeros]
  constructor
  · intro h
    have := right_track (xs := xs.take 84) (by omega)
    rwa [h] at this
  · intro h
    unfold track
    rw [hbody, ← h.1, ← h.2]
    unfold six
    rw [digits_num (fun x hx => hb x (List.mem_of_mem_drop (List.mem_of_mem_take hx))) (by rw [List.length_take, List.length_drop]; omega), digits_num (fun x hx => hb x (List.mem_of_mem_drop (List.mem_of_mem_take hx))) (by rw [List.length_take, List.length_drop]; omega)]
    have e1 : (xs.drop 90).take 6 = (xs.drop 84).drop 6 := by rw [List.drop_drop, List.take_of_length_le (by rw [List.length_drop]; omega)]
    rw [e1, List.take_append_drop, List.take_append_drop]

theorem refopen_other (a : Option Addr) (len cap : Nat) (w : World) (h : len ≠ 96) :
    Calls Try.prog 16 #[.slice a len cap] w fun e w' => e = .returned (.tuple #[.slice none 0 0, .bool false]) ∧ w = w' := by
  have hn : ¬ (len : Int) = 96 := by omega
  go_enter Try.func16, Try.ntmps16
  go_wp2
  go_ret2
  exact ⟨rfl, rfl⟩

/-- An answer of bytes and a flag. -/
def Gave (w : World) (o : Bool) (ys : List Nat) (e : Ending) (w' : World) : Prop := ∃ a' n c, e = .returned (.tuple #[.slice a' n c, .bool o]) ∧ Has w' a' ys ∧ ys.length = n ∧ Old w w'

/-- What an Open answers: the bytes, and whether. -/
def opens (xs : List Nat) : Bool := decide (xs.length = 96 ∧ track (xs.take 84) = xs)
def opened (xs : List Nat) : List Nat := if opens xs then xs.take 84 else []

theorem refopen_all (a : Option Addr) (xs : List Nat) (len cap : Nat) (w : World) (h : Has w a xs) (hlen : xs.length = len) (hcap : len ≤ cap) :
    Calls Try.prog 16 #[.slice a len cap] w fun e w' => Gave w (opens xs) (opened xs) e w' := by
  by_cases h96 : len = 96
  · subst h96
    have hbt : ∀ x ∈ xs.take 84, x < 256 := fun x hx => h.byte x (List.mem_of_mem_take hx)
    have hl84 : (xs.take 84).length = 84 := by rw [List.length_take]; omega
    obtain ⟨o, ho⟩ : ∃ o, opens xs = o := ⟨_, rfl⟩
    have ho2 : ((strOf (track (xs.take 84))).toList == (strOf xs).toList) = o := by
      rw [str_beq (track_byte hbt) h.byte, ← ho]
      unfold opens
      simp [hlen]
    have hd : opened xs = if o then xs.take 84 else [] := by unfold opened; rw [ho]
    rw [ho]
    generalize opened xs = D at *
    have HH := Lib.hid h
    have HL := Lib.hid hlen
    have HT := Lib.hid (track_take (xs := xs.take 84) (by omega))
    have HTl := Lib.hid (track_length (xs := xs.take 84) (by omega))
    have HB : Hid (body (xs.take 84) = xs.take 84) := by show body _ = _; unfold body; rw [hl84]; simp [zeros]
    have Hl84 := Lib.hid hl84
    clear h hbt hl84 ho hlen
    cases o with
    | true =>
      obtain rfl : D = xs.take 84 := hd
      go_enter Try.func16, Try.ntmps16
      go_wp2_with fail
      refine (refclose_any _ (xs.take 84) 84 cap w (HH.out.take 84) Hl84.out (by omega)).mono ?_
      rintro e w1 ⟨g, c, rfl, hc, hg, O, T⟩
      have hs1 := str_any w1 _ _ 96 c O.has HTl.out
      have hs2 := str_any w1 _ _ 96 cap (HH.out.old T) HL.out
      have HO : Hid (Has w1 (some ⟨g, 0, none⟩) (xs.take 84)) := by
        have := O.has.take 84
        rwa [HT.out, HB.out] at this
      have HOld := Lib.hid T
      clear O T
      go_wp2_with fail
      go_ret2
      exact ⟨_, _, _, rfl, HO.out, Hl84.out, HOld.out⟩
    | false =>
      obtain rfl : D = [] := hd
      go_enter Try.func16, Try.ntmps16
      go_wp2_with fail
      refine (refclose_any _ (xs.take 84) 84 cap w (HH.out.take 84) Hl84.out (by omega)).mono ?_
      rintro e w1 ⟨g, c, rfl, hc, hg, O, T⟩
      have hs1 := str_any w1 _ _ 96 c O.has HTl.out
      have hs2 := str_any w1 _ _ 96 cap (HH.out.old T) HL.out
      have HOld := Lib.hid T
      clear O T
      go_wp2_with fail
      go_ret2
      exact ⟨none, 0, 0, rfl, Has.nil _ _, rfl, HOld.out⟩
  · have ho : opens xs = false := by unfold opens; rw [hlen]; simp [h96]
    have hd : opened xs = [] := by unfold opened; rw [ho]; rfl
    refine (refopen_other a len cap w h96).mono ?_
    rintro e w' ⟨rfl, rfl⟩
    exact ⟨none, 0, 0, by rw [ho], by rw [hd]; exact Has.nil _ _, by rw [hd]; rfl, Touch.refl _ _⟩

theorem open_all (a : Option Addr) (xs : List Nat) (len cap : Nat) (w : World) (h : Has w a xs) (hlen : xs.length = len) (hcap : len ≤ cap) :
    Calls Try.prog 11 #[.slice a len cap] w fun e w' => Gave w (opens xs) (opened xs) e w' := by
  by_cases h96 : len = 96
  · subst h96
    by_cases hr : right xs
    · have ho : opens xs = true := by unfold opens; rw [hlen]; simp [(track_of_right h.byte hlen).2 hr]
      have hd : opened xs = xs.take 84 := by unfold opened; rw [ho]; rfl
      refine (open_right a xs cap w h hlen hcap hr).mono ?_
      rintro e w' ⟨rfl, O, T⟩
      exact ⟨_, _, _, by rw [ho], by rw [hd]; exact O.has, by rw [hd, List.length_take, hlen]; rfl, T⟩
    · have ho : opens xs = false := by
        unfold opens
        have : ¬ track (xs.take 84) = xs := fun e => hr ((track_of_right h.byte hlen).1 e)
        simp [this]
      have hd : opened xs = [] := by unfold opened; rw [ho]; rfl
      refine (open_wrong a xs cap w h hlen hcap hr).mono ?_
      rintro e w' ⟨rfl, rfl⟩
      exact ⟨none, 0, 0, by rw [ho], by rw [hd]; exact Has.nil _ _, by rw [hd]; rfl, Touch.refl _ _⟩
  · have ho : opens xs = false := by unfold opens; rw [hlen]; simp [h96]
    have hd : opened xs = [] := by unfold opened; rw [ho]; rfl
    refine (open_other a len cap w h96).mono ?_
    rintro e w' ⟨rfl, rfl⟩
    exact ⟨none, 0, 0, by rw [ho], by rw [hd]; exact Has.nil _ _, by rw [hd]; rfl, Touch.refl _ _⟩

/-- What a Close answers. -/
def closes (xs : List Nat) : Bool := decide (xs.length ≤ 84)
def closed (xs : List Nat) : List Nat := if closes xs then track xs else []

theorem close_all (a : Option Addr) (xs : List Nat) (len cap : Nat) (w : World) (h : Has w a xs) (hlen : xs.length = len) :
    Calls Try.prog 10 #[.slice a len cap] w fun e w' => Gave w (closes xs) (closed xs) e w' := by
  by_cases hl : len ≤ 84
  · have ho : closes xs = true := by unfold closes; rw [hlen]; simp [hl]
    have hd : closed xs = track xs := by unfold closed; rw [ho]; rfl
    refine (close_any a xs len cap w h hlen hl).mono ?_
    rintro e w' ⟨rfl, O, T⟩
    exact ⟨_, _, _, by rw [ho], by rw [hd]; exact O.has, by rw [hd, track_length (by omega)], T⟩
  · have ho : closes xs = false := by unfold closes; rw [hlen]; simp [hl]
    have hd : closed xs = [] := by unfold closed; rw [ho]; rfl
    refine (close_long a len cap w (by omega)).mono ?_
    rintro e w' ⟨rfl, rfl⟩
    exact ⟨none, 0, 0, by rw [ho], by rw [hd]; exact Has.nil _ _, by rw [hd]; rfl, Touch.refl _ _⟩
theorem refclose_all (a : Option Addr) (xs : List Nat) (len cap : Nat) (w : World) (h : Has w a xs) (hlen : xs.length = len) :
    Calls Try.prog 13 #[.slice a len cap] w fun e w' => Gave w (closes xs) (closed xs) e w' := by
  by_cases hl : len ≤ 84
  · have ho : closes xs = true := by unfold closes; rw [hlen]; simp [hl]
    have hd : closed xs = track xs := by unfold closed; rw [ho]; rfl
    refine (refclose_any a xs len cap w h hlen hl).mono ?_
    rintro e w' ⟨g, c, rfl, hc, hg, O, T⟩
    exact ⟨_, _, _, by rw [ho], by rw [hd]; exact O.has, by rw [hd, track_length (by omega)], T⟩
  · have ho : closes xs = false := by unfold closes; rw [hlen]; simp [hl]
    have hd : closed xs = [] := by unfold closed; rw [ho]; rfl
    refine (refclose_long a len cap w (by omega)).mono ?_
    rintro e w' ⟨rfl, rfl⟩
    exact ⟨none, 0, 0, by rw [ho], by rw [hd]; exact Has.nil _ _, by rw [hd]; rfl, Touch.refl _ _⟩
end Go.Proofs.Ytgbgknjfbjmhgaa
