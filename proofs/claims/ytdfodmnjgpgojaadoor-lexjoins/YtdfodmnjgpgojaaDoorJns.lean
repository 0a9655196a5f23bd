/- Tokens with a blank between them are those tokens; brackets and letters stand alone: the plain part. -/
import Derived.Test.YtdfodmnjgpgojaaDoorStn
import Derived.Lib.Strings
namespace Go.Proofs.YtdfodmnjgpgojaaDoor
open Go.PlainAid Go.RowKit
set_option maxRecDepth 100000

theorem bt_list (s : ByteArray) (k : Nat) : bt s k = if k < s.data.toList.length then ((s.data.toList.getD k 0).toNat : Int) else 0 := by
  unfold bt
  by_cases h : k < s.size
  · have h' : k < s.data.toList.length := by simpa using h
    rw [dif_pos h, if_pos h', List.getD_eq_getElem?_getD, List.getElem?_eq_getElem h']
    rfl
  · have h' : ¬ k < s.data.toList.length := by simpa using h
    rw [dif_neg h, if_neg h']
theorem app_list (s t : ByteArray) : (s ++ t).data.toList = s.data.toList ++ t.data.toList := by rw [ByteArray.data_append, Array.toList_append]
theorem size_list (s : ByteArray) : s.data.toList.length = s.size := by simp
theorem ba_ext {s t : ByteArray} (h : s.data.toList = t.data.toList) : s = t := ByteArray.ext (Array.ext' h)
theorem bt_left (s t : ByteArray) {k : Nat} (h : k < s.size) : bt (s ++ t) k = bt s k := by
  have h' : k < s.data.toList.length := by rw [size_list]; exact h
  rw [bt_list, bt_list, app_list, if_pos (by rw [List.length_append]; omega), if_pos h', List.getD_eq_getElem?_getD, List.getD_eq_getElem?_getD, List.getElem?_append_left h']
theorem bt_right (s t : ByteArray) (k : Nat) : bt (s ++ t) (s.size + k) = bt t k := by
  rw [bt_list, bt_list, app_list, List.length_append, size_list]
  by_cases h : k < t.data.toList.length
  · rw [if_pos (by omega), if_pos h, List.getD_eq_getElem?_getD, List.getD_eq_getElem?_getD, List.getElem?_append_right (by rw [size_list]; omega), size_list, Nat.add_sub_cancel_left]
  · rw [if_neg (by omega), if_neg h]
theorem ext_list (s : ByteArray) (a b : Nat) : (s.extract a b).data.toList = (s.data.toList.drop a).take (b - a) := by
  rw [← Lib.toList_data, Lib.extract_toList]
theorem ext_right (s t : ByteArray) : (s ++ t).extract s.size (s ++ t).size = t := by
  apply ba_ext
  rw [ext_list, app_list, ← size_list s, List.drop_left, ByteArray.size_append, ← size_list s, Nat.add_sub_cancel_left, ← size_list t, List.take_length]
theorem ext_mid (s t u : ByteArray) : (s ++ (t ++ u)).extract s.size (s.size + t.size) = t := by
  apply ba_ext
  rw [ext_list, app_list, app_list, ← size_list s, List.drop_left, Nat.add_sub_cancel_left, ← size_list t, List.take_left]
theorem app_assoc (s t u : ByteArray) : s ++ t ++ u = s ++ (t ++ u) := by
  apply ba_ext
  rw [app_list, app_list, app_list, app_list, List.append_assoc]

def spB : ByteArray := ⟨#[32]⟩
/-- Whatever follows (as P asks), S has the tokens W. -/
def AheadP (P : ByteArray → Prop) (S : ByteArray) (W : List ByteArray) : Prop := ∀ T : ByteArray, P T → ∃ toks : List Tok, toks.map Tok.text = W ∧ rest (S ++ T) 0 = (toks ++ (rest (S ++ T) S.size).1, (rest (S ++ T) S.size).2)
abbrev Ahead (S : ByteArray) (W : List ByteArray) : Prop := AheadP (fun _ => True) S W
def Spaced (T : ByteArray) : Prop := ∃ U, T = spB ++ U
theorem ahead_none : Ahead ⟨#[]⟩ [] := fun T _ => by
  refine ⟨[], rfl, ?_⟩
  rfl
theorem Ahead.weak {S : ByteArray} {W : List ByteArray} (h : Ahead S W) (P : ByteArray → Prop) : AheadP P S W := fun T _ => h T trivial
theorem AheadP.space {S : ByteArray} {W : List ByteArray} (h : AheadP Spaced S W) : Ahead (S ++ spB) W := fun T _ => by
  obtain ⟨toks, h1, h2⟩ := h (spB ++ T) ⟨T, rfl⟩
  have hs : (S ++ spB).size = S.size + 1 := by rw [ByteArray.size_append]; rfl
  have hb : bt (S ++ (spB ++ T)) S.size = 32 := by
    have := bt_right S (spB ++ T) 0
    rw [Nat.add_zero] at this
    rw [this, bt_left spB T (by decide)]
    decide
  refine ⟨toks, h1, ?_⟩
  rw [app_assoc, hs, h2, rest_blank (by rw [ByteArray.size_append, ByteArray.size_append]; have : spB.size = 1 := rfl; omega) (by rw [hb]; decide)]
theorem Ahead.tok {S w : ByteArray} {W : List ByteArray} {k : Nat} {P : ByteArray → Prop} (h : Ahead S W) (hw : 0 < w.size) (hb : blankB (bt w 0) = false) (hf : ∀ T, P T → firstB (w ++ T) = (k + 1, w.size)) : AheadP P (S ++ w) (W ++ [w]) := fun T hT => by
  obtain ⟨toks, h1, h2⟩ := h (w ++ T) trivial
  have e0 : bt (S ++ (w ++ T)) S.size = bt w 0 := by
    have := bt_right S (w ++ T) 0
    rw [Nat.add_zero] at this
    rw [this, bt_left w T hw]
  have hr := rest_tok (s := S ++ (w ++ T)) (a := S.size) (k := k) (n := w.size) (by rw [ByteArray.size_append, ByteArray.size_append]; omega) (by rw [e0]; exact hb) (by rw [ext_right]; exact hf T hT)
  refine ⟨toks ++ [tokAt (S ++ (w ++ T)) (k + 1) w.size S.size], ?_, ?_⟩
  · rw [List.map_append, h1]
    show W ++ [(S ++ (w ++ T)).extract S.size (S.size + w.size)] = _
    rw [ext_mid]
  · rw [app_assoc, ByteArray.size_append, h2, hr, List.append_assoc]
    rfl
theorem signB_space (c : Int) : signB c 32 = signB c 0 := by
  have n1 : ¬ ((c = 60 ∧ (32 : Int) = 61) ∨ (c = 62 ∧ (32 : Int) = 61) ∨ (c = 61 ∧ (32 : Int) = 61) ∨ (c = 33 ∧ (32 : Int) = 61) ∨ (c = 38 ∧ (32 : Int) = 38) ∨ (c = 124 ∧ (32 : Int) = 124) ∨ (c = 45 ∧ (32 : Int) = 62)) := by omega
  have n2 : ¬ ((c = 60 ∧ (0 : Int) = 61) ∨ (c = 62 ∧ (0 : Int) = 61) ∨ (c = 61 ∧ (0 : Int) = 61) ∨ (c = 33 ∧ (0 : Int) = 61) ∨ (c = 38 ∧ (0 : Int) = 38) ∨ (c = 124 ∧ (0 : Int) = 124) ∨ (c = 45 ∧ (0 : Int) = 62)) := by omega
  unfold signB
  rw [if_neg n1, if_neg n2]
/-- A token with a blank behind it. -/
theorem firstB_space {w T : ByteArray} {k : Nat} (h0 : 0 < w.size) (h : firstB w = (k + 1, w.size)) (hT : Spaced T) : firstB (w ++ T) = (k + 1, w.size) := by
  obtain ⟨U, rfl⟩ := hT
  obtain ⟨n, hn⟩ : ∃ n, w.size = n := ⟨_, rfl⟩
  have hbl : ∀ j, j < n → bt (w ++ (spB ++ U)) j = bt w j := fun j hj => bt_left w _ (by omega)
  have hbn : bt (w ++ (spB ++ U)) n = 32 := by
    have := bt_right w (spB ++ U) 0
    rw [Nat.add_zero, hn] at this
    rw [this, bt_left spB U (by decide)]
    decide
  have hsz : (w ++ (spB ++ U)).size = n + 1 + U.size := by
    rw [ByteArray.size_append, ByteArray.size_append, hn]
    have : spB.size = 1 := rfl
    omega
  rw [hn] at h h0 ⊢
  have e0 := hbl 0 h0
  have run : ∀ p : Int → Bool, p 32 = false → runN p w = n → runN p (w ++ (spB ++ U)) = n := fun p hp e => by
    have hr := runN_is p w
    rw [e] at hr
    exact runN_eq ⟨by omega, fun j hj => by rw [hbl j hj]; exact hr.all j hj, fun _ => by rw [hbn]; exact hp⟩
  unfold firstB at h ⊢
  rw [e0]
  split at h
  · rename_i q
    rw [if_pos q]
    split at h
    · cases h
    · rename_i q2
      injection h with ek en
      rw [run _ (by decide) en, if_neg (by omega)]
      exact Prod.ext ek rfl
  · rename_i q
    rw [if_neg q]
    split at h
    · rename_i q1
      rw [if_pos q1]
      split at h
      · cases h
      · rename_i q2
        injection h with ek en
        rw [run _ (by decide) en, if_neg (by omega)]
        exact Prod.ext ek rfl
    · rename_i q1
      rw [if_neg q1]
      split at h
      · rename_i q2
        rw [if_pos q2]
        exact h
      · rename_i q2
        rw [if_neg q2]
        split at h
        · rename_i q3
          injection h with ek en
          have hle := signB_le (bt w 0) (bt w 1)
          rcases (by omega : n = 1 ∨ n = 2) with rfl | rfl
          · rw [bt_end w (k := 1) (by omega)] at en
            rw [hbn, signB_space, en, if_pos (by decide)]
            exact Prod.ext ek rfl
          · rw [hbl 1 (by decide), en, if_pos (by decide)]
            exact Prod.ext ek rfl
        · cases h

def wordTab : List ByteArray := [⟨#[40]⟩, ⟨#[41]⟩, ⟨#[91]⟩, ⟨#[93]⟩, ⟨#[43]⟩, ⟨#[45]⟩, ⟨#[42]⟩, ⟨#[60]⟩, ⟨#[60, 61]⟩, ⟨#[62]⟩, ⟨#[62, 61]⟩, ⟨#[61, 61]⟩, ⟨#[33, 61]⟩, ⟨#[38, 38]⟩, ⟨#[124, 124]⟩, ⟨#[33]⟩, ⟨#[64]⟩, ⟨#[45, 62]⟩, ⟨#[59]⟩, ⟨#[61]⟩, ⟨#[88]⟩, ⟨#[85]⟩, ⟨#[120]⟩, ⟨#[97, 98, 95, 49]⟩, ⟨#[55]⟩, ⟨#[49, 50, 51]⟩]
theorem word_size : ∀ k, k < 26 → 0 < (wordTab.getD k ByteArray.empty).size ∧ (wordTab.getD k ByteArray.empty).size ≤ 4 := by decide +kernel
theorem word_blank : ∀ k, k < 26 → blankB (bt (wordTab.getD k ByteArray.empty) 0) = false := by decide +kernel
theorem word_first : ∀ k, k < 26 → (firstB (wordTab.getD k ByteArray.empty)).1 ≠ 0 ∧ (firstB (wordTab.getD k ByteArray.empty)).2 = (wordTab.getD k ByteArray.empty).size := by decide +kernel
theorem word_space {k : Nat} (hk : k < 26) : ∃ j, ∀ T, Spaced T → firstB (wordTab.getD k ByteArray.empty ++ T) = (j + 1, (wordTab.getD k ByteArray.empty).size) := by
  obtain ⟨h1, h2⟩ := word_first k hk
  refine ⟨(firstB (wordTab.getD k ByteArray.empty)).1 - 1, fun T hT => firstB_space (word_size k hk).1 ?_ hT⟩
  exact Prod.ext (by show _ = _ - 1 + 1; omega) h2
theorem word_alone {k : Nat} (hk : k < 4 ∨ k = 20 ∨ k = 21) : ∃ j, ∀ T, True → firstB (wordTab.getD k ByteArray.empty ++ T) = (j + 1, (wordTab.getD k ByteArray.empty).size) := by
  have key : ∀ (c : UInt8) (j : Nat), digitB (c.toNat : Int) = false → lowerB (c.toNat : Int) = false → (letterB (c.toNat : Int) = true ∧ j = 2 ∨ letterB (c.toNat : Int) = false ∧ j = 3 ∧ ∀ d, signB (c.toNat : Int) d = 1) → ∀ T, firstB ((⟨#[c]⟩ : ByteArray) ++ T) = (j + 1, 1) := fun c j h1 h2 h3 T => by
    have e0 : bt ((⟨#[c]⟩ : ByteArray) ++ T) 0 = (c.toNat : Int) := by
      rw [bt_left _ T (show 0 < 1 by decide), bt_list]
      rfl
    unfold firstB
    rw [e0, h1, h2]
    rcases h3 with ⟨a, rfl⟩ | ⟨a, rfl, b⟩
    · rw [a]; rfl
    · rw [a, b]; rfl
  have br : ∀ c : Int, (c = 40 ∨ c = 41 ∨ c = 91 ∨ c = 93) → ∀ d, signB c d = 1 := fun c hc d => by
    unfold signB
    rw [if_neg (by omega), if_pos (by omega)]
  rcases (by omega : k = 0 ∨ k = 1 ∨ k = 2 ∨ k = 3 ∨ k = 20 ∨ k = 21) with rfl | rfl | rfl | rfl | rfl | rfl
  · exact ⟨3, fun T _ => key 40 3 (by decide) (by decide) (.inr ⟨by decide, rfl, br 40 (by decide)⟩) T⟩
  · exact ⟨3, fun T _ => key 41 3 (by decide) (by decide) (.inr ⟨by decide, rfl, br 41 (by decide)⟩) T⟩
  · exact ⟨3, fun T _ => key 91 3 (by decide) (by decide) (.inr ⟨by decide, rfl, br 91 (by decide)⟩) T⟩
  · exact ⟨3, fun T _ => key 93 3 (by decide) (by decide) (.inr ⟨by decide, rfl, br 93 (by decide)⟩) T⟩
  · exact ⟨2, fun T _ => key 88 2 (by decide) (by decide) (.inl ⟨by decide, rfl⟩) T⟩
  · exact ⟨2, fun T _ => key 85 2 (by decide) (by decide) (.inl ⟨by decide, rfl⟩) T⟩
/-- A piece that stands alone, with no blank ahead, or one. -/
theorem Ahead.loose {S : ByteArray} {W : List ByteArray} {k : Nat} (h : Ahead S W) (hk : k < 4 ∨ k = 20 ∨ k = 21) : Ahead (S ++ wordTab.getD k ByteArray.empty) (W ++ [wordTab.getD k ByteArray.empty]) := by
  obtain ⟨j, hj⟩ := word_alone hk
  exact h.tok (word_size k (by omega)).1 (word_blank k (by omega)) hj
theorem Ahead.tight {S : ByteArray} {W : List ByteArray} {k : Nat} (h : Ahead S W) (hk : k < 26) : Ahead (S ++ wordTab.getD k ByteArray.empty ++ spB) (W ++ [wordTab.getD k ByteArray.empty]) := by
  obtain ⟨j, hj⟩ := word_space hk
  exact (h.tok (word_size k hk).1 (word_blank k hk) hj).space
theorem Ahead.sp {S : ByteArray} {W : List ByteArray} (h : Ahead S W) : Ahead (S ++ spB) W := (h.weak Spaced).space
theorem Ahead.done {S : ByteArray} {W : List ByteArray} (h : Ahead S W) (hs : S.size ≤ 60000) : ∃ toks : List Tok, toks.map Tok.text = W ∧ lexL S = toks ++ [tokEnd S] ∧ lexE S = 0 ∧ lexA S = 0 := by
  obtain ⟨toks, h1, h2⟩ := h ⟨#[]⟩ trivial
  have e : S ++ (⟨#[]⟩ : ByteArray) = S := ba_ext (by rw [app_list]; exact List.append_nil _)
  rw [e, rest_end (Nat.le_refl _)] at h2
  refine ⟨toks, h1, ?_, ?_, ?_⟩
  · unfold lexL; rw [if_neg (by omega), h2]
  · unfold lexE; rw [if_neg (by omega), h2]
  · unfold lexA; rw [if_neg (by omega), h2]
end Go.Proofs.YtdfodmnjgpgojaaDoor
