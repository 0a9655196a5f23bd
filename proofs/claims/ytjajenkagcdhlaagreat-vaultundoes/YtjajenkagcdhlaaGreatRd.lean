/- What is read of home tracks as a vault: it may be; what was laid is read. -/
import Derived.Test.YtjajenkagcdhlaaGreatVlt
namespace Go.Proofs.YtjajenkagcdhlaaGreat
open Go.RowKit
set_option maxRecDepth 100000

def numAt (b : List Nat) (o : Nat) : Nat := num (b.drop o) 2
/-- The tracks of a record, from k on. -/
def chain (H : List (List Nat)) : Nat → Nat → (Nat → Bool) → List Nat → Option (List Nat × (Nat → Bool))
  | 0, _, _, _ => none
  | f + 1, k, tk, acc =>
    if k = 0 then some (acc, tk)
    else if H.length ≤ k then none
    else if tk k = true then none
    else chain H f (numAt (H.getD k []) 0) (fun i => tk i || i == k) (acc ++ [k])
def bytesFrom (H : List (List Nat)) (ks : List Nat) : List Nat := (ks.map fun k => ((H.getD k []).drop 4).take 80).flatten
def sizeFrom (H : List (List Nat)) (ks : List Nat) : Nat := numAt (H.getD (firstOf ks) []) 2
def recFrom (H : List (List Nat)) : Option (List Nat × (Nat → Bool)) → Option (List Nat × List Nat × (Nat → Bool))
  | none => none
  | some (ks, tk) => if 60000 < sizeFrom H ks then none else if takesN (sizeFrom H ks) ≠ ks.length then none else some ((bytesFrom H ks).take (sizeFrom H ks), ks, tk)
def readRec (H : List (List Nat)) (k : Nat) (tk : Nat → Bool) : Option (List Nat × List Nat × (Nat → Bool)) := recFrom H (chain H (H.length + 1) k tk [])
def rootAt (H : List (List Nat)) (id : Nat) : Nat := numAt (H.getD 0 []) (2 + id * 2)
def readIds (H : List (List Nat)) : Nat → Nat → (Nat → Bool) → Recs → Places → Option (Recs × Places)
  | 0, _, _, rs, a => some (rs, a)
  | n + 1, id, tk, rs, a =>
    if rootAt H id = 0 then readIds H n (id + 1) tk (rs ++ [none]) (a ++ [[]])
    else match readRec H (rootAt H id) tk with
      | none => none
      | some (b, ks, tk') => readIds H n (id + 1) tk' (rs ++ [some b]) (a ++ [ks])
/-- Do the tracks stand there? -/
def Stands (H : List (List Nat)) (W : Wri) : Prop := ∀ k, k < H.length → ∀ b, W.getD k none = some b → b = H.getD k []
def ids0 (H : List (List Nat)) : Option (Recs × Places) := readIds H 40 1 (fun _ => false) [none] [[]]
/-- What is read. -/
def Reading (H : List (List Nat)) (rs : Recs) (a : Places) : Prop := ids0 H = some (rs, a) ∧ Stands H (layW rs a H.length)

/-- How many are not taken. -/
def frees (tk : Nat → Bool) (n : Nat) : Nat := ((List.range n).filter fun i => !tk i).length
theorem frees_le (tk : Nat → Bool) (n : Nat) : frees tk n ≤ n := by
  unfold frees
  have := List.length_filter_le (fun i => !tk i) (List.range n)
  rwa [List.length_range] at this
theorem frees_less {tk : Nat → Bool} {n k : Nat} (hk : k < n) (h : tk k = false) : frees (fun i => tk i || i == k) n + 1 ≤ frees tk n := by
  unfold frees
  have h1 := sub_length (a := k :: (List.range n).filter fun i => !(tk i || i == k)) (b := (List.range n).filter fun i => !tk i) ?_ ?_
  · rwa [List.length_cons] at h1
  · rw [List.nodup_cons]
    refine ⟨fun q => ?_, (List.nodup_range (n := n)).filter _⟩
    have := (List.mem_filter.1 q).2
    simp at this
  · intro x hx
    rcases List.mem_cons.1 hx with rfl | hx
    · exact List.mem_filter.2 ⟨List.mem_range.2 hk, by rw [h]; rfl⟩
    · obtain ⟨h1, h2⟩ := List.mem_filter.1 hx
      refine List.mem_filter.2 ⟨h1, ?_⟩
      cases ht : tk x with
      | false => rfl
      | true => rw [ht] at h2; simp at h2

theorem chain_sound {H : List (List Nat)} : ∀ {f k : Nat} {tk : Nat → Bool} {acc ks : List Nat} {tk' : Nat → Bool}, chain H f k tk acc = some (ks, tk') →
    ∃ new, ks = acc ++ new ∧ new.Nodup ∧ (∀ i ∈ new, i ≠ 0 ∧ i < H.length ∧ tk i = false) ∧ (∀ i, tk' i = (tk i || new.contains i)) ∧ (k ≠ 0 → new ≠ [])
  | 0, _, _, _, _, _, h => by cases h
  | f + 1, k, tk, acc, ks, tk', h => by
    unfold chain at h
    by_cases h0 : k = 0
    · rw [if_pos h0] at h
      injection h with h
      injection h with h1 h2
      subst h1 h2
      exact ⟨[], by simp, by simp, by simp, by simp, fun q => absurd h0 q⟩
    · rw [if_neg h0] at h
      by_cases h1 : H.length ≤ k
      · rw [if_pos h1] at h; cases h
      · rw [if_neg h1] at h
        by_cases h2 : tk k = true
        · rw [if_pos h2] at h; cases h
        · rw [if_neg h2] at h
          obtain ⟨new, e, nd, hn, ht, _⟩ := chain_sound h
          have h2' : tk k = false := by simpa using h2
          refine ⟨k :: new, by rw [e]; simp, List.nodup_cons.2 ⟨fun q => ?_, nd⟩, fun i hi => ?_, fun i => ?_, fun _ => by simp⟩
          · have := (hn k q).2.2
            simp at this
          · rcases List.mem_cons.1 hi with rfl | hi
            · exact ⟨h0, by omega, h2'⟩
            · obtain ⟨q1, q2, q3⟩ := hn i hi
              refine ⟨q1, q2, ?_⟩
              cases hq : tk i with
              | false => rfl
              | true => rw [hq] at q3; simp at q3
          · rw [ht i, List.contains_cons]
            cases tk i <;> simp

theorem bytesFrom_length {H : List (List Nat)} (h : ∀ b ∈ H, b.length = 96) : ∀ {ks : List Nat}, (∀ i ∈ ks, i < H.length) → (bytesFrom H ks).length = ks.length * 80
  | [], _ => rfl
  | k :: ks, hk => by
    obtain ⟨b, hb⟩ := get_of_lt (hk k (by simp))
    have h1 := h b (mem_of_get hb)
    have ih := bytesFrom_length h (ks := ks) (fun i hi => hk i (by simp [hi]))
    show (((H.getD k []).drop 4).take 80 ++ bytesFrom H ks).length = _
    rw [List.length_append, ih, getD_of hb, List.length_take, List.length_drop, h1, List.length_cons, Nat.add_mul]
    omega
theorem bytesFrom_byte {H : List (List Nat)} (h : ∀ b ∈ H, ∀ x ∈ b, x < 256) {ks : List Nat} : ∀ x ∈ bytesFrom H ks, x < 256 := fun x hx => by
  obtain ⟨l, hl, hx⟩ := List.mem_flatten.1 hx
  obtain ⟨k, _, rfl⟩ := List.mem_map.1 hl
  have h1 := List.mem_of_mem_drop (List.mem_of_mem_take hx)
  rw [List.getD_eq_getElem?_getD] at h1
  cases hq : H[k]? with
  | none => rw [hq] at h1; cases h1
  | some b => rw [hq] at h1; exact h b (mem_of_get hq) x h1

/-- What is read so far may be. -/
structure Red (H : List (List Nat)) (id : Nat) (tk : Nat → Bool) (rs : Recs) (a : Places) : Prop where
  rl : rs.length = id
  al : a.length = id
  zero : rs[0]? = some none
  ok : ∀ (i : Nat) r ks, rs[i]? = some r → a[i]? = some ks → RecOk r ks
  nd : (0 :: a.flatten).Nodup
  lt : ∀ k ∈ a.flatten, k < H.length
  tks : ∀ i, tk i = a.flatten.contains i
theorem readRec_sound {H : List (List Nat)} (ht : ∀ b ∈ H, Trk b) {k : Nat} {tk tk' : Nat → Bool} {b ks : List Nat} (h : readRec H k tk = some (b, ks, tk')) :
    RecOk (some b) ks ∧ ks.Nodup ∧ (∀ i ∈ ks, i ≠ 0 ∧ i < H.length ∧ tk i = false) ∧ (∀ i, tk' i = (tk i || ks.contains i)) := by
  unfold readRec at h
  cases hc : chain H (H.length + 1) k tk [] with
  | none => rw [hc] at h; cases h
  | some p =>
    obtain ⟨ks', t'⟩ := p
    rw [hc] at h
    unfold recFrom at h
    simp only at h
    by_cases h1 : 60000 < sizeFrom H ks'
    · rw [if_pos h1] at h; cases h
    · rw [if_neg h1] at h
      by_cases h2 : takesN (sizeFrom H ks') ≠ ks'.length
      · rw [if_pos h2] at h; cases h
      · rw [if_neg h2] at h
        injection h with h
        injection h with e1 e2
        injection e2 with e2 e3
        subst e2 e3
        obtain ⟨new, e, nd, hn, htk, hne⟩ := chain_sound hc
        rw [List.nil_append] at e
        subst e
        have h2' : takesN (sizeFrom H ks') = ks'.length := by omega
        have hl := bytesFrom_length (fun b hb => (ht b hb).len) (ks := ks') (fun i hi => (hn i hi).2.1)
        have hr := takesN_room (sizeFrom H ks')
        have hbl : b.length = sizeFrom H ks' := by
          rw [← e1, List.length_take, hl, ← h2']
          omega
        refine ⟨⟨fun x hx => ?_, by rw [hbl]; omega, by rw [hbl]; exact h2'.symm⟩, nd, hn, htk⟩
        rw [← e1] at hx
        exact bytesFrom_byte (fun b hb => (ht b hb).byte) x (List.mem_of_mem_take hx)
theorem Red.next_none {H : List (List Nat)} {id : Nat} {tk : Nat → Bool} {rs : Recs} {a : Places} (h : Red H id tk rs a) : Red H (id + 1) tk (rs ++ [none]) (a ++ [[]]) := by
  have hf : (a ++ [[]]).flatten = a.flatten := by simp
  refine ⟨by simp [h.rl], by simp [h.al], ?_, fun i r ks h1 h2 => ?_, by rw [hf]; exact h.nd, by rw [hf]; exact h.lt, by rw [hf]; exact h.tks⟩
  · rw [List.getElem?_append_left (lt_of_get h.zero)]; exact h.zero
  · rcases Nat.lt_or_ge i id with q | q
    · rw [List.getElem?_append_left (by rw [h.rl]; exact q)] at h1
      rw [List.getElem?_append_left (by rw [h.al]; exact q)] at h2
      exact h.ok i r ks h1 h2
    · have hi : i = id := by have := lt_of_get h1; simp [h.rl] at this; omega
      subst hi
      rw [List.getElem?_append_right (by rw [h.rl]; exact q), h.rl, Nat.sub_self] at h1
      rw [List.getElem?_append_right (by rw [h.al]; exact q), h.al, Nat.sub_self] at h2
      injection h1 with h1
      injection h2 with h2
      subst h1 h2
      rfl
theorem Red.next_some {H : List (List Nat)} {id : Nat} {tk tk' : Nat → Bool} {rs : Recs} {a : Places} {b ks : List Nat} (h : Red H id tk rs a) (hr : RecOk (some b) ks) (nd : ks.Nodup) (hn : ∀ i ∈ ks, i ≠ 0 ∧ i < H.length ∧ tk i = false) (htk : ∀ i, tk' i = (tk i || ks.contains i)) : Red H (id + 1) tk' (rs ++ [some b]) (a ++ [ks]) := by
  have hf : (a ++ [ks]).flatten = a.flatten ++ ks := by simp
  have hnd := List.nodup_cons.1 h.nd
  refine ⟨by simp [h.rl], by simp [h.al], ?_, fun i r ks' h1 h2 => ?_, ?_, ?_, fun i => ?_⟩
  · rw [List.getElem?_append_left (lt_of_get h.zero)]; exact h.zero
  · rcases Nat.lt_or_ge i id with q | q
    · rw [List.getElem?_append_left (by rw [h.rl]; exact q)] at h1
      rw [List.getElem?_append_left (by rw [h.al]; exact q)] at h2
      exact h.ok i r ks' h1 h2
    · have hi : i = id := by have := lt_of_get h1; simp [h.rl] at this; omega
      subst hi
      rw [List.getElem?_append_right (by rw [h.rl]; exact q), h.rl, Nat.sub_self] at h1
      rw [List.getElem?_append_right (by rw [h.al]; exact q), h.al, Nat.sub_self] at h2
      injection h1 with h1
      injection h2 with h2
      subst h1 h2
      exact hr
  · rw [hf, List.nodup_cons]
    refine ⟨fun q => ?_, List.nodup_append.2 ⟨hnd.2, nd, fun x hx y hy e => ?_⟩⟩
    · rcases List.mem_append.1 q with q | q
      · exact hnd.1 q
      · exact (hn 0 q).1 rfl
    · subst e
      have h1 := (hn x hy).2.2
      rw [h.tks x] at h1
      have h2 : a.flatten.contains x = true := by simpa using hx
      rw [h2] at h1
      cases h1
  · rw [hf]
    intro k hk
    rcases List.mem_append.1 hk with q | q
    · exact h.lt k q
    · exact (hn k q).2.1
  · rw [htk i, h.tks i, hf]
    cases h1 : a.flatten.contains i <;> cases h2 : ks.contains i <;> simp_all
theorem readIds_sound {H : List (List Nat)} (ht : ∀ b ∈ H, Trk b) : ∀ {n id : Nat} {tk : Nat → Bool} {rs rs' : Recs} {a a' : Places}, Red H id tk rs a → readIds H n id tk rs a = some (rs', a') → ∃ tk', Red H (id + n) tk' rs' a'
  | 0, id, tk, rs, rs', a, a', h, e => by
    unfold readIds at e
    injection e with e
    injection e with e1 e2
    subst e1 e2
    exact ⟨tk, h⟩
  | n + 1, id, tk, rs, rs', a, a', h, e => by
    unfold readIds at e
    rw [show id + (n + 1) = id + 1 + n by omega]
    by_cases h0 : rootAt H id = 0
    · rw [if_pos h0] at e
      exact readIds_sound ht h.next_none e
    · rw [if_neg h0] at e
      cases hr : readRec H (rootAt H id) tk with
      | none => rw [hr] at e; cases e
      | some p =>
        obtain ⟨b, ks, tk'⟩ := p
        rw [hr] at e
        simp only at e
        obtain ⟨q1, q2, q3, q4⟩ := readRec_sound ht hr
        exact readIds_sound ht (h.next_some q1 q2 q3 q4) e
theorem red0 (H : List (List Nat)) : Red H 1 (fun _ => false) [none] [[]] := ⟨rfl, rfl, rfl, fun i r ks h1 h2 => by
  match i, h1, h2 with
  | 0, h1, h2 => injection h1 with h1; injection h2 with h2; subst h1 h2; rfl
  | i + 1, h1, _ => simp at h1, by simp, by simp, by simp⟩
/-- What is read may be. -/
theorem ids_vld {H : List (List Nat)} (ht : ∀ b ∈ H, Trk b) (h0 : 0 < H.length) {rs : Recs} {a : Places} (h : ids0 H = some (rs, a)) : Vld rs a H.length := by
  obtain ⟨tk, h⟩ := readIds_sound ht (red0 H) h
  exact ⟨h.rl, h.al, h.zero, h.ok, h.nd, h.lt, h0⟩
theorem fits_holds {H : List (List Nat)} {rs : Recs} {a : Places} (v : Vld rs a H.length) : Stands H (layW rs a H.length) ↔ Holds H (layM rs a) := by
  constructor
  · intro h x hx
    have hl := v.keys_lt x hx
    have := h x.1 hl x.2 (getD_of (v.layW_get hx))
    obtain ⟨y, hy⟩ := get_of_lt hl
    rw [hy, this, getD_of hy]
  · intro h k hk b hb
    have h2 : (layW rs a H.length)[k]? = some (some b) := by
      rw [List.getD_eq_getElem?_getD] at hb
      cases hq : (layW rs a H.length)[k]? with
      | none => rw [hq] at hb; cases hb
      | some y => rw [hq] at hb; exact congrArg some hb
    have := h _ (v.layW_mem h2)
    rw [getD_of this]
theorem Reading.vld {H : List (List Nat)} (ht : ∀ b ∈ H, Trk b) (h0 : 0 < H.length) {rs : Recs} {a : Places} (h : Reading H rs a) : Vld rs a H.length ∧ Holds H (layM rs a) :=
  ⟨ids_vld ht h0 h.1, (fits_holds (ids_vld ht h0 h.1)).1 h.2⟩

/-- A page's parts. -/
theorem pageText_length (k : Nat) (b : List Nat) : (pageText k b).length = 4 + min 80 b.length := by
  simp [pageText, high_length]; omega
theorem recPage_eq (k : Nat) (b : List Nat) : ∃ t, recPage k b = high k 2 ++ (high b.length 2 ++ ((b.take 80 ++ zeros (80 - min 80 b.length)) ++ t)) := by
  refine ⟨digits (sum1 (body (pageText k b))) ++ digits (sum2 (body (pageText k b))), ?_⟩
  unfold recPage track
  have : body (pageText k b) = high k 2 ++ (high b.length 2 ++ (b.take 80 ++ zeros (80 - min 80 b.length))) := by
    unfold body
    rw [pageText_length, show 84 - (4 + min 80 b.length) = 80 - min 80 b.length by omega]
    simp [pageText]
  rw [this]
  simp
theorem recPage_next (k : Nat) (b : List Nat) : numAt (recPage k b) 0 = k % 65536 := by
  obtain ⟨t, e⟩ := recPage_eq k b
  unfold numAt
  rw [e, List.drop_zero, num_high2]
theorem recPage_size (k : Nat) (b : List Nat) : numAt (recPage k b) 2 = b.length % 65536 := by
  obtain ⟨t, e⟩ := recPage_eq k b
  unfold numAt
  rw [e, List.drop_left' (high_length k 2), num_high2]
theorem recPage_piece (k : Nat) (b : List Nat) : ((recPage k b).drop 4).take 80 = b.take 80 ++ zeros (80 - min 80 b.length) := by
  obtain ⟨t, e⟩ := recPage_eq k b
  have hl : (b.take 80 ++ zeros (80 - min 80 b.length)).length = 80 := by simp [zeros]; omega
  rw [e, ← List.append_assoc, List.drop_left' (by simp [high_length]), List.take_left' hl]
theorem recPage_trk {k : Nat} {b : List Nat} (hb : ∀ x ∈ b, x < 256) : Trk (recPage k b) :=
  ⟨track_byte (fun x hx => by
    rcases List.mem_append.1 hx with h | h
    · exact high_byte _ _ x h
    · rcases List.mem_append.1 h with h | h
      · exact high_byte _ _ x h
      · exact hb x (List.mem_of_mem_take h)), track_length (by rw [pageText_length]; omega)⟩
theorem chunk_flat : ∀ (l : List (List Nat)) (f : List Nat → Nat), (l.map fun ks => high (f ks) 2).flatten.length = l.length * 2
  | [], _ => rfl
  | x :: l, f => by simp [high_length, chunk_flat l f]; omega
theorem rootText_length {a : Places} (h : a.length = 41) : (rootText a).length = 84 := by
  unfold rootText
  rw [List.length_append, chunk_flat, List.length_drop, h]
  rfl
theorem rootPage_trk {a : Places} (h : a.length = 41) : Trk (rootPage a) :=
  ⟨track_byte (fun x hx => by
    rcases List.mem_append.1 hx with h | h
    · simp at h; omega
    · obtain ⟨l, hl, hx⟩ := List.mem_flatten.1 h
      obtain ⟨k, _, rfl⟩ := List.mem_map.1 hl
      exact high_byte _ _ x hx), track_length (by rw [rootText_length h]; exact Nat.le_refl _)⟩
theorem root_num {a : Places} (h : a.length = 41) {id : Nat} {ks : List Nat} (h1 : 1 ≤ id) (hk : a[id]? = some ks) : numAt (rootPage a) (2 + id * 2) = firstOf ks % 65536 := by
  unfold numAt rootPage
  rw [track_full (rootText_length h)]
  have e : (rootText a).drop (2 + id * 2) = high (firstOf ks) 2 ++ ((a.drop (id + 1)).map fun ks => high (firstOf ks) 2).flatten := by
    unfold rootText
    rw [List.drop_append, List.drop_eq_nil_of_le (by simp; omega), List.nil_append, show 2 + id * 2 - [118, 108, 116, 49].length = (id - 1) * 2 by simp; omega, flatten_drop 2 _ (id - 1) (fun b hb => by
      obtain ⟨k, _, rfl⟩ := List.mem_map.1 hb
      exact high_length _ 2), ← List.map_drop, List.drop_drop, show 1 + (id - 1) = id by omega]
    obtain ⟨hi, hx⟩ := List.getElem?_eq_some_iff.1 hk
    rw [List.drop_eq_getElem_cons hi, hx]
    rfl
  have hid : id < 41 := by have := lt_of_get hk; omega
  rw [List.drop_append_of_le_length (by rw [rootText_length h]; omega), e, List.append_assoc, num_high2]

theorem allPages_mem {ps : Places} {rs : Recs} : ∀ {i : Nat} {ks : List Nat} {r : Rec}, ps[i]? = some ks → rs[i]? = some r → ∀ x ∈ recPages ks (bytesOf r), x ∈ allPages ps rs := by
  induction ps generalizing rs with
  | nil => intro i ks r h; simp at h
  | cons p ps ih =>
    intro i ks r h1 h2 x hx
    match rs, i, h1, h2 with
    | q :: rs, 0, h1, h2 =>
      injection h1 with h1; injection h2 with h2
      subst h1 h2
      exact List.mem_append_left _ hx
    | q :: rs, i + 1, h1, h2 => exact List.mem_append_right _ (ih h1 h2 x hx)
    | [], i, _, h2 => simp at h2
theorem chain_all {H : List (List Nat)} : ∀ {ks b : List Nat} {tk : Nat → Bool} {acc : List Nat} {f : Nat}, (∀ x ∈ recPages ks b, H[x.1]? = some x.2) → ks.Nodup → (∀ i ∈ ks, i ≠ 0 ∧ i < H.length ∧ i < 65536 ∧ tk i = false) → ks.length < f →
    chain H f (firstOf ks) tk acc = some (acc ++ ks, fun i => tk i || ks.contains i)
  | [], b, tk, acc, f, _, _, _, hf => by
    obtain ⟨f', rfl⟩ : ∃ f', f = f' + 1 := ⟨f - 1, by simp at hf; omega⟩
    unfold chain
    rw [if_pos (show firstOf [] = 0 from rfl)]
    simp
  | k :: ks, b, tk, acc, f, hp, nd, hk, hf => by
    obtain ⟨f', rfl⟩ : ∃ f', f = f' + 1 := ⟨f - 1, by simp at hf; omega⟩
    obtain ⟨h0, h1, h2, h3⟩ := hk k (by simp)
    rw [List.nodup_cons] at nd
    have hpage := hp (k, recPage (firstOf ks) b) (by simp [recPages])
    have hfst : firstOf ks < 65536 := by
      cases ks with
      | nil => show (0 : Nat) < 65536; omega
      | cons j js => exact (hk j (by simp)).2.2.1
    show chain H (f' + 1) k tk acc = _
    unfold chain
    rw [if_neg h0, if_neg (by omega), if_neg (by rw [h3]; simp), getD_of hpage, recPage_next, Nat.mod_eq_of_lt hfst]
    rw [chain_all (ks := ks) (b := b.drop 80) (fun x hx => hp x (by simp [recPages, hx])) nd.2 (fun i hi => ?_) (by simp at hf; omega)]
    · congr 2
      · simp
      · funext i
        rw [List.contains_cons]
        cases tk i <;> simp
    · obtain ⟨q0, q1, q2, q3⟩ := hk i (by simp [hi])
      refine ⟨q0, q1, q2, ?_⟩
      have hne : i ≠ k := fun e => nd.1 (by rw [← e]; exact hi)
      simp [q3, hne]
theorem bytesFrom_all {H : List (List Nat)} : ∀ {ks b : List Nat}, (∀ x ∈ recPages ks b, H[x.1]? = some x.2) → b.length ≤ ks.length * 80 → (bytesFrom H ks).take b.length = b
  | [], b, _, hl => by
    have : b = [] := List.eq_nil_of_length_eq_zero (by rw [List.length_nil, Nat.zero_mul] at hl; omega)
    subst this
    rfl
  | k :: ks, b, hp, hl => by
    have hpage := hp (k, recPage (firstOf ks) b) (by simp [recPages])
    have ih := bytesFrom_all (ks := ks) (b := b.drop 80) (fun x hx => hp x (by simp [recPages, hx])) (by simp at hl ⊢; omega)
    show (((H.getD k []).drop 4).take 80 ++ bytesFrom H ks).take b.length = b
    rw [getD_of hpage, recPage_piece]
    rcases Nat.lt_or_ge b.length 80 with q | q
    · rw [List.take_of_length_le (l := b) (by omega), List.append_assoc, List.take_left' rfl]
    · have e : 80 - min 80 b.length = 0 := by omega
      have hl1 : (b.take 80).length = 80 := by simp; omega
      rw [e, show zeros 0 = [] from rfl, List.append_nil, List.take_append, List.take_of_length_le (by omega), hl1]
      rw [List.length_drop] at ih
      rw [ih, List.take_append_drop]
theorem readRec_all {H : List (List Nat)} (h16 : H.length ≤ 65536) {ks b : List Nat} {tk : Nat → Bool} (hne : ks ≠ []) (hp : ∀ x ∈ recPages ks b, H[x.1]? = some x.2) (hr : RecOk (some b) ks) (nd : ks.Nodup) (hk : ∀ i ∈ ks, i ≠ 0 ∧ i < H.length ∧ tk i = false) :
    readRec H (firstOf ks) tk = some (b, ks, fun i => tk i || ks.contains i) := by
  have hlen : ks.length < H.length + 1 := by
    have := sub_length (b := List.range H.length) nd (fun i hi => List.mem_range.2 (hk i hi).2.1)
    rw [List.length_range] at this
    omega
  unfold readRec
  rw [chain_all hp nd (fun i hi => ⟨(hk i hi).1, (hk i hi).2.1, by have := (hk i hi).2.1; omega, (hk i hi).2.2⟩) hlen, List.nil_append]
  have hs : sizeFrom H ks = b.length := by
    cases ks with
    | nil => exact absurd rfl hne
    | cons k ks =>
      have hpage := hp (k, recPage (firstOf ks) b) (by simp [recPages])
      unfold sizeFrom
      rw [show firstOf (k :: ks) = k from rfl, getD_of hpage, recPage_size, Nat.mod_eq_of_lt (by have := hr.2.1; omega)]
  unfold recFrom
  simp only
  rw [hs, if_neg (by have := hr.2.1; omega), if_neg (by rw [hr.2.2]; simp), bytesFrom_all hp (by rw [hr.2.2]; exact takesN_room _)]
theorem readIds_all {H : List (List Nat)} (h16 : H.length ≤ 65536) {rs : Recs} {a : Places} (v : Vld rs a H.length) (hh : Holds H (layM rs a)) : ∀ (n id : Nat) (tk : Nat → Bool), id + n = 41 → 1 ≤ id → (∀ i, tk i = (a.take id).flatten.contains i) → readIds H n id tk (rs.take id) (a.take id) = some (rs, a)
  | 0, id, tk, h41, _, _ => by
    unfold readIds
    rw [List.take_of_length_le (by rw [v.r41]; omega), List.take_of_length_le (by rw [v.a41]; omega)]
  | n + 1, id, tk, h41, h1, htk => by
    obtain ⟨r, hr⟩ := get_of_lt (l := rs) (n := id) (by rw [v.r41]; omega)
    obtain ⟨ks, hks⟩ := get_of_lt (l := a) (n := id) (by rw [v.a41]; omega)
    have hok := v.ok id r ks hr hks
    have hroot : H[0]? = some (rootPage a) := hh (0, rootPage a) (by simp [layM])
    have hnum : rootAt H id = firstOf ks := by
      unfold rootAt
      rw [getD_of hroot, root_num v.a41 h1 hks]
      refine Nat.mod_eq_of_lt ?_
      cases ks with
      | nil => show (0 : Nat) < 65536; omega
      | cons k ks =>
        have := v.lt k (List.mem_flatten.2 ⟨_, mem_of_get hks, by simp⟩)
        show k < 65536
        omega
    have e1 : rs.take id ++ [r] = rs.take (id + 1) := by rw [take_get hr]
    have e2 : a.take id ++ [ks] = a.take (id + 1) := by rw [take_get hks]
    unfold readIds
    rw [hnum]
    cases ks with
    | nil =>
      have hnone : r = none := by
        cases r with
        | none => rfl
        | some b => have := hok.2.2; have := takesN_pos b.length; simp at *; omega
      subst hnone
      rw [if_pos (show firstOf [] = 0 from rfl), e1, e2]
      exact readIds_all h16 v hh n (id + 1) tk (by omega) (by omega) (fun i => by rw [htk i, ← e2]; simp)
    | cons k ks =>
      have hmem : ∀ i ∈ k :: ks, i ∈ a.flatten := fun i hi => List.mem_flatten.2 ⟨_, mem_of_get hks, hi⟩
      have hnd := List.nodup_cons.1 v.nd
      have hkne : k ≠ 0 := fun e => hnd.1 (by rw [← e]; exact hmem k (by simp))
      have hsplit : a.flatten = (a.take id).flatten ++ ((k :: ks) ++ (a.drop (id + 1)).flatten) := by
        conv => lhs; rw [← List.take_append_drop id a]
        obtain ⟨hi, hx⟩ := List.getElem?_eq_some_iff.1 hks
        rw [List.drop_eq_getElem_cons hi, hx, List.flatten_append, List.flatten_cons]
      have hnd2 := hnd.2
      rw [hsplit, List.nodup_append] at hnd2
      obtain ⟨_, nd2, disj⟩ := hnd2
      rw [List.nodup_append] at nd2
      cases r with
      | none => have h' : k :: ks = [] := hok; cases h'
      | some b =>
        rw [if_neg (show ¬ firstOf (k :: ks) = 0 from hkne), readRec_all h16 (by simp) (fun x hx => hh x (by
          show x ∈ (0, rootPage a) :: allPages a rs
          exact List.mem_cons_of_mem _ (allPages_mem hks hr x hx))) hok nd2.1 (fun i hi => ⟨fun e => hnd.1 (by rw [← e]; exact hmem i hi), v.lt i (hmem i hi), ?_⟩)]
        · simp only
          rw [e1, e2]
          refine readIds_all h16 v hh n (id + 1) _ (by omega) (by omega) (fun i => ?_)
          rw [htk i, ← e2]
          simp
        · rw [htk i]
          cases hq : (a.take id).flatten.contains i with
          | false => rfl
          | true =>
            exact absurd rfl (disj i (by simpa using hq) i (List.mem_append_left _ hi))
/-- What was laid is read. -/
theorem reading_all {H : List (List Nat)} (h16 : H.length ≤ 65536) {rs : Recs} {a : Places} (v : Vld rs a H.length) (hh : Holds H (layM rs a)) : Reading H rs a := by
  have ha0 : a.take 1 = [[]] := by
    obtain ⟨ks, hks⟩ := get_of_lt (l := a) (n := 0) (by rw [v.a41]; omega)
    have : ks = [] := v.ok 0 none ks v.zero hks
    subst this
    rw [take_get hks]; rfl
  have hr0 : rs.take 1 = [none] := by rw [take_get v.zero]; rfl
  refine ⟨?_, (fits_holds v).2 hh⟩
  have := readIds_all h16 v hh 40 1 (fun _ => false) rfl (Nat.le_refl _) (fun i => by rw [ha0]; simp)
  rwa [ha0, hr0] at this
/-- No two vaults stand on the same tracks. -/
theorem reading_one {H : List (List Nat)} {rs rs' : Recs} {a a' : Places} (h : Reading H rs a) (h' : Reading H rs' a') : rs = rs' ∧ a = a' := by
  have := h.1.symm.trans h'.1
  injection this with e
  injection e with e1 e2
  exact ⟨e1, e2⟩
end Go.Proofs.YtjajenkagcdhlaaGreat
