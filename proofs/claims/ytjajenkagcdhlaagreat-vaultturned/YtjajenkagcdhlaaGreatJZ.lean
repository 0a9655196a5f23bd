/- A vault as plain lists: records, where they lie, what stands on the home tracks; what is read of them. -/
import Derived.Test.YtjajenkagcdhlaaGreatLiveW
namespace Go.Proofs.YtjajenkagcdhlaaGreat
open Go.RowKit
set_option maxRecDepth 100000

abbrev Rec := Option (List Nat)
abbrev Recs := List Rec
abbrev Places := List (List Nat)

/-- How many tracks so many bytes take. -/
def takesN (n : Nat) : Nat := max 1 ((n + 79) / 80)
def takesR : Rec → Nat
  | none => 0
  | some b => takesN b.length
def sumT : Recs → Nat
  | [] => 0
  | r :: rs => takesR r + sumT rs
def bytesOf (r : Rec) : List Nat := r.getD []
def firstOf (ks : List Nat) : Nat := ks.headD 0
def rootText (a : Places) : List Nat := [118, 108, 116, 49] ++ ((a.drop 1).map fun ks => high (firstOf ks) 2).flatten
def rootPage (a : Places) : List Nat := track (rootText a)
def pageText (k : Nat) (b : List Nat) : List Nat := high k 2 ++ (high b.length 2 ++ b.take 80)
def recPage (k : Nat) (b : List Nat) : List Nat := track (pageText k b)
/-- The tracks of a record. -/
def recPages : List Nat → List Nat → List Ent
  | [], _ => []
  | k :: ks, b => (k, recPage (firstOf ks) b) :: recPages ks (b.drop 80)
def allPages : Places → Recs → List Ent
  | ks :: ps, r :: rs => recPages ks (bytesOf r) ++ allPages ps rs
  | _, _ => []
def layM (rs : Recs) (a : Places) : List Ent := (0, rootPage a) :: allPages a rs
def layW (rs : Recs) (a : Places) (home : Nat) : Wri := took (List.replicate home none) (layM rs a)

/-- May this record lie there? -/
def RecOk : Rec → List Nat → Prop
  | none, ks => ks = []
  | some b, ks => (∀ x ∈ b, x < 256) ∧ b.length ≤ 60000 ∧ ks.length = takesN b.length
structure Vld (rs : Recs) (a : Places) (home : Nat) : Prop where
  r41 : rs.length = 41
  a41 : a.length = 41
  zero : rs[0]? = some none
  ok : ∀ (i : Nat) r ks, rs[i]? = some r → a[i]? = some ks → RecOk r ks
  nd : (0 :: a.flatten).Nodup
  lt : ∀ k ∈ a.flatten, k < home
  pos : 0 < home
/-- These tracks stand there. -/
def Holds (H : List (List Nat)) (e : List Ent) : Prop := ∀ x ∈ e, H[x.1]? = some x.2

theorem takesN_pos (n : Nat) : 1 ≤ takesN n := Nat.le_max_left _ _
theorem takesN_room (n : Nat) : n ≤ takesN n * 80 := by unfold takesN; omega
theorem takesN_le {n : Nat} (h : n ≤ 60000) : takesN n ≤ 750 := by unfold takesN; omega

theorem recPages_keys : ∀ (ks : List Nat) (b : List Nat), (recPages ks b).map (·.1) = ks
  | [], _ => rfl
  | k :: ks, b => by show k :: (recPages ks (b.drop 80)).map (·.1) = _; rw [recPages_keys ks]
theorem allPages_keys : ∀ (ps : Places) (rs : Recs), ps.length = rs.length → (allPages ps rs).map (·.1) = ps.flatten
  | [], [], _ => rfl
  | ks :: ps, r :: rs, h => by
    show (recPages ks (bytesOf r) ++ allPages ps rs).map (·.1) = _
    rw [List.map_append, recPages_keys, allPages_keys ps rs (by simpa using h), List.flatten_cons]
  | [], r :: rs, h => by simp at h
  | ks :: ps, [], h => by simp at h
theorem layM_keys {rs : Recs} {a : Places} (h : a.length = rs.length) : (layM rs a).map (·.1) = 0 :: a.flatten := by
  show 0 :: (allPages a rs).map (·.1) = _
  rw [allPages_keys a rs h]

/-- What a run of stores with unlike keys leaves. -/
theorem took_get : ∀ {e : List Ent} {ws : Wri}, (e.map (·.1)).Nodup → (∀ x ∈ e, x.1 < ws.length) → ∀ x ∈ e, (took ws e)[x.1]? = some (some x.2)
  | [], _, _, _, x, hx => by cases hx
  | y :: e, ws, nd, hl, x, hx => by
    rw [List.map_cons, List.nodup_cons] at nd
    show (took (ws.set y.1 (some y.2)) e)[x.1]? = _
    rcases List.mem_cons.1 hx with rfl | hx
    · rw [took_other e _ (fun z hz q => nd.1 (List.mem_map.2 ⟨z, hz, q⟩))]
      exact List.getElem?_set_self (hl x (by simp))
    · exact took_get nd.2 (fun z hz => by rw [List.length_set]; exact hl z (by simp [hz])) x hx
where
  took_other : ∀ (e : List Ent) (ws : Wri) {k : Nat}, (∀ x ∈ e, x.1 ≠ k) → (took ws e)[k]? = ws[k]?
    | [], _, _, _ => rfl
    | y :: e, ws, k, h => by
      show (took (ws.set y.1 (some y.2)) e)[k]? = _
      rw [took_other e _ (fun z hz => h z (by simp [hz])), List.getElem?_set_ne (h y (by simp))]
theorem took_other {e : List Ent} {ws : Wri} {k : Nat} (h : ∀ x ∈ e, x.1 ≠ k) : (took ws e)[k]? = ws[k]? := took_get.took_other e ws h
/-- What stands somewhere was laid there. -/
theorem took_mem {e : List Ent} {n k : Nat} {b : List Nat} (nd : (e.map (·.1)).Nodup) (hl : ∀ x ∈ e, x.1 < n) (h : (took (List.replicate n none) e)[k]? = some (some b)) : (k, b) ∈ e := by
  by_cases hk : ∃ x ∈ e, x.1 = k
  · obtain ⟨x, hx, rfl⟩ := hk
    rw [took_get nd (fun x hx => by rw [List.length_replicate]; exact hl x hx) x hx] at h
    injection h with h; injection h with h
    subst h
    exact hx
  · rw [took_other (fun x hx q => hk ⟨x, hx, q⟩), List.getElem?_replicate] at h
    split at h <;> cases h

theorem Vld.len {rs : Recs} {a : Places} {home : Nat} (v : Vld rs a home) : a.length = rs.length := by rw [v.r41, v.a41]
theorem Vld.keys_lt {rs : Recs} {a : Places} {home : Nat} (v : Vld rs a home) : ∀ x ∈ layM rs a, x.1 < home := fun x hx => by
  have : x.1 ∈ (layM rs a).map (·.1) := List.mem_map.2 ⟨x, hx, rfl⟩
  rw [layM_keys v.len] at this
  rcases List.mem_cons.1 this with h | h
  · rw [h]; exact v.pos
  · exact v.lt _ h
theorem Vld.keys_nd {rs : Recs} {a : Places} {home : Nat} (v : Vld rs a home) : ((layM rs a).map (·.1)).Nodup := by rw [layM_keys v.len]; exact v.nd
theorem layW_length (rs : Recs) (a : Places) (home : Nat) : (layW rs a home).length = home := by unfold layW; rw [took_length, List.length_replicate]
theorem Vld.layW_get {rs : Recs} {a : Places} {home : Nat} (v : Vld rs a home) {x : Ent} (hx : x ∈ layM rs a) : (layW rs a home)[x.1]? = some (some x.2) :=
  took_get v.keys_nd (fun y hy => by rw [List.length_replicate]; exact v.keys_lt y hy) x hx
theorem Vld.layW_mem {rs : Recs} {a : Places} {home k : Nat} {b : List Nat} (v : Vld rs a home) (h : (layW rs a home)[k]? = some (some b)) : (k, b) ∈ layM rs a :=
  took_mem v.keys_nd v.keys_lt h

/-- What must be written where tracks are others than they were. -/
def otherAt (was now : Wri) (k : Nat) : List Ent := match now.getD k none with
  | none => []
  | some b => if was.getD k none = some b then [] else [(k, b)]
def othersTo (was now : Wri) : Nat → List Ent
  | 0 => []
  | k + 1 => othersTo was now k ++ otherAt was now k
def othersM (was now : Wri) : List Ent := othersTo was now now.length
theorem otherAt_mem {was now : Wri} {k : Nat} {x : Ent} (h : x ∈ otherAt was now k) : x.1 = k ∧ now.getD k none = some x.2 ∧ was.getD k none ≠ some x.2 := by
  unfold otherAt at h
  cases hn : now.getD k none with
  | none => rw [hn] at h; cases h
  | some b =>
    rw [hn] at h
    simp only at h
    split at h
    · cases h
    · rename_i hw
      obtain rfl := List.mem_singleton.1 h
      exact ⟨rfl, rfl, hw⟩
theorem othersTo_mem {was now : Wri} {x : Ent} : ∀ {k : Nat}, x ∈ othersTo was now k ↔ x.1 < k ∧ now.getD x.1 none = some x.2 ∧ was.getD x.1 none ≠ some x.2
  | 0 => by simp [othersTo]
  | k + 1 => by
    show x ∈ othersTo was now k ++ otherAt was now k ↔ _
    rw [List.mem_append, othersTo_mem]
    constructor
    · rintro (⟨h1, h2⟩ | h)
      · exact ⟨by omega, h2⟩
      · obtain ⟨rfl, h2⟩ := otherAt_mem h
        exact ⟨by omega, h2⟩
    · rintro ⟨h1, h2, h3⟩
      rcases Nat.lt_or_ge x.1 k with q | q
      · exact .inl ⟨q, h2, h3⟩
      · right
        obtain ⟨x1, x2⟩ := x
        obtain rfl : x1 = k := by simp only at h1 q; omega
        unfold otherAt
        simp only at h2 h3
        rw [h2]
        simp only
        rw [if_neg h3]
        simp
theorem othersTo_nodup (was now : Wri) : ∀ k, ((othersTo was now k).map (·.1)).Nodup
  | 0 => by simp [othersTo]
  | k + 1 => by
    show ((othersTo was now k ++ otherAt was now k).map (·.1)).Nodup
    rw [List.map_append, List.nodup_append]
    refine ⟨othersTo_nodup was now k, ?_, ?_⟩
    · unfold otherAt
      split
      · simp
      · split <;> simp
    · intro i hi j hj
      obtain ⟨x, hx, rfl⟩ := List.mem_map.1 hi
      obtain ⟨y, hy, rfl⟩ := List.mem_map.1 hj
      have h1 := (othersTo_mem.1 hx).1
      have h2 := (otherAt_mem hy).1
      omega
theorem othersTo_length (was now : Wri) : ∀ k, (othersTo was now k).length ≤ k
  | 0 => Nat.le_refl _
  | k + 1 => by
    have h1 := othersTo_length was now k
    have h2 : (otherAt was now k).length ≤ 1 := by
      unfold otherAt
      split
      · simp
      · split <;> simp
    show (othersTo was now k ++ otherAt was now k).length ≤ _
    rw [List.length_append]
    omega
/-- As many ps there are tracks in it, at most. -/
theorem sub_length {α : Type} [DecidableEq α] : ∀ {a b : List α}, a.Nodup → (∀ x ∈ a, x ∈ b) → a.length ≤ b.length
  | [], _, _, _ => Nat.zero_le _
  | x :: a, b, nd, h => by
    rw [List.nodup_cons] at nd
    have hx : x ∈ b := h x (by simp)
    have h1 : (b.erase x).length = b.length - 1 := List.length_erase_of_mem hx
    have h2 := sub_length (b := b.erase x) nd.2 (fun y hy => (List.mem_erase_of_ne (fun e => nd.1 (by rw [← e]; exact hy))).2 (h y (by simp [hy])))
    have h3 : 0 < b.length := List.length_pos_of_mem hx
    simp only [List.length_cons]
    omega
theorem flatten_sum : ∀ {a : Places} {rs : Recs}, (∀ (i : Nat) r ks, rs[i]? = some r → a[i]? = some ks → RecOk r ks) → a.length = rs.length → a.flatten.length = sumT rs
  | [], [], _, _ => rfl
  | ks :: a, r :: rs, h, hl => by
    have h0 := h 0 r ks rfl rfl
    have ih := flatten_sum (a := a) (rs := rs) (fun i r ks h1 h2 => h (i + 1) r ks h1 h2) (by simpa using hl)
    have hk : ks.length = takesR r := by
      cases r with
      | none => have h0' : ks = [] := h0; subst h0'; rfl
      | some b => exact h0.2.2
    show (ks ++ a.flatten).length = takesR r + sumT rs
    rw [List.length_append, ih, hk]
  | [], r :: rs, _, hl => by simp at hl
  | ks :: a, [], _, hl => by simp at hl
theorem Vld.sum {rs : Recs} {a : Places} {home : Nat} (v : Vld rs a home) : a.flatten.length = sumT rs := flatten_sum v.ok v.len
theorem Vld.fits {rs : Recs} {a : Places} {home : Nat} (v : Vld rs a home) : sumT rs + 1 ≤ home := by
  have h := sub_length (b := List.range home) v.nd (fun x hx => by
    rw [List.mem_range]
    rcases List.mem_cons.1 hx with rfl | hx
    · exact v.pos
    · exact v.lt x hx)
  rw [List.length_range, List.length_cons, v.sum] at h
  exact h
theorem Vld.others_length {rs : Recs} {a : Places} {home : Nat} (v : Vld rs a home) (was : Wri) : (othersM was (layW rs a home)).length ≤ sumT rs + 1 := by
  have h := sub_length (a := (othersM was (layW rs a home)).map (·.1)) (b := 0 :: a.flatten) (othersTo_nodup _ _ _) (fun k hk => by
    obtain ⟨x, hx, rfl⟩ := List.mem_map.1 hk
    have h1 := othersTo_mem.1 hx
    have h2 : (layW rs a home)[x.1]? = some (some x.2) := by
      rw [List.getD_eq_getElem?_getD] at h1
      cases hq : (layW rs a home)[x.1]? with
      | none => rw [hq] at h1; cases h1.2.1
      | some y => rw [hq] at h1; exact congrArg some h1.2.1
    have h3 : x.1 ∈ (layM rs a).map (·.1) := List.mem_map.2 ⟨_, v.layW_mem h2, rfl⟩
    rwa [layM_keys v.len] at h3)
  rw [List.length_map, List.length_cons, v.sum] at h
  exact h
/-- What a Keep writes makes the tracks those of the records. -/
theorem keep_holds {N : List (List Nat)} {rs rs' : Recs} {a a' : Places} (v : Vld rs a N.length) (v' : Vld rs' a' N.length) (h : Holds N (layM rs a)) :
    Holds (tookH N (othersM (layW rs a N.length) (layW rs' a' N.length))) (layM rs' a') := by
  intro x hx
  have h1 := v'.layW_get hx
  have hlt := v'.keys_lt x hx
  have hlen := layW_length rs' a' N.length
  by_cases hw : (layW rs a N.length).getD x.1 none = some x.2
  · have h2 : (layW rs a N.length)[x.1]? = some (some x.2) := by
      rw [List.getD_eq_getElem?_getD] at hw
      cases hq : (layW rs a N.length)[x.1]? with
      | none => rw [hq] at hw; cases hw
      | some y => rw [hq] at hw; exact congrArg some hw
    have h3 := h _ (v.layW_mem h2)
    rw [tookH_other (fun y hy q => ?_)]
    · exact h3
    · have h4 := othersTo_mem.1 hy
      rw [q, getD_of h1] at h4
      have e : x.2 = y.2 := by injection h4.2.1
      rw [e] at hw
      exact h4.2.2 hw
  · refine tookH_get (othersTo_nodup _ _ _) (fun y hy => ?_) x (othersTo_mem.2 ⟨by rw [hlen]; exact hlt, getD_of h1, hw⟩)
    have h4 := (othersTo_mem.1 hy).1
    rwa [hlen] at h4
where
  tookH_other : ∀ {e : List Ent} {H : List (List Nat)} {k : Nat}, (∀ x ∈ e, x.1 ≠ k) → (tookH H e)[k]? = H[k]?
    | [], _, _, _ => rfl
    | y :: e, H, k, h => by
      show (tookH (H.set y.1 y.2) e)[k]? = _
      rw [tookH_other (fun z hz => h z (by simp [hz])), List.getElem?_set_ne (h y (by simp))]
  tookH_get : ∀ {e : List Ent} {H : List (List Nat)}, (e.map (·.1)).Nodup → (∀ x ∈ e, x.1 < H.length) → ∀ x ∈ e, (tookH H e)[x.1]? = some x.2
    | [], _, _, _, x, hx => by cases hx
    | y :: e, H, nd, hl, x, hx => by
      rw [List.map_cons, List.nodup_cons] at nd
      show (tookH (H.set y.1 y.2) e)[x.1]? = _
      rcases List.mem_cons.1 hx with rfl | hx
      · rw [tookH_other (fun z hz q => nd.1 (List.mem_map.2 ⟨z, hz, q⟩))]
        exact List.getElem?_set_self (hl x (by simp))
      · exact tookH_get nd.2 (fun z hz => by rw [List.length_set]; exact hl z (by simp [hz])) x hx
/-- Where nothing must be written, the tracks are those of the records. -/
theorem keep_none {N : List (List Nat)} {rs rs' : Recs} {a a' : Places} (v : Vld rs a N.length) (v' : Vld rs' a' N.length) (h : Holds N (layM rs a)) (h0 : othersM (layW rs a N.length) (layW rs' a' N.length) = []) : Holds N (layM rs' a') := by
  have := keep_holds v v' h
  rwa [h0] at this
end Go.Proofs.YtjajenkagcdhlaaGreat
/- What is read of home tracks as a vault: it may be; what was laid is read. -/
namespace Go.Proofs.YtjajenkagcdhlaaGreat
open Go.RowKit
set_option maxRecDepth 100000

def numAt (b : List Nat) (o : Nat) : Nat := num (b.drop o) 2
/-- The tracks of a record, from k on. -/
def chain (H : List (List Nat)) : Nat → Nat → (Nat → Bool) → List Nat → Option (List Nat × (Nat → Bool))
  | 0, _, _, _ => none
  | f + 1, k, tk, acc =>
    if k = 0 then some (acc, tk)
    else if H.length ≤ k then none
    else if tk k = true then none
    else chain H f (numAt (H.getD k []) 0) (fun i => tk i || i == k) (acc ++ [k])
def bytesFrom (H : List (List Nat)) (ks : List Nat) : List Nat := (ks.map fun k => ((H.getD k []).drop 4).take 80).flatten
def sizeFrom (H : List (List Nat)) (ks : List Nat) : Nat := numAt (H.getD (firstOf ks) []) 2
def recFrom (H : List (List Nat)) : Option (List Nat × (Nat → Bool)) → Option (List Nat × List Nat × (Nat → Bool))
  | none => none
  | some (ks, tk) => if 60000 < sizeFrom H ks then none else if takesN (sizeFrom H ks) ≠ ks.length then none else some ((bytesFrom H ks).take (sizeFrom H ks), ks, tk)
def readRec (H : List (List Nat)) (k : Nat) (tk : Nat → Bool) : Option (List Nat × List Nat × (Nat → Bool)) := recFrom H (chain H (H.length + 1) k tk [])
def rootAt (H : List (List Nat)) (id : Nat) : Nat := numAt (H.getD 0 []) (2 + id * 2)
def readIds (H : List (List Nat)) : Nat → Nat → (Nat → Bool) → Recs → Places → Option (Recs × Places)
  | 0, _, _, rs, a => some (rs, a)
  | n + 1, id, tk, rs, a =>
    if rootAt H id = 0 then readIds H n (id + 1) tk (rs ++ [none]) (a ++ [[]])
    else match readRec H (rootAt H id) tk with
      | none => none
      | some (b, ks, tk') => readIds H n (id + 1) tk' (rs ++ [some b]) (a ++ [ks])
/-- Do the tracks stand there? -/
def Stands (H : List (List Nat)) (W : Wri) : Prop := ∀ k, k < H.length → ∀ b, W.getD k none = some b → b = H.getD k []
def ids0 (H : List (List Nat)) : Option (Recs × Places) := readIds H 40 1 (fun _ => false) [none] [[]]
/-- What is read. -/
def Reading (H : List (List Nat)) (rs : Recs) (a : Places) : Prop := ids0 H = some (rs, a) ∧ Stands H (layW rs a H.length)

/-- How many are not taken. -/
def frees (tk : Nat → Bool) (n : Nat) : Nat := ((List.range n).filter fun i => !tk i).length
theorem frees_le (tk : Nat → Bool) (n : Nat) : frees tk n ≤ n := by
  unfold frees
  have := List.length_filter_le (fun i => !tk i) (List.range n)
  rwa [List.length_range] at this
theorem frees_less {tk : Nat → Bool} {n k : Nat} (hk : k < n) (h : tk k = false) : frees (fun i => tk i || i == k) n + 1 ≤ frees tk n := by
  unfold frees
  have h1 := sub_length (a := k :: (List.range n).filter fun i => !(tk i || i == k)) (b := (List.range n).filter fun i => !tk i) ?_ ?_
  · rwa [List.length_cons] at h1
  · rw [List.nodup_cons]
    refine ⟨fun q => ?_, (List.nodup_range (n := n)).filter _⟩
    have := (List.mem_filter.1 q).2
    simp at this
  · intro x hx
    rcases List.mem_cons.1 hx with rfl | hx
    · exact List.mem_filter.2 ⟨List.mem_range.2 hk, by rw [h]; rfl⟩
    · obtain ⟨h1, h2⟩ := List.mem_filter.1 hx
      refine List.mem_filter.2 ⟨h1, ?_⟩
      cases ht : tk x with
      | false => rfl
      | true => rw [ht] at h2; simp at h2

theorem chain_sound {H : List (List Nat)} : ∀ {f k : Nat} {tk : Nat → Bool} {acc ks : List Nat} {tk' : Nat → Bool}, chain H f k tk acc = some (ks, tk') →
    ∃ new, ks = acc ++ new ∧ new.Nodup ∧ (∀ i ∈ new, i ≠ 0 ∧ i < H.length ∧ tk i = false) ∧ (∀ i, tk' i = (tk i || new.contains i)) ∧ (k ≠ 0 → new ≠ [])
  | 0, _, _, _, _, _, h => by cases h
  | f + 1, k, tk, acc, ks, tk', h => by
    unfold chain at h
    by_cases h0 : k = 0
    · rw [if_pos h0] at h
      injection h with h
      injection h with h1 h2
      subst h1 h2
      exact ⟨[], by simp, by simp, by simp, by simp, fun q => absurd h0 q⟩
    · rw [if_neg h0] at h
      by_cases h1 : H.length ≤ k
      · rw [if_pos h1] at h; cases h
      · rw [if_neg h1] at h
        by_cases h2 : tk k = true
        · rw [if_pos h2] at h; cases h
        · rw [if_neg h2] at h
          obtain ⟨new, e, nd, hn, ht, _⟩ := chain_sound h
          have h2' : tk k = false := by simpa using h2
          refine ⟨k :: new, by rw [e]; simp, List.nodup_cons.2 ⟨fun q => ?_, nd⟩, fun i hi => ?_, fun i => ?_, fun _ => by simp⟩
          · have := (hn k q).2.2
            simp at this
          · rcases List.mem_cons.1 hi with rfl | hi
            · exact ⟨h0, by omega, h2'⟩
            · obtain ⟨q1, q2, q3⟩ := hn i hi
              refine ⟨q1, q2, ?_⟩
              cases hq : tk i with
              | false => rfl
              | true => rw [hq] at q3; simp at q3
          · rw [ht i, List.contains_cons]
            cases tk i <;> simp

theorem bytesFrom_length {H : List (List Nat)} (h : ∀ b ∈ H, b.length = 96) : ∀ {ks : List Nat}, (∀ i ∈ ks, i < H.length) → (bytesFrom H ks).length = ks.length * 80
  | [], _ => rfl
  | k :: ks, hk => by
    obtain ⟨b, hb⟩ := get_of_lt (hk k (by simp))
    have h1 := h b (mem_of_get hb)
    have ih := bytesFrom_length h (ks := ks) (fun i hi => hk i (by simp [hi]))
    show (((H.getD k []).drop 4).take 80 ++ bytesFrom H ks).length = _
    rw [List.length_append, ih, getD_of hb, List.length_take, List.length_drop, h1, List.length_cons, Nat.add_mul]
    omega
theorem bytesFrom_byte {H : List (List Nat)} (h : ∀ b ∈ H, ∀ x ∈ b, x < 256) {ks : List Nat} : ∀ x ∈ bytesFrom H ks, x < 256 := fun x hx => by
  obtain ⟨l, hl, hx⟩ := List.mem_flatten.1 hx
  obtain ⟨k, _, rfl⟩ := List.mem_map.1 hl
  have h1 := List.mem_of_mem_drop (List.mem_of_mem_take hx)
  rw [List.getD_eq_getElem?_getD] at h1
  cases hq : H[k]? with
  | none => rw [hq] at h1; cases h1
  | some b => rw [hq] at h1; exact h b (mem_of_get hq) x h1

/-- What is read so far may be. -/
structure Red (H : List (List Nat)) (id : Nat) (tk : Nat → Bool) (rs : Recs) (a : Places) : Prop where
  rl : rs.length = id
  al : a.length = id
  zero : rs[0]? = some none
  ok : ∀ (i : Nat) r ks, rs[i]? = some r → a[i]? = some ks → RecOk r ks
  nd : (0 :: a.flatten).Nodup
  lt : ∀ k ∈ a.flatten, k < H.length
  tks : ∀ i, tk i = a.flatten.contains i
theorem readRec_sound {H : List (List Nat)} (ht : ∀ b ∈ H, Trk b) {k : Nat} {tk tk' : Nat → Bool} {b ks : List Nat} (h : readRec H k tk = some (b, ks, tk')) :
    RecOk (some b) ks ∧ ks.Nodup ∧ (∀ i ∈ ks, i ≠ 0 ∧ i < H.length ∧ tk i = false) ∧ (∀ i, tk' i = (tk i || ks.contains i)) := by
  unfold readRec at h
  cases hc : chain H (H.length + 1) k tk [] with
  | none => rw [hc] at h; cases h
  | some p =>
    obtain ⟨ks', t'⟩ := p
    rw [hc] at h
    unfold recFrom at h
    simp only at h
    by_cases h1 : 60000 < sizeFrom H ks'
    · rw [if_pos h1] at h; cases h
    · rw [if_neg h1] at h
      by_cases h2 : takesN (sizeFrom H ks') ≠ ks'.length
      · rw [if_pos h2] at h; cases h
      · rw [if_neg h2] at h
        injection h with h
        injection h with e1 e2
        injection e2 with e2 e3
        subst e2 e3
        obtain ⟨new, e, nd, hn, htk, hne⟩ := chain_sound hc
        rw [List.nil_append] at e
        subst e
        have h2' : takesN (sizeFrom H ks') = ks'.length := by omega
        have hl := bytesFrom_length (fun b hb => (ht b hb).len) (ks := ks') (fun i hi => (hn i hi).2.1)
        have hr := takesN_room (sizeFrom H ks')
        have hbl : b.length = sizeFrom H ks' := by
          rw [← e1, List.length_take, hl, ← h2']
          omega
        refine ⟨⟨fun x hx => ?_, by rw [hbl]; omega, by rw [hbl]; exact h2'.symm⟩, nd, hn, htk⟩
        rw [← e1] at hx
        exact bytesFrom_byte (fun b hb => (ht b hb).byte) x (List.mem_of_mem_take hx)
theorem Red.next_none {H : List (List Nat)} {id : Nat} {tk : Nat → Bool} {rs : Recs} {a : Places} (h : Red H id tk rs a) : Red H (id + 1) tk (rs ++ [none]) (a ++ [[]]) := by
  have hf : (a ++ [[]]).flatten = a.flatten := by simp
  refine ⟨by simp [h.rl], by simp [h.al], ?_, fun i r ks h1 h2 => ?_, by rw [hf]; exact h.nd, by rw [hf]; exact h.lt, by rw [hf]; exact h.tks⟩
  · rw [List.getElem?_append_left (lt_of_get h.zero)]; exact h.zero
  · rcases Nat.lt_or_ge i id with q | q
    · rw [List.getElem?_append_left (by rw [h.rl]; exact q)] at h1
      rw [List.getElem?_append_left (by rw [h.al]; exact q)] at h2
      exact h.ok i r ks h1 h2
    · have hi : i = id := by have := lt_of_get h1; simp [h.rl] at this; omega
      subst hi
      rw [List.getElem?_append_right (by rw [h.rl]; exact q), h.rl, Nat.sub_self] at h1
      rw [List.getElem?_append_right (by rw [h.al]; exact q), h.al, Nat.sub_self] at h2
      injection h1 with h1
      injection h2 with h2
      subst h1 h2
      rfl
theorem Red.next_some {H : List (List Nat)} {id : Nat} {tk tk' : Nat → Bool} {rs : Recs} {a : Places} {b ks : List Nat} (h : Red H id tk rs a) (hr : RecOk (some b) ks) (nd : ks.Nodup) (hn : ∀ i ∈ ks, i ≠ 0 ∧ i < H.length ∧ tk i = false) (htk : ∀ i, tk' i = (tk i || ks.contains i)) : Red H (id + 1) tk' (rs ++ [some b]) (a ++ [ks]) := by
  have hf : (a ++ [ks]).flatten = a.flatten ++ ks := by simp
  have hnd := List.nodup_cons.1 h.nd
  refine ⟨by simp [h.rl], by simp [h.al], ?_, fun i r ks' h1 h2 => ?_, ?_, ?_, fun i => ?_⟩
  · rw [List.getElem?_append_left (lt_of_get h.zero)]; exact h.zero
  · rcases Nat.lt_or_ge i id with q | q
    · rw [List.getElem?_append_left (by rw [h.rl]; exact q)] at h1
      rw [List.getElem?_append_left (by rw [h.al]; exact q)] at h2
      exact h.ok i r ks' h1 h2
    · have hi : i = id := by have := lt_of_get h1; simp [h.rl] at this; omega
      subst hi
      rw [List.getElem?_append_right (by rw [h.rl]; exact q), h.rl, Nat.sub_self] at h1
      rw [List.getElem?_append_right (by rw [h.al]; exact q), h.al, Nat.sub_self] at h2
      injection h1 with h1
      injection h2 with h2
      subst h1 h2
      exact hr
  · rw [hf, List.nodup_cons]
    refine ⟨fun q => ?_, List.nodup_append.2 ⟨hnd.2, nd, fun x hx y hy e => ?_⟩⟩
    · rcases List.mem_append.1 q with q | q
      · exact hnd.1 q
      · exact (hn 0 q).1 rfl
    · subst e
      have h1 := (hn x hy).2.2
      rw [h.tks x] at h1
      have h2 : a.flatten.contains x = true := by simpa using hx
      rw [h2] at h1
      cases h1
  · rw [hf]
    intro k hk
    rcases List.mem_append.1 hk with q | q
    · exact h.lt k q
    · exact (hn k q).2.1
  · rw [htk i, h.tks i, hf]
    cases h1 : a.flatten.contains i <;> cases h2 : ks.contains i <;> simp_all
theorem readIds_sound {H : List (List Nat)} (ht : ∀ b ∈ H, Trk b) : ∀ {n id : Nat} {tk : Nat → Bool} {rs rs' : Recs} {a a' : Places}, Red H id tk rs a → readIds H n id tk rs a = some (rs', a') → ∃ tk', Red H (id + n) tk' rs' a'
  | 0, id, tk, rs, rs', a, a', h, e => by
    unfold readIds at e
    injection e with e
    injection e with e1 e2
    subst e1 e2
    exact ⟨tk, h⟩
  | n + 1, id, tk, rs, rs', a, a', h, e => by
    unfold readIds at e
    rw [show id + (n + 1) = id + 1 + n by omega]
    by_cases h0 : rootAt H id = 0
    · rw [if_pos h0] at e
      exact readIds_sound ht h.next_none e
    · rw [if_neg h0] at e
      cases hr : readRec H (rootAt H id) tk with
      | none => rw [hr] at e; cases e
      | some p =>
        obtain ⟨b, ks, tk'⟩ := p
        rw [hr] at e
        simp only at e
        obtain ⟨q1, q2, q3, q4⟩ := readRec_sound ht hr
        exact readIds_sound ht (h.next_some q1 q2 q3 q4) e
theorem red0 (H : List (List Nat)) : Red H 1 (fun _ => false) [none] [[]] := ⟨rfl, rfl, rfl, fun i r ks h1 h2 => by
  match i, h1, h2 with
  | 0, h1, h2 => injection h1 with h1; injection h2 with h2; subst h1 h2; rfl
  | i + 1, h1, _ => simp at h1, by simp, by simp, by simp⟩
/-- What is read may be. -/
theorem ids_vld {H : List (List Nat)} (ht : ∀ b ∈ H, Trk b) (h0 : 0 < H.length) {rs : Recs} {a : Places} (h : ids0 H = some (rs, a)) : Vld rs a H.length := by
  obtain ⟨tk, h⟩ := readIds_sound ht (red0 H) h
  exact ⟨h.rl, h.al, h.zero, h.ok, h.nd, h.lt, h0⟩
theorem fits_holds {H : List (List Nat)} {rs : Recs} {a : Places} (v : Vld rs a H.length) : Stands H (layW rs a H.length) ↔ Holds H (layM rs a) := by
  constructor
  · intro h x hx
    have hl := v.keys_lt x hx
    have := h x.1 hl x.2 (getD_of (v.layW_get hx))
    obtain ⟨y, hy⟩ := get_of_lt hl
    rw [hy, this, getD_of hy]
  · intro h k hk b hb
    have h2 : (layW rs a H.length)[k]? = some (some b) := by
      rw [List.getD_eq_getElem?_getD] at hb
      cases hq : (layW rs a H.length)[k]? with
      | none => rw [hq] at hb; cases hb
      | some y => rw [hq] at hb; exact congrArg some hb
    have := h _ (v.layW_mem h2)
    rw [getD_of this]
theorem Reading.vld {H : List (List Nat)} (ht : ∀ b ∈ H, Trk b) (h0 : 0 < H.length) {rs : Recs} {a : Places} (h : Reading H rs a) : Vld rs a H.length ∧ Holds H (layM rs a) :=
  ⟨ids_vld ht h0 h.1, (fits_holds (ids_vld ht h0 h.1)).1 h.2⟩

/-- A page's parts. -/
theorem pageText_length (k : Nat) (b : List Nat) : (pageText k b).length = 4 + min 80 b.length := by
  simp [pageText, high_length]; omega
theorem recPage_eq (k : Nat) (b : List Nat) : ∃ t, recPage k b = high k 2 ++ (high b.length 2 ++ ((b.take 80 ++ zeros (80 - min 80 b.length)) ++ t)) := by
  refine ⟨digits (sum1 (body (pageText k b))) ++ digits (sum2 (body (pageText k b))), ?_⟩
  unfold recPage track
  have : body (pageText k b) = high k 2 ++ (high b.length 2 ++ (b.take 80 ++ zeros (80 - min 80 b.length))) := by
    unfold body
    rw [pageText_length, show 84 - (4 + min 80 b.length) = 80 - min 80 b.length by omega]
    simp [pageText]
  rw [this]
  simp
theorem recPage_next (k : Nat) (b : List Nat) : numAt (recPage k b) 0 = k % 65536 := by
  obtain ⟨t, e⟩ := recPage_eq k b
  unfold numAt
  rw [e, List.drop_zero, num_high2]
theorem recPage_size (k : Nat) (b : List Nat) : numAt (recPage k b) 2 = b.length % 65536 := by
  obtain ⟨t, e⟩ := recPage_eq k b
  unfold numAt
  rw [e, List.drop_left' (high_length k 2), num_high2]
theorem recPage_piece (k : Nat) (b : List Nat) : ((recPage k b).drop 4).take 80 = b.take 80 ++ zeros (80 - min 80 b.length) := by
  obtain ⟨t, e⟩ := recPage_eq k b
  have hl : (b.take 80 ++ zeros (80 - min 80 b.length)).length = 80 := by simp [zeros]; omega
  rw [e, ← List.append_assoc, List.drop_left' (by simp [high_length]), List.take_left' hl]
theorem recPage_trk {k : Nat} {b : List Nat} (hb : ∀ x ∈ b, x < 256) : Trk (recPage k b) :=
  ⟨track_byte (fun x hx => by
    rcases List.mem_append.1 hx with h | h
    · exact high_byte _ _ x h
    · rcases List.mem_append.1 h with h | h
      · exact high_byte _ _ x h
      · exact hb x (List.mem_of_mem_take h)), track_length (by rw [pageText_length]; omega)⟩
theorem chunk_flat : ∀ (l : List (List Nat)) (f : List Nat → Nat), (l.map fun ks => high (f ks) 2).flatten.length = l.length * 2
  | [], _ => rfl
  | x :: l, f => by simp [high_length, chunk_flat l f]; omega
theorem rootText_length {a : Places} (h : a.length = 41) : (rootText a).length = 84 := by
  unfold rootText
  rw [List.length_append, chunk_flat, List.length_drop, h]
  rfl
theorem rootPage_trk {a : Places} (h : a.length = 41) : Trk (rootPage a) :=
  ⟨track_byte (fun x hx => by
    rcases List.mem_append.1 hx with h | h
    · simp at h; omega
    · obtain ⟨l, hl, hx⟩ := List.mem_flatten.1 h
      obtain ⟨k, _, rfl⟩ := List.mem_map.1 hl
      exact high_byte _ _ x hx), track_length (by rw [rootText_length h]; exact Nat.le_refl _)⟩
theorem root_num {a : Places} (h : a.length = 41) {id : Nat} {ks : List Nat} (h1 : 1 ≤ id) (hk : a[id]? = some ks) : numAt (rootPage a) (2 + id * 2) = firstOf ks % 65536 := by
  unfold numAt rootPage
  rw [track_full (rootText_length h)]
  have e : (rootText a).drop (2 + id * 2) = high (firstOf ks) 2 ++ ((a.drop (id + 1)).map fun ks => high (firstOf ks) 2).flatten := by
    unfold rootText
    rw [List.drop_append, List.drop_eq_nil_of_le (by simp; omega), List.nil_append, show 2 + id * 2 - [118, 108, 116, 49].length = (id - 1) * 2 by simp; omega, flatten_drop 2 _ (id - 1) (fun b hb => by
      obtain ⟨k, _, rfl⟩ := List.mem_map.1 hb
      exact high_length _ 2), ← List.map_drop, List.drop_drop, show 1 + (id - 1) = id by omega]
    obtain ⟨hi, hx⟩ := List.getElem?_eq_some_iff.1 hk
    rw [List.drop_eq_getElem_cons hi, hx]
    rfl
  have hid : id < 41 := by have := lt_of_get hk; omega
  rw [List.drop_append_of_le_length (by rw [rootText_length h]; omega), e, List.append_assoc, num_high2]

theorem allPages_mem {ps : Places} {rs : Recs} : ∀ {i : Nat} {ks : List Nat} {r : Rec}, ps[i]? = some ks → rs[i]? = some r → ∀ x ∈ recPages ks (bytesOf r), x ∈ allPages ps rs := by
  induction ps generalizing rs with
  | nil => intro i ks r h; simp at h
  | cons p ps ih =>
    intro i ks r h1 h2 x hx
    match rs, i, h1, h2 with
    | q :: rs, 0, h1, h2 =>
      injection h1 with h1; injection h2 with h2
      subst h1 h2
      exact List.mem_append_left _ hx
    | q :: rs, i + 1, h1, h2 => exact List.mem_append_right _ (ih h1 h2 x hx)
    | [], i, _, h2 => simp at h2
theorem chain_all {H : List (List Nat)} : ∀ {ks b : List Nat} {tk : Nat → Bool} {acc : List Nat} {f : Nat}, (∀ x ∈ recPages ks b, H[x.1]? = some x.2) → ks.Nodup → (∀ i ∈ ks, i ≠ 0 ∧ i < H.length ∧ i < 65536 ∧ tk i = false) → ks.length < f →
    chain H f (firstOf ks) tk acc = some (acc ++ ks, fun i => tk i || ks.contains i)
  | [], b, tk, acc, f, _, _, _, hf => by
    obtain ⟨f', rfl⟩ : ∃ f', f = f' + 1 := ⟨f - 1, by simp at hf; omega⟩
    unfold chain
    rw [if_pos (show firstOf [] = 0 from rfl)]
    simp
  | k :: ks, b, tk, acc, f, hp, nd, hk, hf => by
    obtain ⟨f', rfl⟩ : ∃ f', f = f' + 1 := ⟨f - 1, by simp at hf; omega⟩
    obtain ⟨h0, h1, h2, h3⟩ := hk k (by simp)
    rw [List.nodup_cons] at nd
    have hpage := hp (k, recPage (firstOf ks) b) (by simp [recPages])
    have hfst : firstOf ks < 65536 := by
      cases ks with
      | nil => show (0 : Nat) < 65536; omega
      | cons j js => exact (hk j (by simp)).2.2.1
    show chain H (f' + 1) k tk acc = _
    unfold chain
    rw [if_neg h0, if_neg (by omega), if_neg (by rw [h3]; simp), getD_of hpage, recPage_next, Nat.mod_eq_of_lt hfst]
    rw [chain_all (ks := ks) (b := b.drop 80) (fun x hx => hp x (by simp [recPages, hx])) nd.2 (fun i hi => ?_) (by simp at hf; omega)]
    · congr 2
      · simp
      · funext i
        rw [List.contains_cons]
        cases tk i <;> simp
    · obtain ⟨q0, q1, q2, q3⟩ := hk i (by simp [hi])
      refine ⟨q0, q1, q2, ?_⟩
      have hne : i ≠ k := fun e => nd.1 (by rw [← e]; exact hi)
      simp [q3, hne]
theorem bytesFrom_all {H : List (List Nat)} : ∀ {ks b : List Nat}, (∀ x ∈ recPages ks b, H[x.1]? = some x.2) → b.length ≤ ks.length * 80 → (bytesFrom H ks).take b.length = b
  | [], b, _, hl => by
    have : b = [] := List.eq_nil_of_length_eq_zero (by rw [List.length_nil, Nat.zero_mul] at hl; omega)
    subst this
    rfl
  | k :: ks, b, hp, hl => by
    have hpage := hp (k, recPage (firstOf ks) b) (by simp [recPages])
    have ih := bytesFrom_all (ks := ks) (b := b.drop 80) (fun x hx => hp x (by simp [recPages, hx])) (by simp at hl ⊢; omega)
    show (((H.getD k []).drop 4).take 80 ++ bytesFrom H ks).take b.length = b
    rw [getD_of hpage, recPage_piece]
    rcases Nat.lt_or_ge b.length 80 with q | q
    · rw [List.take_of_length_le (l := b) (by omega), List.append_assoc, List.take_left' rfl]
    · have e : 80 - min 80 b.length = 0 := by omega
      have hl1 : (b.take 80).length = 80 := by simp; omega
      rw [e, show zeros 0 = [] from rfl, List.append_nil, List.take_append, List.take_of_length_le (by omega), hl1]
      rw [List.length_drop] at ih
      rw [ih, List.take_append_drop]
theorem readRec_all {H : List (List Nat)} (h16 : H.length ≤ 65536) {ks b : List Nat} {tk : Nat → Bool} (hne : ks ≠ []) (hp : ∀ x ∈ recPages ks b, H[x.1]? = some x.2) (hr : RecOk (some b) ks) (nd : ks.Nodup) (hk : ∀ i ∈ ks, i ≠ 0 ∧ i < H.length ∧ tk i = false) :
    readRec H (firstOf ks) tk = some (b, ks, fun i => tk i || ks.contains i) := by
  have hlen : ks.length < H.length + 1 := by
    have := sub_length (b := List.range H.length) nd (fun i hi => List.mem_range.2 (hk i hi).2.1)
    rw [List.length_range] at this
    omega
  unfold readRec
  rw [chain_all hp nd (fun i hi => ⟨(hk i hi).1, (hk i hi).2.1, by have := (hk i hi).2.1; omega, (hk i hi).2.2⟩) hlen, List.nil_append]
  have hs : sizeFrom H ks = b.length := by
    cases ks with
    | nil => exact absurd rfl hne
    | cons k ks =>
      have hpage := hp (k, recPage (firstOf ks) b) (by simp [recPages])
      unfold sizeFrom
      rw [show firstOf (k :: ks) = k from rfl, getD_of hpage, recPage_size, Nat.mod_eq_of_lt (by have := hr.2.1; omega)]
  unfold recFrom
  simp only
  rw [hs, if_neg (by have := hr.2.1; omega), if_neg (by rw [hr.2.2]; simp), bytesFrom_all hp (by rw [hr.2.2]; exact takesN_room _)]
theorem readIds_all {H : List (List Nat)} (h16 : H.length ≤ 65536) {rs : Recs} {a : Places} (v : Vld rs a H.length) (hh : Holds H (layM rs a)) : ∀ (n id : Nat) (tk : Nat → Bool), id + n = 41 → 1 ≤ id → (∀ i, tk i = (a.take id).flatten.contains i) → readIds H n id tk (rs.take id) (a.take id) = some (rs, a)
  | 0, id, tk, h41, _, _ => by
    unfold readIds
    rw [List.take_of_length_le (by rw [v.r41]; omega), List.take_of_length_le (by rw [v.a41]; omega)]
  | n + 1, id, tk, h41, h1, htk => by
    obtain ⟨r, hr⟩ := get_of_lt (l := rs) (n := id) (by rw [v.r41]; omega)
    obtain ⟨ks, hks⟩ := get_of_lt (l := a) (n := id) (by rw [v.a41]; omega)
    have hok := v.ok id r ks hr hks
    have hroot : H[0]? = some (rootPage a) := hh (0, rootPage a) (by simp [layM])
    have hnum : rootAt H id = firstOf ks := by
      unfold rootAt
      rw [getD_of hroot, root_num v.a41 h1 hks]
      refine Nat.mod_eq_of_lt ?_
      cases ks with
      | nil => show (0 : Nat) < 65536; omega
      | cons k ks =>
        have := v.lt k (List.mem_flatten.2 ⟨_, mem_of_get hks, by simp⟩)
        show k < 65536
        omega
    have e1 : rs.take id ++ [r] = rs.take (id + 1) := by rw [take_get hr]
    have e2 : a.take id ++ [ks] = a.take (id + 1) := by rw [take_get hks]
    unfold readIds
    rw [hnum]
    cases ks with
    | nil =>
      have hnone : r = none := by
        cases r with
        | none => rfl
        | some b => have := hok.2.2; have := takesN_pos b.length; simp at *; omega
      subst hnone
      rw [if_pos (show firstOf [] = 0 from rfl), e1, e2]
      exact readIds_all h16 v hh n (id + 1) tk (by omega) (by omega) (fun i => by rw [htk i, ← e2]; simp)
    | cons k ks =>
      have hmem : ∀ i ∈ k :: ks, i ∈ a.flatten := fun i hi => List.mem_flatten.2 ⟨_, mem_of_get hks, hi⟩
      have hnd := List.nodup_cons.1 v.nd
      have hkne : k ≠ 0 := fun e => hnd.1 (by rw [← e]; exact hmem k (by simp))
      have hsplit : a.flatten = (a.take id).flatten ++ ((k :: ks) ++ (a.drop (id + 1)).flatten) := by
        conv => lhs; rw [← List.take_append_drop id a]
        obtain ⟨hi, hx⟩ := List.getElem?_eq_some_iff.1 hks
        rw [List.drop_eq_getElem_cons hi, hx, List.flatten_append, List.flatten_cons]
      have hnd2 := hnd.2
      rw [hsplit, List.nodup_append] at hnd2
      obtain ⟨_, nd2, disj⟩ := hnd2
      rw [List.nodup_append] at nd2
      cases r with
      | none => have h' : k :: ks = [] := hok; cases h'
      | some b =>
        rw [if_neg (show ¬ firstOf (k :: ks) = 0 from hkne), readRec_all h16 (by simp) (fun x hx => hh x (by
          show x ∈ (0, rootPage a) :: allPages a rs
          exact List.mem_cons_of_mem _ (allPages_mem hks hr x hx))) hok nd2.1 (fun i hi => ⟨fun e => hnd.1 (by rw [← e]; exact hmem i hi), v.lt i (hmem i hi), ?_⟩)]
        · simp only
          rw [e1, e2]
          refine readIds_all h16 v hh n (id + 1) _ (by omega) (by omega) (fun i => ?_)
          rw [htk i, ← e2]
          simp
        · rw [htk i]
          cases hq : (a.take id).flatten.contains i with
          | false => rfl
          | true =>
            exact absurd rfl (disj i (by simpa using hq) i (List.mem_append_left _ hi))
/-- What was laid is read. -/
theorem reading_all {H : List (List Nat)} (h16 : H.length ≤ 65536) {rs : Recs} {a : Places} (v : Vld rs a H.length) (hh : Holds H (layM rs a)) : Reading H rs a := by
  have ha0 : a.take 1 = [[]] := by
    obtain ⟨ks, hks⟩ := get_of_lt (l := a) (n := 0) (by rw [v.a41]; omega)
    have : ks = [] := v.ok 0 none ks v.zero hks
    subst this
    rw [take_get hks]; rfl
  have hr0 : rs.take 1 = [none] := by rw [take_get v.zero]; rfl
  refine ⟨?_, (fits_holds v).2 hh⟩
  have := readIds_all h16 v hh 40 1 (fun _ => false) rfl (Nat.le_refl _) (fun i => by rw [ha0]; simp)
  rwa [ha0, hr0] at this
/-- No two vaults stand on the same tracks. -/
theorem reading_one {H : List (List Nat)} {rs rs' : Recs} {a a' : Places} (h : Reading H rs a) (h' : Reading H rs' a') : rs = rs' ∧ a = a' := by
  have := h.1.symm.trans h'.1
  injection this with e
  injection e with e1 e2
  exact ⟨e1, e2⟩
end Go.Proofs.YtjajenkagcdhlaaGreat
/- Where records shall lie: on the tracks that they had, and on free ones. -/
namespace Go.Proofs.YtjajenkagcdhlaaGreat
open Go.RowKit
set_option maxRecDepth 100000

/-- Records that may be. -/
structure RsOk (rs : Recs) : Prop where
  r41 : rs.length = 41
  zero : rs[0]? = some none
  ok : ∀ (i : Nat) b, rs[i]? = some (some b) → (∀ x ∈ b, x < 256) ∧ b.length ≤ 60000
theorem Vld.rsOk {rs : Recs} {a : Places} {home : Nat} (v : Vld rs a home) : RsOk rs := ⟨v.r41, v.zero, fun i b hb => by
  obtain ⟨ks, hks⟩ := get_of_lt (l := a) (n := i) (by rw [v.a41, ← v.r41]; exact lt_of_get hb)
  have := v.ok i _ ks hb hks
  exact ⟨this.1, this.2.1⟩⟩
/-- Places that may be. -/
structure PlOk (a : Places) (home : Nat) : Prop where
  a41 : a.length = 41
  nd : (0 :: a.flatten).Nodup
  lt : ∀ k ∈ a.flatten, k < home
  pos : 0 < home
theorem Vld.plOk {rs : Recs} {a : Places} {home : Nat} (v : Vld rs a home) : PlOk a home := ⟨v.a41, v.nd, v.lt, v.pos⟩

def place0 : Places → Recs → Places
  | ks :: a, r :: rs => ks.take (takesR r) :: place0 a rs
  | _, _ => []
def freeM (a : Places) (home : Nat) : List Nat := (List.range home).filter fun k => !(k == 0 || a.flatten.contains k)
def fill : List Nat → Places → Recs → Places
  | free, ks :: a, r :: rs => (ks ++ free.take (takesR r - ks.length)) :: fill (free.drop (takesR r - ks.length)) a rs
  | _, _, _ => []
def placeM (rs : Recs) (had : Places) (home : Nat) : Places := fill (freeM (place0 had rs) home) (place0 had rs) rs

theorem place0_length : ∀ {a : Places} {rs : Recs}, a.length = rs.length → (place0 a rs).length = rs.length
  | [], [], _ => rfl
  | ks :: a, r :: rs, h => by show (_ :: place0 a rs).length = _; simp only [List.length_cons]; rw [place0_length (by simpa using h)]
  | [], r :: rs, h => by simp at h
  | ks :: a, [], h => by simp at h
theorem place0_get : ∀ {a : Places} {rs : Recs} {i : Nat} {ks : List Nat} {r : Rec}, a[i]? = some ks → rs[i]? = some r → (place0 a rs)[i]? = some (ks.take (takesR r))
  | x :: a, y :: rs, 0, ks, r, h1, h2 => by injection h1 with h1; injection h2 with h2; subst h1 h2; rfl
  | x :: a, y :: rs, i + 1, ks, r, h1, h2 => by
    show (place0 a rs)[i]? = _
    exact place0_get (by simpa using h1) (by simpa using h2)
  | [], _, i, _, _, h, _ => by simp at h
  | _ :: _, [], i, _, _, _, h => by simp at h
theorem place0_sub : ∀ (a : Places) (rs : Recs), (place0 a rs).flatten.Sublist a.flatten
  | [], _ => by simp [place0]
  | ks :: a, [] => by simp [place0]
  | ks :: a, r :: rs => by
    show (ks.take (takesR r) ++ (place0 a rs).flatten).Sublist (ks ++ a.flatten)
    exact (List.take_sublist _ _).append (place0_sub a rs)
theorem place0_few : ∀ {a : Places} {rs : Recs} {i : Nat} {ks : List Nat} {r : Rec}, (place0 a rs)[i]? = some ks → rs[i]? = some r → ks.length ≤ takesR r
  | x :: a, y :: rs, 0, ks, r, h1, h2 => by injection h1 with h1; injection h2 with h2; subst h1 h2; rw [List.length_take]; exact Nat.min_le_left _ _
  | x :: a, y :: rs, i + 1, ks, r, h1, h2 => place0_few (a := a) (rs := rs) (i := i) (by simpa [place0] using h1) (by simpa using h2)
  | [], _, i, _, _, h, _ => by simp [place0] at h
  | _ :: _, [], i, _, _, _, h => by simp at h

theorem freeM_mem {a : Places} {home k : Nat} : k ∈ freeM a home ↔ k < home ∧ k ≠ 0 ∧ k ∉ a.flatten := by
  unfold freeM
  rw [List.mem_filter, List.mem_range]
  simp
theorem freeM_nodup (a : Places) (home : Nat) : (freeM a home).Nodup := (List.nodup_range (n := home)).filter _
/-- What is free, and what is taken, are all. -/
theorem freeM_length (a : Places) (home : Nat) : home ≤ (freeM a home).length + a.flatten.length + 1 := by
  have := sub_length (a := List.range home) (b := 0 :: (freeM a home ++ a.flatten)) List.nodup_range (fun x hx => by
    rw [List.mem_range] at hx
    by_cases h0 : x = 0
    · simp [h0]
    · by_cases h1 : x ∈ a.flatten
      · exact List.mem_cons_of_mem _ (List.mem_append_right _ h1)
      · exact List.mem_cons_of_mem _ (List.mem_append_left _ (freeM_mem.2 ⟨hx, h0, h1⟩)))
  rw [List.length_range, List.length_cons, List.length_append] at this
  exact this

theorem fill_mem : ∀ {free : List Nat} {a : Places} {rs : Recs} {x : Nat}, x ∈ (fill free a rs).flatten → x ∈ free ∨ x ∈ a.flatten
  | free, [], _, x, h => by simp [fill] at h
  | free, ks :: a, [], x, h => by simp [fill] at h
  | free, ks :: a, r :: rs, x, h => by
    have h : x ∈ (ks ++ free.take (takesR r - ks.length)) ++ (fill (free.drop (takesR r - ks.length)) a rs).flatten := h
    rcases List.mem_append.1 h with h | h
    · rcases List.mem_append.1 h with h | h
      · exact .inr (List.mem_append_left _ h)
      · exact .inl (List.mem_of_mem_take h)
    · rcases fill_mem h with h | h
      · exact .inl (List.mem_of_mem_drop h)
      · exact .inr (List.mem_append_right _ h)
theorem fill_nodup : ∀ {free : List Nat} {a : Places} {rs : Recs}, (free ++ a.flatten).Nodup → (fill free a rs).flatten.Nodup
  | free, [], _, _ => by simp [fill]
  | free, ks :: a, [], _ => by simp [fill]
  | free, ks :: a, r :: rs, h => by
    show ((ks ++ free.take (takesR r - ks.length)) ++ (fill (free.drop (takesR r - ks.length)) a rs).flatten).Nodup
    generalize takesR r - ks.length = m
    rw [List.flatten_cons, List.nodup_append] at h
    obtain ⟨h1, h2, h3⟩ := h
    rw [List.nodup_append] at h2
    obtain ⟨k1, k2, k3⟩ := h2
    have hf : (free.take m ++ free.drop m).Nodup := by rw [List.take_append_drop]; exact h1
    rw [List.nodup_append] at hf
    obtain ⟨f1, f2, f3⟩ := hf
    rw [List.nodup_append]
    refine ⟨List.nodup_append.2 ⟨k1, f1, fun x hx y hy e => ?_⟩, fill_nodup (List.nodup_append.2 ⟨f2, k2, fun x hx y hy => h3 x (List.mem_of_mem_drop hx) y (List.mem_append_right _ hy)⟩), fun x hx y hy e => ?_⟩
    · exact h3 y (List.mem_of_mem_take hy) x (List.mem_append_left _ hx) e.symm
    · subst e
      rcases fill_mem hy with q | q
      · rcases List.mem_append.1 hx with p | p
        · exact h3 x (List.mem_of_mem_drop q) x (List.mem_append_left _ p) rfl
        · exact f3 x p x q rfl
      · rcases List.mem_append.1 hx with p | p
        · exact k3 x p x q rfl
        · exact h3 x (List.mem_of_mem_take p) x (List.mem_append_right _ q) rfl
theorem fill_length : ∀ {free : List Nat} {a : Places} {rs : Recs}, a.length = rs.length → (fill free a rs).length = rs.length
  | free, [], [], _ => rfl
  | free, ks :: a, r :: rs, h => by show (_ :: fill _ a rs).length = _; simp only [List.length_cons]; rw [fill_length (by simpa using h)]
  | free, [], r :: rs, h => by simp at h
  | free, ks :: a, [], h => by simp at h
theorem fill_takes : ∀ {free : List Nat} {a : Places} {rs : Recs}, a.length = rs.length → (∀ (i : Nat) ks r, a[i]? = some ks → rs[i]? = some r → ks.length ≤ takesR r) → sumT rs ≤ free.length + a.flatten.length →
    ∀ (i : Nat) ks r, (fill free a rs)[i]? = some ks → rs[i]? = some r → ks.length = takesR r
  | free, [], [], _, _, _, i, ks, r, h, _ => by simp [fill] at h
  | free, k0 :: a, r0 :: rs, hl, hk, hs, i, ks, r, h1, h2 => by
    have h0 := hk 0 k0 r0 rfl rfl
    have hs' : takesR r0 + sumT rs ≤ free.length + (k0.length + a.flatten.length) := by
      have := hs
      rwa [List.flatten_cons, List.length_append] at this
    have hsum : a.flatten.length ≤ sumT rs := le_sum (by simpa using hl) (fun i ks r q1 q2 => hk (i + 1) ks r (by simpa using q1) (by simpa using q2))
    cases i with
    | zero =>
      injection h2 with h2
      subst h2
      have h1 : some (k0 ++ free.take (takesR r0 - k0.length)) = some ks := h1
      injection h1 with h1
      subst h1
      rw [List.length_append, List.length_take]
      omega
    | succ i =>
      refine fill_takes (free := free.drop (takesR r0 - k0.length)) (a := a) (rs := rs) (by simpa using hl) (fun i ks r q1 q2 => hk (i + 1) ks r (by simpa using q1) (by simpa using q2)) ?_ i ks r (by simpa [fill] using h1) (by simpa using h2)
      rw [List.length_drop]
      omega
  | free, [], r :: rs, hl, _, _, _, _, _, _, _ => by simp at hl
  | free, ks :: a, [], hl, _, _, _, _, _, _, _ => by simp at hl
where
  le_sum : ∀ {a : Places} {rs : Recs}, a.length = rs.length → (∀ (i : Nat) ks r, a[i]? = some ks → rs[i]? = some r → ks.length ≤ takesR r) → a.flatten.length ≤ sumT rs
    | [], [], _, _ => Nat.le_refl _
    | k0 :: a, r0 :: rs, hl, hk => by
      have h0 := hk 0 k0 r0 rfl rfl
      have ih := le_sum (a := a) (rs := rs) (by simpa using hl) (fun i ks r q1 q2 => hk (i + 1) ks r (by simpa using q1) (by simpa using q2))
      show (k0 ++ a.flatten).length ≤ takesR r0 + sumT rs
      rw [List.length_append]
      omega
    | [], r :: rs, hl, _ => by simp at hl
    | ks :: a, [], hl, _ => by simp at hl
theorem place0_ok {rs : Recs} {had : Places} {home : Nat} (r : rs.length = 41) (p : PlOk had home) : PlOk (place0 had rs) home := by
  have hs := place0_sub had rs
  exact ⟨by rw [place0_length (by rw [r, p.a41]), r], List.Nodup.sublist (hs.cons_cons 0) p.nd, fun k hk => p.lt k (hs.subset hk), p.pos⟩
/-- The places of records that go in may be. -/
theorem place_vld {rs : Recs} {had : Places} {home : Nat} (r : RsOk rs) (p : PlOk had home) (hs : sumT rs + 1 ≤ home) : Vld rs (placeM rs had home) home := by
  have p0 := place0_ok r.r41 p
  have hl : (place0 had rs).length = rs.length := by rw [p0.a41, r.r41]
  have hf := freeM_length (place0 had rs) home
  have h0 := List.nodup_cons.1 p0.nd
  have htk := fill_takes (free := freeM (place0 had rs) home) hl (fun i ks r h1 h2 => place0_few h1 h2) (by omega)
  refine ⟨r.r41, by unfold placeM; rw [fill_length hl, r.r41], r.zero, fun i x ks h1 h2 => ?_, ?_, fun k hk => ?_, p.pos⟩
  · have h3 := htk i ks x h2 h1
    cases x with
    | none => exact List.eq_nil_of_length_eq_zero h3
    | some b => exact ⟨(r.ok i b h1).1, (r.ok i b h1).2, h3⟩
  · rw [List.nodup_cons]
    refine ⟨fun q => ?_, fill_nodup (List.nodup_append.2 ⟨freeM_nodup _ _, h0.2, fun x hx y hy e => ?_⟩)⟩
    · rcases fill_mem q with q | q
      · exact (freeM_mem.1 q).2.1 rfl
      · exact h0.1 q
    · subst e
      exact (freeM_mem.1 hx).2.2 hy
  · rcases fill_mem hk with q | q
    · exact (freeM_mem.1 q).1
    · exact p0.lt k q
end Go.Proofs.YtjajenkagcdhlaaGreat
