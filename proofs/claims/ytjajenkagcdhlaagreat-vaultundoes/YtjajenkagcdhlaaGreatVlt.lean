/- A vault as plain lists: records, where they lie, what stands on the home tracks; what is read of them. -/
import Derived.Test.YtjajenkagcdhlaaGreatLiveW
namespace Go.Proofs.YtjajenkagcdhlaaGreat
open Go.RowKit
set_option maxRecDepth 100000

abbrev Rec := Option (List Nat)
abbrev Recs := List Rec
abbrev Places := List (List Nat)

/-- How many tracks so many bytes take. -/
def takesN (n : Nat) : Nat := max 1 ((n + 79) / 80)
def takesR : Rec → Nat
  | none => 0
  | some b => takesN b.length
def sumT : Recs → Nat
  | [] => 0
  | r :: rs => takesR r + sumT rs
def bytesOf (r : Rec) : List Nat := r.getD []
def firstOf (ks : List Nat) : Nat := ks.headD 0
def rootText (a : Places) : List Nat := [118, 108, 116, 49] ++ ((a.drop 1).map fun ks => high (firstOf ks) 2).flatten
def rootPage (a : Places) : List Nat := track (rootText a)
def pageText (k : Nat) (b : List Nat) : List Nat := high k 2 ++ (high b.length 2 ++ b.take 80)
def recPage (k : Nat) (b : List Nat) : List Nat := track (pageText k b)
/-- The tracks of a record. -/
def recPages : List Nat → List Nat → List Ent
  | [], _ => []
  | k :: ks, b => (k, recPage (firstOf ks) b) :: recPages ks (b.drop 80)
def allPages : Places → Recs → List Ent
  | ks :: ps, r :: rs => recPages ks (bytesOf r) ++ allPages ps rs
  | _, _ => []
def layM (rs : Recs) (a : Places) : List Ent := (0, rootPage a) :: allPages a rs
def layW (rs : Recs) (a : Places) (home : Nat) : Wri := took (List.replicate home none) (layM rs a)

/-- May this record lie there? -/
def RecOk : Rec → List Nat → Prop
  | none, ks => ks = []
  | some b, ks => (∀ x ∈ b, x < 256) ∧ b.length ≤ 60000 ∧ ks.length = takesN b.length
structure Vld (rs : Recs) (a : Places) (home : Nat) : Prop where
  r41 : rs.length = 41
  a41 : a.length = 41
  zero : rs[0]? = some none
  ok : ∀ (i : Nat) r ks, rs[i]? = some r → a[i]? = some ks → RecOk r ks
  nd : (0 :: a.flatten).Nodup
  lt : ∀ k ∈ a.flatten, k < home
  pos : 0 < home
/-- These tracks stand there. -/
def Holds (H : List (List Nat)) (e : List Ent) : Prop := ∀ x ∈ e, H[x.1]? = some x.2

theorem takesN_pos (n : Nat) : 1 ≤ takesN n := Nat.le_max_left _ _
theorem takesN_room (n : Nat) : n ≤ takesN n * 80 := by unfold takesN; omega
theorem takesN_le {n : Nat} (h : n ≤ 60000) : takesN n ≤ 750 := by unfold takesN; omega

theorem recPages_keys : ∀ (ks : List Nat) (b : List Nat), (recPages ks b).map (·.1) = ks
  | [], _ => rfl
  | k :: ks, b => by show k :: (recPages ks (b.drop 80)).map (·.1) = _; rw [recPages_keys ks]
theorem allPages_keys : ∀ (ps : Places) (rs : Recs), ps.length = rs.length → (allPages ps rs).map (·.1) = ps.flatten
  | [], [], _ => rfl
  | ks :: ps, r :: rs, h => by
    show (recPages ks (bytesOf r) ++ allPages ps rs).map (·.1) = _
    rw [List.map_append, recPages_keys, allPages_keys ps rs (by simpa using h), List.flatten_cons]
  | [], r :: rs, h => by simp at h
  | ks :: ps, [], h => by simp at h
theorem layM_keys {rs : Recs} {a : Places} (h : a.length = rs.length) : (layM rs a).map (·.1) = 0 :: a.flatten := by
  show 0 :: (allPages a rs).map (·.1) = _
  rw [allPages_keys a rs h]

/-- What a run of stores with unlike keys leaves. -/
theorem took_get : ∀ {e : List Ent} {ws : Wri}, (e.map (·.1)).Nodup → (∀ x ∈ e, x.1 < ws.length) → ∀ x ∈ e, (took ws e)[x.1]? = some (some x.2)
  | [], _, _, _, x, hx => by cases hx
  | y :: e, ws, nd, hl, x, hx => by
    rw [List.map_cons, List.nodup_cons] at nd
    show (took (ws.set y.1 (some y.2)) e)[x.1]? = _
    rcases List.mem_cons.1 hx with rfl | hx
    · rw [took_other e _ (fun z hz q => nd.1 (List.mem_map.2 ⟨z, hz, q⟩))]
      exact List.getElem?_set_self (hl x (by simp))
    · exact took_get nd.2 (fun z hz => by rw [List.length_set]; exact hl z (by simp [hz])) x hx
where
  took_other : ∀ (e : List Ent) (ws : Wri) {k : Nat}, (∀ x ∈ e, x.1 ≠ k) → (took ws e)[k]? = ws[k]?
    | [], _, _, _ => rfl
    | y :: e, ws, k, h => by
      show (took (ws.set y.1 (some y.2)) e)[k]? = _
      rw [took_other e _ (fun z hz => h z (by simp [hz])), List.getElem?_set_ne (h y (by simp))]
theorem took_other {e : List Ent} {ws : Wri} {k : Nat} (h : ∀ x ∈ e, x.1 ≠ k) : (took ws e)[k]? = ws[k]? := took_get.took_other e ws h
/-- What stands somewhere was laid there. -/
theorem took_mem {e : List Ent} {n k : Nat} {b : List Nat} (nd : (e.map (·.1)).Nodup) (hl : ∀ x ∈ e, x.1 < n) (h : (took (List.replicate n none) e)[k]? = some (some b)) : (k, b) ∈ e := by
  by_cases hk : ∃ x ∈ e, x.1 = k
  · obtain ⟨x, hx, rfl⟩ := hk
    rw [took_get nd (fun x hx => by rw [List.length_replicate]; exact hl x hx) x hx] at h
    injection h with h; injection h with h
    subst h
    exact hx
  · rw [took_other (fun x hx q => hk ⟨x, hx, q⟩), List.getElem?_replicate] at h
    split at h <;> cases h

theorem Vld.len {rs : Recs} {a : Places} {home : Nat} (v : Vld rs a home) : a.length = rs.length := by rw [v.r41, v.a41]
theorem Vld.keys_lt {rs : Recs} {a : Places} {home : Nat} (v : Vld rs a home) : ∀ x ∈ layM rs a, x.1 < home := fun x hx => by
  have : x.1 ∈ (layM rs a).map (·.1) := List.mem_map.2 ⟨x, hx, rfl⟩
  rw [layM_keys v.len] at this
  rcases List.mem_cons.1 this with h | h
  · rw [h]; exact v.pos
  · exact v.lt _ h
theorem Vld.keys_nd {rs : Recs} {a : Places} {home : Nat} (v : Vld rs a home) : ((layM rs a).map (·.1)).Nodup := by rw [layM_keys v.len]; exact v.nd
theorem layW_length (rs : Recs) (a : Places) (home : Nat) : (layW rs a home).length = home := by unfold layW; rw [took_length, List.length_replicate]
theorem Vld.layW_get {rs : Recs} {a : Places} {home : Nat} (v : Vld rs a home) {x : Ent} (hx : x ∈ layM rs a) : (layW rs a home)[x.1]? = some (some x.2) :=
  took_get v.keys_nd (fun y hy => by rw [List.length_replicate]; exact v.keys_lt y hy) x hx
theorem Vld.layW_mem {rs : Recs} {a : Places} {home k : Nat} {b : List Nat} (v : Vld rs a home) (h : (layW rs a home)[k]? = some (some b)) : (k, b) ∈ layM rs a :=
  took_mem v.keys_nd v.keys_lt h

/-- What must be written where tracks are others than they were. -/
def otherAt (was now : Wri) (k : Nat) : List Ent := match now.getD k none with
  | none => []
  | some b => if was.getD k none = some b then [] else [(k, b)]
def othersTo (was now : Wri) : Nat → List Ent
  | 0 => []
  | k + 1 => othersTo was now k ++ otherAt was now k
def othersM (was now : Wri) : List Ent := othersTo was now now.length
theorem otherAt_mem {was now : Wri} {k : Nat} {x : Ent} (h : x ∈ otherAt was now k) : x.1 = k ∧ now.getD k none = some x.2 ∧ was.getD k none ≠ some x.2 := by
  unfold otherAt at h
  cases hn : now.getD k none with
  | none => rw [hn] at h; cases h
  | some b =>
    rw [hn] at h
    simp only at h
    split at h
    · cases h
    · rename_i hw
      obtain rfl := List.mem_singleton.1 h
      exact ⟨rfl, rfl, hw⟩
theorem othersTo_mem {was now : Wri} {x : Ent} : ∀ {k : Nat}, x ∈ othersTo was now k ↔ x.1 < k ∧ now.getD x.1 none = some x.2 ∧ was.getD x.1 none ≠ some x.2
  | 0 => by simp [othersTo]
  | k + 1 => by
    show x ∈ othersTo was now k ++ otherAt was now k ↔ _
    rw [List.mem_append, othersTo_mem]
    constructor
    · rintro (⟨h1, h2⟩ | h)
      · exact ⟨by omega, h2⟩
      · obtain ⟨rfl, h2⟩ := otherAt_mem h
        exact ⟨by omega, h2⟩
    · rintro ⟨h1, h2, h3⟩
      rcases Nat.lt_or_ge x.1 k with q | q
      · exact .inl ⟨q, h2, h3⟩
      · right
        obtain ⟨x1, x2⟩ := x
        obtain rfl : x1 = k := by simp only at h1 q; omega
        unfold otherAt
        simp only at h2 h3
        rw [h2]
        simp only
        rw [if_neg h3]
        simp
theorem othersTo_nodup (was now : Wri) : ∀ k, ((othersTo was now k).map (·.1)).Nodup
  | 0 => by simp [othersTo]
  | k + 1 => by
    show ((othersTo was now k ++ otherAt was now k).map (·.1)).Nodup
    rw [List.map_append, List.nodup_append]
    refine ⟨othersTo_nodup was now k, ?_, ?_⟩
    · unfold otherAt
      split
      · simp
      · split <;> simp
    · intro i hi j hj
      obtain ⟨x, hx, rfl⟩ := List.mem_map.1 hi
      obtain ⟨y, hy, rfl⟩ := List.mem_map.1 hj
      have h1 := (othersTo_mem.1 hx).1
      have h2 := (otherAt_mem hy).1
      omega
theorem othersTo_length (was now : Wri) : ∀ k, (othersTo was now k).length ≤ k
  | 0 => Nat.le_refl _
  | k + 1 => by
    have h1 := othersTo_length was now k
    have h2 : (otherAt was now k).length ≤ 1 := by
      unfold otherAt
      split
      · simp
      · split <;> simp
    show (othersTo was now k ++ otherAt was now k).length ≤ _
    rw [List.length_append]
    omega
/-- As many ps there are tracks in it, at most. -/
theorem sub_length {α : Type} [DecidableEq α] : ∀ {a b : List α}, a.Nodup → (∀ x ∈ a, x ∈ b) → a.length ≤ b.length
  | [], _, _, _ => Nat.zero_le _
  | x :: a, b, nd, h => by
    rw [List.nodup_cons] at nd
    have hx : x ∈ b := h x (by simp)
    have h1 : (b.erase x).length = b.length - 1 := List.length_erase_of_mem hx
    have h2 := sub_length (b := b.erase x) nd.2 (fun y hy => (List.mem_erase_of_ne (fun e => nd.1 (by rw [← e]; exact hy))).2 (h y (by simp [hy])))
    have h3 : 0 < b.length := List.length_pos_of_mem hx
    simp only [List.length_cons]
    omega
theorem flatten_sum : ∀ {a : Places} {rs : Recs}, (∀ (i : Nat) r ks, rs[i]? = some r → a[i]? = some ks → RecOk r ks) → a.length = rs.length → a.flatten.length = sumT rs
  | [], [], _, _ => rfl
  | ks :: a, r :: rs, h, hl => by
    have h0 := h 0 r ks rfl rfl
    have ih := flatten_sum (a := a) (rs := rs) (fun i r ks h1 h2 => h (i + 1) r ks h1 h2) (by simpa using hl)
    have hk : ks.length = takesR r := by
      cases r with
      | none => have h0' : ks = [] := h0; subst h0'; rfl
      | some b => exact h0.2.2
    show (ks ++ a.flatten).length = takesR r + sumT rs
    rw [List.length_append, ih, hk]
  | [], r :: rs, _, hl => by simp at hl
  | ks :: a, [], _, hl => by simp at hl
theorem Vld.sum {rs : Recs} {a : Places} {home : Nat} (v : Vld rs a home) : a.flatten.length = sumT rs := flatten_sum v.ok v.len
theorem Vld.fits {rs : Recs} {a : Places} {home : Nat} (v : Vld rs a home) : sumT rs + 1 ≤ home := by
  have h := sub_length (b := List.range home) v.nd (fun x hx => by
    rw [List.mem_range]
    rcases List.mem_cons.1 hx with rfl | hx
    · exact v.pos
    · exact v.lt x hx)
  rw [List.length_range, List.length_cons, v.sum] at h
  exact h
theorem Vld.others_length {rs : Recs} {a : Places} {home : Nat} (v : Vld rs a home) (was : Wri) : (othersM was (layW rs a home)).length ≤ sumT rs + 1 := by
  have h := sub_length (a := (othersM was (layW rs a home)).map (·.1)) (b := 0 :: a.flatten) (othersTo_nodup _ _ _) (fun k hk => by
    obtain ⟨x, hx, rfl⟩ := List.mem_map.1 hk
    have h1 := othersTo_mem.1 hx
    have h2 : (layW rs a home)[x.1]? = some (some x.2) := by
      rw [List.getD_eq_getElem?_getD] at h1
      cases hq : (layW rs a home)[x.1]? with
      | none => rw [hq] at h1; cases h1.2.1
      | some y => rw [hq] at h1; exact congrArg some h1.2.1
    have h3 : x.1 ∈ (layM rs a).map (·.1) := List.mem_map.2 ⟨_, v.layW_mem h2, rfl⟩
    rwa [layM_keys v.len] at h3)
  rw [List.length_map, List.length_cons, v.sum] at h
  exact h
/-- What a Keep writes makes the tracks those of the records. -/
theorem keep_holds {N : List (List Nat)} {rs rs' : Recs} {a a' : Places} (v : Vld rs a N.length) (v' : Vld rs' a' N.length) (h : Holds N (layM rs a)) :
    Holds (tookH N (othersM (layW rs a N.length) (layW rs' a' N.length))) (layM rs' a') := by
  intro x hx
  have h1 := v'.layW_get hx
  have hlt := v'.keys_lt x hx
  have hlen := layW_length rs' a' N.length
  by_cases hw : (layW rs a N.length).getD x.1 none = some x.2
  · have h2 : (layW rs a N.length)[x.1]? = some (some x.2) := by
      rw [List.getD_eq_getElem?_getD] at hw
      cases hq : (layW rs a N.length)[x.1]? with
      | none => rw [hq] at hw; cases hw
      | some y => rw [hq] at hw; exact congrArg some hw
    have h3 := h _ (v.layW_mem h2)
    rw [tookH_other (fun y hy q => ?_)]
    · exact h3
    · have h4 := othersTo_mem.1 hy
      rw [q, getD_of h1] at h4
      have e : x.2 = y.2 := by injection h4.2.1
      rw [e] at hw
      exact h4.2.2 hw
  · refine tookH_get (othersTo_nodup _ _ _) (fun y hy => ?_) x (othersTo_mem.2 ⟨by rw [hlen]; exact hlt, getD_of h1, hw⟩)
    have h4 := (othersTo_mem.1 hy).1
    rwa [hlen] at h4
where
  tookH_other : ∀ {e : List Ent} {H : List (List Nat)} {k : Nat}, (∀ x ∈ e, x.1 ≠ k) → (tookH H e)[k]? = H[k]?
    | [], _, _, _ => rfl
    | y :: e, H, k, h => by
      show (tookH (H.set y.1 y.2) e)[k]? = _
      rw [tookH_other (fun z hz => h z (by simp [hz])), List.getElem?_set_ne (h y (by simp))]
  tookH_get : ∀ {e : List Ent} {H : List (List Nat)}, (e.map (·.1)).Nodup → (∀ x ∈ e, x.1 < H.length) → ∀ x ∈ e, (tookH H e)[x.1]? = some x.2
    | [], _, _, _, x, hx => by cases hx
    | y :: e, H, nd, hl, x, hx => by
      rw [List.map_cons, List.nodup_cons] at nd
      show (tookH (H.set y.1 y.2) e)[x.1]? = _
      rcases List.mem_cons.1 hx with rfl | hx
      · rw [tookH_other (fun z hz q => nd.1 (List.mem_map.2 ⟨z, hz, q⟩))]
        exact List.getElem?_set_self (hl x (by simp))
      · exact tookH_get nd.2 (fun z hz => by rw [List.length_set]; exact hl z (by simp [hz])) x hx
/-- Where nothing must be written, the tracks are those of the records. -/
theorem keep_none {N : List (List Nat)} {rs rs' : Recs} {a a' : Places} (v : Vld rs a N.length) (v' : Vld rs' a' N.length) (h : Holds N (layM rs a)) (h0 : othersM (layW rs a N.length) (layW rs' a' N.length) = []) : Holds N (layM rs' a') := by
  have := keep_holds v v' h
  rwa [h0] at this
end Go.Proofs.YtjajenkagcdhlaaGreat
