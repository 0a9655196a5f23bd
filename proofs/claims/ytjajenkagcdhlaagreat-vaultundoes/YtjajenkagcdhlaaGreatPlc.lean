/- Where records shall lie: on the tracks that they had, and on free ones. -/
import Derived.Test.YtjajenkagcdhlaaGreatRd
namespace Go.Proofs.YtjajenkagcdhlaaGreat
open Go.RowKit
set_option maxRecDepth 100000

/-- Records that may be. -/
structure RsOk (rs : Recs) : Prop where
  r41 : rs.length = 41
  zero : rs[0]? = some none
  ok : ∀ (i : Nat) b, rs[i]? = some (some b) → (∀ x ∈ b, x < 256) ∧ b.length ≤ 60000
theorem Vld.rsOk {rs : Recs} {a : Places} {home : Nat} (v : Vld rs a home) : RsOk rs := ⟨v.r41, v.zero, fun i b hb => by
  obtain ⟨ks, hks⟩ := get_of_lt (l := a) (n := i) (by rw [v.a41, ← v.r41]; exact lt_of_get hb)
  have := v.ok i _ ks hb hks
  exact ⟨this.1, this.2.1⟩⟩
/-- Places that may be. -/
structure PlOk (a : Places) (home : Nat) : Prop where
  a41 : a.length = 41
  nd : (0 :: a.flatten).Nodup
  lt : ∀ k ∈ a.flatten, k < home
  pos : 0 < home
theorem Vld.plOk {rs : Recs} {a : Places} {home : Nat} (v : Vld rs a home) : PlOk a home := ⟨v.a41, v.nd, v.lt, v.pos⟩

def place0 : Places → Recs → Places
  | ks :: a, r :: rs => ks.take (takesR r) :: place0 a rs
  | _, _ => []
def freeM (a : Places) (home : Nat) : List Nat := (List.range home).filter fun k => !(k == 0 || a.flatten.contains k)
def fill : List Nat → Places → Recs → Places
  | free, ks :: a, r :: rs => (ks ++ free.take (takesR r - ks.length)) :: fill (free.drop (takesR r - ks.length)) a rs
  | _, _, _ => []
def placeM (rs : Recs) (had : Places) (home : Nat) : Places := fill (freeM (place0 had rs) home) (place0 had rs) rs

theorem place0_length : ∀ {a : Places} {rs : Recs}, a.length = rs.length → (place0 a rs).length = rs.length
  | [], [], _ => rfl
  | ks :: a, r :: rs, h => by show (_ :: place0 a rs).length = _; simp only [List.length_cons]; rw [place0_length (by simpa using h)]
  | [], r :: rs, h => by simp at h
  | ks :: a, [], h => by simp at h
theorem place0_get : ∀ {a : Places} {rs : Recs} {i : Nat} {ks : List Nat} {r : Rec}, a[i]? = some ks → rs[i]? = some r → (place0 a rs)[i]? = some (ks.take (takesR r))
  | x :: a, y :: rs, 0, ks, r, h1, h2 => by injection h1 with h1; injection h2 with h2; subst h1 h2; rfl
  | x :: a, y :: rs, i + 1, ks, r, h1, h2 => by
    show (place0 a rs)[i]? = _
    exact place0_get (by simpa using h1) (by simpa using h2)
  | [], _, i, _, _, h, _ => by simp at h
  | _ :: _, [], i, _, _, _, h => by simp at h
theorem place0_sub : ∀ (a : Places) (rs : Recs), (place0 a rs).flatten.Sublist a.flatten
  | [], _ => by simp [place0]
  | ks :: a, [] => by simp [place0]
  | ks :: a, r :: rs => by
    show (ks.take (takesR r) ++ (place0 a rs).flatten).Sublist (ks ++ a.flatten)
    exact (List.take_sublist _ _).append (place0_sub a rs)
theorem place0_few : ∀ {a : Places} {rs : Recs} {i : Nat} {ks : List Nat} {r : Rec}, (place0 a rs)[i]? = some ks → rs[i]? = some r → ks.length ≤ takesR r
  | x :: a, y :: rs, 0, ks, r, h1, h2 => by injection h1 with h1; injection h2 with h2; subst h1 h2; rw [List.length_take]; exact Nat.min_le_left _ _
  | x :: a, y :: rs, i + 1, ks, r, h1, h2 => place0_few (a := a) (rs := rs) (i := i) (by simpa [place0] using h1) (by simpa using h2)
  | [], _, i, _, _, h, _ => by simp [place0] at h
  | _ :: _, [], i, _, _, _, h => by simp at h

theorem freeM_mem {a : Places} {home k : Nat} : k ∈ freeM a home ↔ k < home ∧ k ≠ 0 ∧ k ∉ a.flatten := by
  unfold freeM
  rw [List.mem_filter, List.mem_range]
  simp
theorem freeM_nodup (a : Places) (home : Nat) : (freeM a home).Nodup := (List.nodup_range (n := home)).filter _
/-- What is free, and what is taken, are all. -/
theorem freeM_length (a : Places) (home : Nat) : home ≤ (freeM a home).length + a.flatten.length + 1 := by
  have := sub_length (a := List.range home) (b := 0 :: (freeM a home ++ a.flatten)) List.nodup_range (fun x hx => by
    rw [List.mem_range] at hx
    by_cases h0 : x = 0
    · simp [h0]
    · by_cases h1 : x ∈ a.flatten
      · exact List.mem_cons_of_mem _ (List.mem_append_right _ h1)
      · exact List.mem_cons_of_mem _ (List.mem_append_left _ (freeM_mem.2 ⟨hx, h0, h1⟩)))
  rw [List.length_range, List.length_cons, List.length_append] at this
  exact this

theorem fill_mem : ∀ {free : List Nat} {a : Places} {rs : Recs} {x : Nat}, x ∈ (fill free a rs).flatten → x ∈ free ∨ x ∈ a.flatten
  | free, [], _, x, h => by simp [fill] at h
  | free, ks :: a, [], x, h => by simp [fill] at h
  | free, ks :: a, r :: rs, x, h => by
    have h : x ∈ (ks ++ free.take (takesR r - ks.length)) ++ (fill (free.drop (takesR r - ks.length)) a rs).flatten := h
    rcases List.mem_append.1 h with h | h
    · rcases List.mem_append.1 h with h | h
      · exact .inr (List.mem_append_left _ h)
      · exact .inl (List.mem_of_mem_take h)
    · rcases fill_mem h with h | h
      · exact .inl (List.mem_of_mem_drop h)
      · exact .inr (List.mem_append_right _ h)
theorem fill_nodup : ∀ {free : List Nat} {a : Places} {rs : Recs}, (free ++ a.flatten).Nodup → (fill free a rs).flatten.Nodup
  | free, [], _, _ => by simp [fill]
  | free, ks :: a, [], _ => by simp [fill]
  | free, ks :: a, r :: rs, h => by
    show ((ks ++ free.take (takesR r - ks.length)) ++ (fill (free.drop (takesR r - ks.length)) a rs).flatten).Nodup
    generalize takesR r - ks.length = m
    rw [List.flatten_cons, List.nodup_append] at h
    obtain ⟨h1, h2, h3⟩ := h
    rw [List.nodup_append] at h2
    obtain ⟨k1, k2, k3⟩ := h2
    have hf : (free.take m ++ free.drop m).Nodup := by rw [List.take_append_drop]; exact h1
    rw [List.nodup_append] at hf
    obtain ⟨f1, f2, f3⟩ := hf
    rw [List.nodup_append]
    refine ⟨List.nodup_append.2 ⟨k1, f1, fun x hx y hy e => ?_⟩, fill_nodup (List.nodup_append.2 ⟨f2, k2, fun x hx y hy => h3 x (List.mem_of_mem_drop hx) y (List.mem_append_right _ hy)⟩), fun x hx y hy e => ?_⟩
    · exact h3 y (List.mem_of_mem_take hy) x (List.mem_append_left _ hx) e.symm
    · subst e
      rcases fill_mem hy with q | q
      · rcases List.mem_append.1 hx with p | p
        · exact h3 x (List.mem_of_mem_drop q) x (List.mem_append_left _ p) rfl
        · exact f3 x p x q rfl
      · rcases List.mem_append.1 hx with p | p
        · exact k3 x p x q rfl
        · exact h3 x (List.mem_of_mem_take p) x (List.mem_append_right _ q) rfl
theorem fill_length : ∀ {free : List Nat} {a : Places} {rs : Recs}, a.length = rs.length → (fill free a rs).length = rs.length
  | free, [], [], _ => rfl
  | free, ks :: a, r :: rs, h => by show (_ :: fill _ a rs).length = _; simp only [List.length_cons]; rw [fill_length (by simpa using h)]
  | free, [], r :: rs, h => by simp at h
  | free, ks :: a, [], h => by simp at h
theorem fill_takes : ∀ {free : List Nat} {a : Places} {rs : Recs}, a.length = rs.length → (∀ (i : Nat) ks r, a[i]? = some ks → rs[i]? = some r → ks.length ≤ takesR r) → sumT rs ≤ free.length + a.flatten.length →
    ∀ (i : Nat) ks r, (fill free a rs)[i]? = some ks → rs[i]? = some r → ks.length = takesR r
  | free, [], [], _, _, _, i, ks, r, h, _ => by simp [fill] at h
  | free, k0 :: a, r0 :: rs, hl, hk, hs, i, ks, r, h1, h2 => by
    have h0 := hk 0 k0 r0 rfl rfl
    have hs' : takesR r0 + sumT rs ≤ free.length + (k0.length + a.flatten.length) := by
      have := hs
      rwa [List.flatten_cons, List.length_append] at this
    have hsum : a.flatten.length ≤ sumT rs := le_sum (by simpa using hl) (fun i ks r q1 q2 => hk (i + 1) ks r (by simpa using q1) (by simpa using q2))
    cases i with
    | zero =>
      injection h2 with h2
      subst h2
      have h1 : some (k0 ++ free.take (takesR r0 - k0.length)) = some ks := h1
      injection h1 with h1
      subst h1
      rw [List.length_append, List.length_take]
      omega
    | succ i =>
      refine fill_takes (free := free.drop (takesR r0 - k0.length)) (a := a) (rs := rs) (by simpa using hl) (fun i ks r q1 q2 => hk (i + 1) ks r (by simpa using q1) (by simpa using q2)) ?_ i ks r (by simpa [fill] using h1) (by simpa using h2)
      rw [List.length_drop]
      omega
  | free, [], r :: rs, hl, _, _, _, _, _, _, _ => by simp at hl
  | free, ks :: a, [], hl, _, _, _, _, _, _, _ => by simp at hl
where
  le_sum : ∀ {a : Places} {rs : Recs}, a.length = rs.length → (∀ (i : Nat) ks r, a[i]? = some ks → rs[i]? = some r → ks.length ≤ takesR r) → a.flatten.length ≤ sumT rs
    | [], [], _, _ => Nat.le_refl _
    | k0 :: a, r0 :: rs, hl, hk => by
      have h0 := hk 0 k0 r0 rfl rfl
      have ih := le_sum (a := a) (rs := rs) (by simpa using hl) (fun i ks r q1 q2 => hk (i + 1) ks r (by simpa using q1) (by simpa using q2))
      show (k0 ++ a.flatten).length ≤ takesR r0 + sumT rs
      rw [List.length_append]
      omega
    | [], r :: rs, hl, _ => by simp at hl
    | ks :: a, [], hl, _ => by simp at hl
theorem place0_ok {rs : Recs} {had : Places} {home : Nat} (r : rs.length = 41) (p : PlOk had home) : PlOk (place0 had rs) home := by
  have hs := place0_sub had rs
  exact ⟨by rw [place0_length (by rw [r, p.a41]), r], List.Nodup.sublist (hs.cons_cons 0) p.nd, fun k hk => p.lt k (hs.subset hk), p.pos⟩
/-- The places of records that go in may be. -/
theorem place_vld {rs : Recs} {had : Places} {home : Nat} (r : RsOk rs) (p : PlOk had home) (hs : sumT rs + 1 ≤ home) : Vld rs (placeM rs had home) home := by
  have p0 := place0_ok r.r41 p
  have hl : (place0 had rs).length = rs.length := by rw [p0.a41, r.r41]
  have hf := freeM_length (place0 had rs) home
  have h0 := List.nodup_cons.1 p0.nd
  have htk := fill_takes (free := freeM (place0 had rs) home) hl (fun i ks r h1 h2 => place0_few h1 h2) (by omega)
  refine ⟨r.r41, by unfold placeM; rw [fill_length hl, r.r41], r.zero, fun i x ks h1 h2 => ?_, ?_, fun k hk => ?_, p.pos⟩
  · have h3 := htk i ks x h2 h1
    cases x with
    | none => exact List.eq_nil_of_length_eq_zero h3
    | some b => exact ⟨(r.ok i b h1).1, (r.ok i b h1).2, h3⟩
  · rw [List.nodup_cons]
    refine ⟨fun q => ?_, fill_nodup (List.nodup_append.2 ⟨freeM_nodup _ _, h0.2, fun x hx y hy e => ?_⟩)⟩
    · rcases fill_mem q with q | q
      · exact (freeM_mem.1 q).2.1 rfl
      · exact h0.1 q
    · subst e
      exact (freeM_mem.1 hx).2.2 hy
  · rcases fill_mem hk with q | q
    · exact (freeM_mem.1 q).1
    · exact p0.lt k q
end Go.Proofs.YtjajenkagcdhlaaGreat
