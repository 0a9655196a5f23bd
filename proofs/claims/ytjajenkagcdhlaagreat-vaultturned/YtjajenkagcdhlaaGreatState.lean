/- A drum as plain lists: what is settled, what is afloat; what each call makes of it. -/
import Derived.Test.YtjajenkagcdhlaaGreatOwn
namespace Go.Proofs.YtjajenkagcdhlaaGreat
open Go.RowKit
set_option maxRecDepth 100000

/-- Runs of z, one behind the other. -/
theorem flatten_get {α : Type} (z : Nat) : ∀ (L : List (List α)) (k j : Nat), (∀ b ∈ L, b.length = z) → j < z → L.flatten[k * z + j]? = (L[k]?).bind (fun b => b[j]?)
  | [], k, j, _, _ => by simp
  | b :: r, 0, j, h, hj => by
    have hb : b.length = z := h b (by simp)
    simp only [List.flatten_cons, Nat.zero_mul, Nat.zero_add, List.getElem?_cons_zero, Option.bind_some]
    rw [List.getElem?_append_left (by omega)]
  | b :: r, k + 1, j, h, hj => by
    have hb : b.length = z := h b (by simp)
    have ih := flatten_get z r k j (fun x hx => h x (by simp [hx])) hj
    simp only [List.flatten_cons, List.getElem?_cons_succ]
    rw [List.getElem?_append_right (by rw [hb, Nat.add_mul]; omega), hb, show (k + 1) * z + j - z = k * z + j by rw [Nat.add_mul]; omega]
    exact ih
theorem flatten_length {α : Type} (z : Nat) : ∀ (L : List (List α)), (∀ b ∈ L, b.length = z) → L.flatten.length = L.length * z
  | [], _ => by simp
  | b :: r, h => by
    rw [List.flatten_cons, List.length_append, flatten_length z r (fun x hx => h x (by simp [hx])), h b (by simp), List.length_cons, Nat.add_mul]
    omega
theorem flatten_splice {α : Type} (z : Nat) : ∀ (L : List (List α)) (k : Nat) (b : List α), (∀ b ∈ L, b.length = z) → b.length = z → k < L.length → splice L.flatten (k * z) b = (L.set k b).flatten
  | [], k, b, _, _, hk => absurd hk (Nat.not_lt_zero _)
  | c :: r, 0, b, h, hb, _ => by
    have hc : c.length = z := h c (by simp)
    simp only [splice, Nat.zero_mul, List.take_zero, List.nil_append, List.flatten_cons, Nat.zero_add, List.set_cons_zero]
    rw [hb, ← hc, List.drop_left]
  | c :: r, k + 1, b, h, hb, hk => by
    have hc : c.length = z := h c (by simp)
    have ih := flatten_splice z r k b (fun x hx => h x (by simp [hx])) hb (by simpa using hk)
    simp only [List.flatten_cons, List.set_cons_succ]
    rw [← ih]
    unfold splice
    have e1 : (k + 1) * z = c.length + k * z := by rw [hc, Nat.add_mul]; omega
    rw [e1, List.take_append, List.take_of_length_le (by omega), show c.length + k * z - c.length = k * z by omega, List.append_assoc]
    congr 2
    rw [Nat.add_assoc, List.drop_append, List.drop_eq_nil_of_le (by omega), List.nil_append, show c.length + (k * z + b.length) - c.length = k * z + b.length by omega]

/-- A track: 96 bytes. -/
structure Trk (b : List Nat) : Prop where
  byte : ∀ x ∈ b, x < 256
  len : b.length = 96

/-- A drum. -/
structure DS where
  T : List (List Nat)
  A : List (Nat × List Nat)
  left : Option Nat
  down : Bool
  turns : Nat

/-- The tracks with Lays over them. -/
def over (T : List (List Nat)) (A : List (Nat × List Nat)) : List (List Nat) := A.foldl (fun T x => T.set x.1 x.2) T
def DS.seen (D : DS) : List (List Nat) := over D.T D.A
theorem over_snoc (T : List (List Nat)) (A : List (Nat × List Nat)) (x : Nat × List Nat) : over T (A ++ [x]) = (over T A).set x.1 x.2 := by simp [over]
theorem over_length (T : List (List Nat)) : ∀ A : List (Nat × List Nat), (over T A).length = T.length := fun A => by
  induction A generalizing T with
  | nil => rfl
  | cons x r ih => show (over (T.set x.1 x.2) r).length = _; rw [ih, List.length_set]
theorem over_trk {T : List (List Nat)} (h : ∀ b ∈ T, Trk b) : ∀ A : List (Nat × List Nat), (∀ x ∈ A, Trk x.2) → ∀ b ∈ over T A, Trk b := fun A => by
  induction A generalizing T with
  | nil => exact fun _ => h
  | cons x r ih =>
    intro hA
    refine ih (T := T.set x.1 x.2) (fun b hb => ?_) (fun y hy => hA y (by simp [hy]))
    rcases List.mem_or_eq_of_mem_set hb with h1 | rfl
    · exact h b h1
    · exact hA x (by simp)
/-- A track that no Lay lies on. -/
theorem over_other (T : List (List Nat)) (k : Nat) : ∀ A : List (Nat × List Nat), (∀ x ∈ A, x.1 ≠ k) → (over T A)[k]? = T[k]? := fun A => by
  induction A generalizing T with
  | nil => exact fun _ => rfl
  | cons x r ih =>
    intro hA
    show (over (T.set x.1 x.2) r)[k]? = _
    rw [ih _ (fun y hy => hA y (by simp [hy])), List.getElem?_set_ne (hA x (by simp))]

/-- The bytes of a track of which the first so many are laid. -/
def mix (n : Nat) (b t : List Nat) : List Nat := b.take n ++ t.drop n
theorem mix_trk {n : Nat} {b t : List Nat} (hb : Trk b) (ht : Trk t) (hn : n ≤ 96) : Trk (mix n b t) := by
  refine ⟨fun x hx => ?_, ?_⟩
  · rcases List.mem_append.1 hx with h | h
    · exact hb.byte x (List.mem_of_mem_take h)
    · exact ht.byte x (List.mem_of_mem_drop h)
  · have := hb.len; have := ht.len
    simp [mix]; omega
theorem mix_all {b t : List Nat} (hb : Trk b) (ht : Trk t) : mix 96 b t = b := by
  unfold mix
  rw [List.take_of_length_le (by rw [hb.len]; exact Nat.le_refl _), List.drop_eq_nil_of_le (by rw [ht.len]; exact Nat.le_refl _), List.append_nil]
theorem mix_none (b t : List Nat) : mix 0 b t = t := by simp [mix]

/-- A fall: of the first n Lays so many bytes are done. -/
def falls (part : Nat → Nat) (T : List (List Nat)) (A : List (Nat × List Nat)) : Nat → List (List Nat)
  | 0 => T
  | n + 1 => (falls part T A n).set (A.getD n (0, [])).1 (mix (part n) (A.getD n (0, [])).2 ((falls part T A n).getD (A.getD n (0, [])).1 []))
theorem falls_length (part : Nat → Nat) (T : List (List Nat)) (A : List (Nat × List Nat)) : ∀ n, (falls part T A n).length = T.length
  | 0 => rfl
  | n + 1 => by rw [falls, List.length_set, falls_length part T A n]
theorem getD_of {α : Type} {l : List α} {n : Nat} {x d : α} (h : l[n]? = some x) : l.getD n d = x := by simp [h]
theorem mem_of_get {α : Type} {l : List α} {n : Nat} {x : α} (h : l[n]? = some x) : x ∈ l := List.mem_of_getElem? h
theorem get_of_lt {α : Type} {l : List α} {n : Nat} (h : n < l.length) : ∃ x, l[n]? = some x := ⟨_, List.getElem?_eq_getElem h⟩
theorem lt_of_get {α : Type} {l : List α} {n : Nat} {x : α} (h : l[n]? = some x) : n < l.length := (List.getElem?_eq_some_iff.1 h).1

theorem falls_trk {part : Nat → Nat} {T : List (List Nat)} {A : List (Nat × List Nat)} (hp : ∀ i, part i ≤ 96) (hT : ∀ b ∈ T, Trk b) (hA : ∀ x ∈ A, x.1 < T.length ∧ Trk x.2) : ∀ n, n ≤ A.length → ∀ b ∈ falls part T A n, Trk b
  | 0, _ => hT
  | n + 1, hn => fun b hb => by
    have ih := falls_trk hp hT hA n (by omega)
    obtain ⟨x, hx⟩ := get_of_lt (l := A) (n := n) (by omega)
    have hx' := hA x (mem_of_get hx)
    rw [falls, getD_of hx] at hb
    obtain ⟨t, ht⟩ := get_of_lt (l := falls part T A n) (n := x.1) (by rw [falls_length]; exact hx'.1)
    rw [getD_of ht] at hb
    rcases List.mem_or_eq_of_mem_set hb with h1 | rfl
    · exact ih b h1
    · exact mix_trk hx'.2 (ih t (mem_of_get ht)) (hp n)
theorem falls_other {part : Nat → Nat} {T : List (List Nat)} {A : List (Nat × List Nat)} (k : Nat) (hA : ∀ x ∈ A, x.1 ≠ k) : ∀ n, n ≤ A.length → (falls part T A n)[k]? = T[k]?
  | 0, _ => rfl
  | n + 1, hn => by
    obtain ⟨x, hx⟩ := get_of_lt (l := A) (n := n) (by omega)
    rw [falls, getD_of hx, List.getElem?_set_ne (hA x (mem_of_get hx)), falls_other k hA n (by omega)]

/-- May one more turn go well? -/
def DS.goes (D : DS) : Bool := !D.down && D.left != some 0
def DS.turned (D : DS) : DS := if D.goes then { D with turns := D.turns + 1, left := D.left.map (· - 1) } else { D with down := true }
/-- What a turn answers. -/
def DS.err (D : DS) : Nat := if D.goes then 0 else 4
def DS.lay (D : DS) (k : Nat) (b : List Nat) : DS := if D.goes then { D.turned with A := D.A ++ [(k, b)] } else D.turned
def DS.settle (D : DS) : DS := if D.goes then { D.turned with T := D.seen, A := [] } else D.turned
def DS.brk (D : DS) (n : Option Nat) : DS := { D with left := n }
def DS.fall (D : DS) (part : Nat → Nat) : DS := { T := falls part D.T D.A D.A.length, A := [], left := none, down := false, turns := D.turns }
def DS.new (n : Nat) : DS := { T := List.replicate n (zeros 96), A := [], left := none, down := false, turns := 0 }

/-- Such as may be. -/
structure DS.Ok (D : DS) : Prop where
  trk : ∀ b ∈ D.T, Trk b
  lay : ∀ x ∈ D.A, x.1 < D.T.length ∧ Trk x.2
  few : 10 ≤ D.T.length
  many : D.T.length ≤ 4096
  left : ∀ n, D.left = some n → n ≤ 1000
  long : D.A.length ≤ D.turns

theorem trk_zeros : Trk (zeros 96) := ⟨zeros_byte 96, zeros_length 96⟩
theorem DS.Ok.new {n : Nat} (h : 10 ≤ n) (h' : n ≤ 4096) : (DS.new n).Ok :=
  ⟨fun b hb => by rw [(List.mem_replicate.1 hb).2]; exact trk_zeros, (fun _ hx => by cases hx), by simp [DS.new]; omega, by simp [DS.new]; omega, (fun _ h => by cases h), Nat.le_refl _⟩
theorem DS.Ok.turned {D : DS} (h : D.Ok) : D.turned.Ok := by
  unfold DS.turned
  cases hg : D.goes with
  | true =>
    refine ⟨h.trk, h.lay, h.few, h.many, fun n hn => ?_, Nat.le_succ_of_le h.long⟩
    simp only at hn
    cases hl : D.left with
    | none => rw [hl] at hn; cases hn
    | some m => rw [hl] at hn; have := h.left m hl; cases hn; show m - 1 ≤ 1000; omega
  | false => exact ⟨h.trk, h.lay, h.few, h.many, h.left, h.long⟩
theorem DS.turned_T (D : DS) : D.turned.T = D.T := by unfold DS.turned; split <;> rfl
theorem DS.turned_A (D : DS) : D.turned.A = D.A := by unfold DS.turned; split <;> rfl
theorem DS.Ok.lain {D : DS} (h : D.Ok) {k : Nat} {b : List Nat} (hk : k < D.T.length) (hb : Trk b) : (D.lay k b).Ok := by
  unfold DS.lay
  cases hg : D.goes with
  | true =>
    have ht := h.turned
    refine ⟨ht.trk, fun x hx => ?_, ht.few, ht.many, ht.left, ?_⟩
    · rcases List.mem_append.1 hx with h1 | h1
      · have := h.lay x h1
        simp only [DS.turned_T]
        exact this
      · obtain rfl := List.mem_singleton.1 h1
        simp only [DS.turned_T]
        exact ⟨hk, hb⟩
    · have := h.long
      simp [DS.turned, hg]; omega
  | false => exact h.turned
theorem DS.Ok.settled {D : DS} (h : D.Ok) : D.settle.Ok := by
  unfold DS.settle
  cases hg : D.goes with
  | true =>
    have ht := h.turned
    refine ⟨over_trk h.trk D.A (fun x hx => (h.lay x hx).2), (fun _ hx => by cases hx), ?_, ?_, ht.left, Nat.zero_le _⟩
    · simp only [if_true, DS.seen]; rw [over_length]; exact h.few
    · simp only [if_true, DS.seen]; rw [over_length]; exact h.many
  | false => exact h.turned
theorem DS.Ok.brk {D : DS} (h : D.Ok) {n : Option Nat} (hn : ∀ m, n = some m → m ≤ 1000) : (D.brk n).Ok := ⟨h.trk, h.lay, h.few, h.many, hn, h.long⟩
theorem DS.Ok.fall {D : DS} (h : D.Ok) {part : Nat → Nat} (hp : ∀ i, part i ≤ 96) : (D.fall part).Ok :=
  ⟨falls_trk hp h.trk h.lay _ (Nat.le_refl _), (fun _ hx => by cases hx), by simp only [DS.fall]; rw [falls_length]; exact h.few, by simp only [DS.fall]; rw [falls_length]; exact h.many, (fun _ h => by cases h), Nat.zero_le _⟩
theorem DS.seen_trk {D : DS} (h : D.Ok) : ∀ b ∈ D.seen, Trk b := over_trk h.trk D.A (fun x hx => (h.lay x hx).2)
theorem DS.seen_length (D : DS) : D.seen.length = D.T.length := over_length _ _
theorem DS.seen_lay {D : DS} (k : Nat) (b : List Nat) (hg : D.goes = true) : (D.lay k b).seen = D.seen.set k b := by
  simp [DS.lay, hg, DS.seen, DS.turned_T, over_snoc]
end Go.Proofs.YtjajenkagcdhlaaGreat
