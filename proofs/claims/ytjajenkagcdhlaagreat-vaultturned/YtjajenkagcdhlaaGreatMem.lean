/- A drum in memory: its blocks, what each of them holds, what stays. -/
import Derived.Test.YtjajenkagcdhlaaGreatState
import Derived.Test.YtjajenkagcdhlaaGreatCount
import Derived.Maps.AppendAt
import Derived.Laws.OwnMore
namespace Go.Proofs.YtjajenkagcdhlaaGreat
open Go.RowKit
set_option maxRecDepth 100000

/-- Tracks, one behind the other. -/
def rows (T : List (List Nat)) : List Value := (T.map cells).flatten
/-- A Lay, as it lies in memory. -/
def lain (x : Nat × List Nat) : List Value := .int .i64 (x.1 : Int) :: cells x.2
def lains (A : List (Nat × List Nat)) : List Value := (A.map lain).flatten

theorem rows_len {T : List (List Nat)} (h : ∀ b ∈ T, Trk b) : ∀ b ∈ T.map cells, b.length = 96 := fun b hb => by
  obtain ⟨x, hx, rfl⟩ := List.mem_map.1 hb
  rw [cells_length, (h x hx).len]
theorem rows_length {T : List (List Nat)} (h : ∀ b ∈ T, Trk b) : (rows T).length = T.length * 96 := by
  unfold rows
  rw [flatten_length 96 _ (rows_len h), List.length_map]
theorem rows_set {T : List (List Nat)} (h : ∀ b ∈ T, Trk b) {k : Nat} {b : List Nat} (hb : Trk b) (hk : k < T.length) : splice (rows T) (k * 96) (cells b) = rows (T.set k b) := by
  unfold rows
  rw [flatten_splice 96 _ k _ (rows_len h) (by rw [cells_length, hb.len]) (by rw [List.length_map]; exact hk), List.map_set]
theorem lains_len {A : List (Nat × List Nat)} (h : ∀ x ∈ A, Trk x.2) : ∀ b ∈ A.map lain, b.length = 97 := fun b hb => by
  obtain ⟨x, hx, rfl⟩ := List.mem_map.1 hb
  simp [lain, cells_length, (h x hx).len]
theorem lains_length {A : List (Nat × List Nat)} (h : ∀ x ∈ A, Trk x.2) : (lains A).length = A.length * 97 := by
  unfold lains
  rw [flatten_length 97 _ (lains_len h), List.length_map]
theorem lains_snoc (A : List (Nat × List Nat)) (x : Nat × List Nat) : lains (A ++ [x]) = lains A ++ lain x := by simp [lains]
theorem lain_one (x : Nat × List Nat) : ∀ v ∈ lain x, v.oneCell' = true := fun v hv => by
  rcases List.mem_cons.1 hv with rfl | h
  · rfl
  · exact cells_one _ v h

/-- A track of a row of tracks. -/
theorem rows_at {w : World} {g : Nat} {T : List (List Nat)} (hT : ∀ b ∈ T, Trk b) (h : Blk w g 105 (rows T)) {k : Nat} {b : List Nat} (hk : T[k]? = some b) : w.rangeAt g (k * 96) (cells b) := fun j v hv => by
  have hj : j < 96 := by
    have := lt_of_get hv
    rwa [cells_length, (hT b (mem_of_get hk)).len] at this
  rw [h.cell, rows, flatten_get 96 _ k j (rows_len hT) hj, List.getElem?_map, hk]
  exact hv
theorem rows_has {w : World} {g : Nat} {T : List (List Nat)} (hT : ∀ b ∈ T, Trk b) (h : Blk w g 105 (rows T)) {k : Nat} {b : List Nat} (hk : T[k]? = some b) : Has w (some ⟨g, k * 96, none⟩) b :=
  ⟨(hT b (mem_of_get hk)).byte, fun i hi => ⟨g, k * 96, rfl, rows_at hT h hk i _ (cells_get b i hi)⟩⟩
theorem rows_there {w : World} {g : Nat} {T : List (List Nat)} (hT : ∀ b ∈ T, Trk b) (h : Blk w g 105 (rows T)) {k : Nat} (hk : k < T.length) : w.there g (k * 96) 96 := fun j hj => by
  refine ⟨?_, h.frozen _⟩
  rw [h.cell, List.getElem?_eq_getElem (by rw [rows_length hT]; omega)]
  rfl
theorem blk_range {w : World} {g : Nat} {t : TypeId} {xs ys : List Value} (h : Blk w g t (xs ++ ys)) : w.rangeAt g xs.length ys := fun j v hv => by
  rw [h.cell, List.getElem?_append_right (by omega), show xs.length + j - xs.length = j by omega]
  exact hv

/-- Where a drum lies. -/
structure Bl where
  s : Nat
  v : Nat
  f : Nat
  afl : Value
  well : Value

/-- The blocks of a drum. -/
def foot (d : Nat) (b : Bl) (k : Nat) : Prop := k = d ∨ k = b.s ∨ k = b.v ∨ k = b.f ∨ b.afl.ownBlock = some k ∨ b.well = .pointer (some ⟨k, 0, none⟩)

/-- The cells of a drum itself. -/
def head (b : Bl) (n t : Nat) : List Value := [.slice (some ⟨b.s, 0, none⟩) n n, .slice (some ⟨b.v, 0, none⟩) n n, b.afl, .int .i64 (t : Int), b.well, .pointer (some ⟨b.f, 0, none⟩)]

/-- A break, in memory. -/
def Well (left : Option Nat) (v : Value) (w : World) : Prop := (left = none ∧ v = .pointer none) ∨ ∃ g n m, left = some n ∧ v = .pointer (some ⟨g, 0, none⟩) ∧ Blk w g 120 [.int .i64 ((n : Nat) : Int), m]

/-- The drum D lies there; what is seen of it is V. -/
structure At (d : Nat) (b : Bl) (D : DS) (V : List (List Nat)) (w : World) : Prop where
  head : Blk w d 100 (head b D.T.length D.turns)
  set : Blk w b.s 105 (rows D.T)
  see : Blk w b.v 105 (rows V)
  sv : b.s ≠ b.v
  flag : Blk w b.f 112 [.int .u32 (bit D.down)]
  own : w.ownsRow 0 107 97 b.afl D.A.length (lains D.A)
  well : Well D.left b.well w

structure Dr (d : Nat) (b : Bl) (D : DS) (w : World) : Prop where
  ok : D.Ok
  at_ : At d b D D.seen w

theorem Touch.grown {S : Nat → Prop} {w w' : World} {r : Option Nat} (h : w.grownBy w' r) (hs : ∀ k, r = some k → S k) : Touch S w w' :=
  ⟨h.os, h.tape, h.output, h.size, fun k hk hn => h.block k hk (fun e => hn (hs k e.symm))⟩
theorem owns_touch {S : Nat → Prop} {w w' : World} {base size n : Nat} {e : TypeId} {v : Value} {xs : List Value} (h : w.ownsRow base e size v n xs) (m : Touch S w w') (hn : ∀ k, v.ownBlock = some k → ¬ S k) : w'.ownsRow base e size v n xs := by
  refine ⟨h.1, ?_⟩
  rcases h.2 with h0 | ⟨g, cap, cur, rfl, hb, hg, h1, h2, h3, h4⟩
  · exact .inl h0
  · refine .inr ⟨g, cap, cur, rfl, hb, ?_, h1, h2, h3, h4⟩
    rw [m.block g (Array.getElem?_eq_some_iff.1 hg).1 (hn g rfl)]
    exact hg
theorem Well.touch {S : Nat → Prop} {w w' : World} {l : Option Nat} {v : Value} (h : Well l v w) (m : Touch S w w') (hn : ∀ k, v = .pointer (some ⟨k, 0, none⟩) → ¬ S k) : Well l v w' := by
  rcases h with h | ⟨g, n, q, rfl, rfl, hb⟩
  · exact .inl h
  · exact .inr ⟨g, n, q, rfl, rfl, hb.touch m (hn g rfl)⟩
theorem At.touch {S : Nat → Prop} {d : Nat} {b : Bl} {D : DS} {V : List (List Nat)} {w w' : World} (h : At d b D V w) (m : Touch S w w') (hn : ∀ k, foot d b k → ¬ S k) : At d b D V w' :=
  ⟨h.head.touch m (hn _ (.inl rfl)), h.set.touch m (hn _ (.inr (.inl rfl))), h.see.touch m (hn _ (.inr (.inr (.inl rfl)))), h.sv, h.flag.touch m (hn _ (.inr (.inr (.inr (.inl rfl))))),
   owns_touch h.own m (fun k hk => hn k (.inr (.inr (.inr (.inr (.inl hk)))))), h.well.touch m (fun k hk => hn k (.inr (.inr (.inr (.inr (.inr hk))))))⟩
theorem Dr.touch {S : Nat → Prop} {d : Nat} {b : Bl} {D : DS} {w w' : World} (h : Dr d b D w) (m : Touch S w w') (hn : ∀ k, foot d b k → ¬ S k) : Dr d b D w' := ⟨h.ok, h.at_.touch m hn⟩
theorem Dr.old {d : Nat} {b : Bl} {D : DS} {w w' : World} (h : Dr d b D w) (m : Old w w') : Dr d b D w' := h.touch m (fun _ _ q => q)
theorem At.lt {d : Nat} {b : Bl} {D : DS} {V : List (List Nat)} {w : World} (h : At d b D V w) : ∀ k, foot d b k → k < w.heap.size := by
  rintro k (rfl | rfl | rfl | rfl | hk | hk)
  · exact h.head.lt
  · exact h.set.lt
  · exact h.see.lt
  · exact h.flag.lt
  · exact (h.own.lt k hk).2
  · rcases h.well with ⟨_, e⟩ | ⟨g, n, q, _, e, hb⟩
    · rw [e] at hk; cases hk
    · rw [e] at hk; cases hk; exact hb.lt
theorem At.ds {d : Nat} {b : Bl} {D : DS} {V : List (List Nat)} {w : World} (h : At d b D V w) : d ≠ b.s := h.head.ne h.set (by decide)
theorem At.dv {d : Nat} {b : Bl} {D : DS} {V : List (List Nat)} {w : World} (h : At d b D V w) : d ≠ b.v := h.head.ne h.see (by decide)
theorem At.df {d : Nat} {b : Bl} {D : DS} {V : List (List Nat)} {w : World} (h : At d b D V w) : d ≠ b.f := h.head.ne h.flag (by decide)
theorem own_blk {w : World} {base n g size : Nat} {e t : TypeId} {v : Value} {xs cs : List Value} (h : w.ownsRow base e size v n xs) (hg : Blk w g t cs) (hne : e ≠ t) : v.ownBlock ≠ some g := by
  rcases h.2 with ⟨rfl, _⟩ | ⟨g', cap, cur, rfl, _, hh, _⟩
  · simp [Value.ownBlock]
  · intro he
    have : g' = g := by simpa [Value.ownBlock] using he
    subst this
    unfold Blk at hg
    rw [hh] at hg
    injection hg with hg
    injection hg with _ ht
    exact hne ht
theorem well_blk {w : World} {l : Option Nat} {v : Value} {g : Nat} {t : TypeId} {cs : List Value} (h : Well l v w) (hg : Blk w g t cs) (hne : 120 ≠ t) : v ≠ .pointer (some ⟨g, 0, none⟩) := by
  rcases h with ⟨_, rfl⟩ | ⟨g', n, q, _, rfl, hb⟩
  · simp
  · intro e
    have : g' = g := by simpa using e
    subst this
    exact hb.ne hg hne rfl

/-- A call's end: the drum is D' then; nothing else turned. -/
def Done (d : Nat) (b : Bl) (D' : DS) (w w' : World) : Prop := ∃ b', Dr d b' D' w' ∧ Touch (foot d b) w w' ∧ ∀ k, foot d b' k → foot d b k ∨ w.heap.size ≤ k

theorem Done.same {d : Nat} {b : Bl} {D : DS} {w : World} (h : Dr d b D w) : Done d b D w w := ⟨b, h, Touch.refl _ _, fun _ hk => .inl hk⟩
end Go.Proofs.YtjajenkagcdhlaaGreat
