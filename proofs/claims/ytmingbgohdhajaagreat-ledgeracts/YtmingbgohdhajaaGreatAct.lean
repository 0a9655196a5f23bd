/- Acts that came in; rows of texts; how many turns a Write takes. -/
import Derived.Test.YtmingbgohdhajaaGreatEntW
import Derived.Test.YtmingbgohdhajaaGreatNewL
namespace Go.Proofs.YtmingbgohdhajaaGreat
open Go.RowKit
set_option maxRecDepth 100000

/-- An act as it was handed in. -/
structure ActR where
  what : Int
  n : Int
  torn : Int
  cut : Int
  aa : Option Addr
  la : Nat
  ca : Nat
  ys : List Int
  ka : Option Addr
  kl : Nat
  kc : Nat
  ks : List Int
structure ActAt (w : World) (b off : Nat) (r : ActR) : Prop where
  c0 : w.cell? ⟨b, off, none⟩ = some (.int .i64 r.what)
  c1 : w.cell? ⟨b, off + 1, none⟩ = some (.int .i64 r.n)
  c2 : w.cell? ⟨b, off + 2, none⟩ = some (.int .i64 r.torn)
  c3 : w.cell? ⟨b, off + 3, none⟩ = some (.int .i64 r.cut)
  c4 : w.cell? ⟨b, off + 4, none⟩ = some (.slice r.aa r.la r.ca)
  c5 : w.cell? ⟨b, off + 5, none⟩ = some (.slice r.ka r.kl r.kc)
  ats : HasI w r.aa r.ys
  alen : r.ys.length = r.la
  keep : HasI w r.ka r.ks
  klen : r.ks.length = r.kl
  small : r.la ≤ 140737488351232 ∧ r.kl ≤ 140737488351232
theorem ActAt.old {w w' : World} {b off : Nat} {r : ActR} (h : ActAt w b off r) (m : Old w w') : ActAt w' b off r := by
  have hb := lt_of_cell? h.c0
  have c : ∀ o, w'.cell? ⟨b, o, none⟩ = w.cell? ⟨b, o, none⟩ := fun o => m.cell (p := ⟨b, o, none⟩) hb (fun q => q)
  exact ⟨(c _).trans h.c0, (c _).trans h.c1, (c _).trans h.c2, (c _).trans h.c3, (c _).trans h.c4, (c _).trans h.c5, h.ats.old m, h.alen, h.keep.old m, h.klen, h.small⟩
/-- The slice whose cells begin at a has n acts. -/
def HasA (w : World) (a : Option Addr) (n : Nat) : Prop := ∀ i, i < n → ∃ b off r, a = some ⟨b, off, none⟩ ∧ ActAt w b (off + i * 6) r
theorem HasA.old {w w' : World} {a : Option Addr} {n : Nat} (h : HasA w a n) (m : Old w w') : HasA w' a n := fun i hi => by
  obtain ⟨b, off, r, e, ht⟩ := h i hi
  exact ⟨b, off, r, e, ht.old m⟩

/-- Tracks as texts. -/
def strs (H : List (List Nat)) : List Value := H.map fun b => Value.string (strOf b)
theorem strs_length (H : List (List Nat)) : (strs H).length = H.length := by simp [strs]
theorem strs_set (H : List (List Nat)) (k : Nat) (b : List Nat) : (strs H).set k (.string (strOf b)) = strs (H.set k b) := by simp [strs, List.map_set]
theorem strs_get {H : List (List Nat)} {k : Nat} {b : List Nat} (h : H[k]? = some b) : (strs H)[k]? = some (.string (strOf b)) := by simp [strs, h]
theorem info9 : (Tryz.prog.info? 9).map (fun i => (i.zero, i.size, i.bytes)) = some (some (.string ⟨#[]⟩), 1, 16) := by kernel_rfl
theorem make_strs (n : Nat) (hn : n ≤ 1000000) (w : World) : (Instr.makeSlice 56 (.int .i64 n) (.int .i64 n)).run Tryz.prog w = .ok (.slice (some ⟨w.heap.size, 0, none⟩) n n) (w.alloc (.cells (List.replicate n (Value.string ⟨#[]⟩)).toArray 9)) := by
  obtain ⟨i0, hi, hz0, hz1, hz2⟩ := info_parts info9
  have h := run_make (P := Tryz.prog) w 56 9 i0 _ Tryz.underlying56 hi hz0 .i64 .i64 (n : Int) (n : Int) (by omega) (by omega) (by rw [hz2]; omega) (by omega)
  rw [hz1] at h
  have e : madeCells (Value.string ⟨#[]⟩).cells n = (List.replicate n (Value.string ⟨#[]⟩)).toArray := made_same 1 n _ (by decide)
  rw [h, ← e]
  simp
/-- The first t texts are of blank tracks. -/
def blanks (n t : Nat) : List Value := List.replicate t (Value.string (strOf (zeros 96))) ++ List.replicate (n - t) (Value.string ⟨#[]⟩)
theorem blanks_set (n t : Nat) (h : t < n) : (blanks n t).set t (.string (strOf (zeros 96))) = blanks n (t + 1) := by
  unfold blanks
  rw [List.set_append_right _ _ (by simp), show n - t = (n - (t + 1)) + 1 by omega, List.replicate_succ, List.length_replicate, Nat.sub_self, List.set_cons_zero, List.replicate_succ' (n := t)]
  simp
theorem blanks_all (n : Nat) : blanks n n = strs (zeroH n) := by simp [blanks, strs, zeroH]
theorem blanks_length (n t : Nat) (h : t ≤ n) : (blanks n t).length = n := by simp [blanks]; omega

theorem layP_turns (L : LS) (e : List Ent) : (L.layP e).D.turns ≤ L.D.turns + leavesOf e.length := by
  have h1 := DS.run_turns L.D (leafT (2 + L.laid) (posting L.round (L.posts + 1) e))
  rw [leafT_length, posting_length] at h1
  unfold LS.layP
  simp only
  split
  · exact h1
  · exact h1
theorem post_turns (L : LS) (e : List Ent) : (L.post e).D.turns ≤ L.D.turns + L.ws.length + 4 + leavesOf e.length := by
  have h1 := balanced_turns L
  have h2 := layP_turns L.balanced e
  have h3 := layP_turns L e
  unfold LS.post
  split
  · split
    · omega
    · omega
  · omega
theorem heed_turns (L : LS) : L.heed.D = L.D := by unfold LS.heed; split <;> rfl
theorem write_turns (L : LS) (e : List Ent) : (L.write e).D.turns ≤ L.D.turns + L.ws.length + 4 + leavesOf e.length := by
  have h1 := post_turns L e
  unfold LS.write
  split
  · split
    · omega
    · split
      · omega
      · rw [heed_turns]; exact h1
  · omega
theorem openL_turns {D : DS} {k : Nat} : (openL D k).D.turns ≤ D.turns + D.T.length + 3 := by
  have h2 := next_turns (LS.counted D k).reads
  have h3 : (LS.counted D k).reads.ws.length ≤ D.T.length := by
    show (readAll _ _ _ _ _ _).length ≤ _
    rw [readAll_length]
    show (List.replicate _ none).length ≤ _
    rw [List.length_replicate]
    omega
  have h4 : (LS.counted D k).reads.D = D := rfl
  rw [h4] at h2
  show (LS.counted D k).reads.next.D.turns ≤ _
  omega
theorem settle_turns (L : LS) : L.settle.D.turns ≤ L.D.turns + 1 := by
  have := DS.step_turns L.D .settle
  unfold LS.settle
  split
  · omega
  · rw [heed_turns]; exact this
theorem balance_turns (L : LS) : L.balance.D.turns ≤ L.D.turns + L.ws.length + 4 := by
  have := balanced_turns L
  unfold LS.balance
  split
  · omega
  · rw [heed_turns]; exact this
/-- A law's ledger, no break being set. -/
structure Good (w0 : World) (lp d : Nat) (l t : Nat) (H : List (List Nat)) (w : World) : Prop where
  at_ : ∃ g b L r es, LAt w0 lp d b g L w ∧ LiveL L l r H es ∧ r ≤ 2 + t ∧ es.length ≤ t ∧ L.D.turns ≤ 200 + t * 100
theorem Good.old {w0 w w' : World} {lp d l t : Nat} {H : List (List Nat)} (h : Good w0 lp d l t H w) (m : Old w w') : Good w0 lp d l t H w' := by
  obtain ⟨g, b, L, r, es, A, Lv, h1, h2, h3⟩ := h.at_
  exact ⟨g, b, L, r, es, A.step m, Lv, h1, h2, h3⟩
end Go.Proofs.YtmingbgohdhajaaGreat
