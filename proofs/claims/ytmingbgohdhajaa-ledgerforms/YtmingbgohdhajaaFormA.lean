/- What the law of forms needs: both drums side by side; lariathand.Few; a byte turned. -/
import Derived.Test.YtmingbgohdhajaaRefG
import Derived.Test.YtmingbgohdhajaaKnown
namespace Go.Proofs.Ytmingbgohdhajaa
open Go.RowKit
set_option maxRecDepth 100000
set_option linter.unusedSimpArgs false

theorem xor_byte (x y : Nat) : ∃ v : Nat, bits .xor .u8 (x : Int) (y : Int) = (v : Int) ∧ v < 256 := by
  have h := bits_within .xor .u8 (x : Int) (y : Int)
  have h1 : IntKind.u8.min = 0 := rfl
  have h2 : IntKind.u8.max = 255 := rfl
  rw [h1, h2] at h
  exact ⟨(bits .xor .u8 (x : Int) (y : Int)).toNat, by omega, by omega⟩
theorem set_trk {xs : List Nat} (h : Trk xs) {j v : Nat} (hv : v < 256) : Trk (xs.set j v) :=
  ⟨fun x hx => by rcases List.mem_or_eq_of_mem_set hx with q | rfl; exact h.byte x q; exact hv, by rw [List.length_set]; exact h.len⟩

/-- A drum's blocks are cells. -/
theorem Dr.foot_cells {d : Nat} {b : Bl} {D : DS} {w : World} (h : Dr d b D w) {k : Nat} (hk : foot d b k) (hm : ∃ es clock, w.heap[k]? = some (.map es clock)) : False := by
  obtain ⟨es, clock, hm⟩ := hm
  have no : ∀ t cs, Blk w k t cs → False := fun t cs hb => by
    unfold Blk at hb
    rw [hm] at hb
    cases hb
  rcases hk with rfl | rfl | rfl | rfl | e | e
  · exact no _ _ h.at_.head
  · exact no _ _ h.at_.set
  · exact no _ _ h.at_.see
  · exact no _ _ h.at_.flag
  · rcases h.at_.own.2 with ⟨e', _⟩ | ⟨g', cap, cur, e', _, hg', _⟩
    · rw [e'] at e; cases e
    · rw [e'] at e
      have : g' = k := by simpa [Value.ownBlock] using e
      subst this
      rw [hm] at hg'
      cases hg'
  · rcases h.at_.well with ⟨_, e'⟩ | ⟨g', n, m, _, e', hb⟩
    · rw [e'] at e; cases e
    · rw [e'] at e
      have : g' = k := by simpa using e
      subst this
      exact no _ _ hb

/-- What the reference turns is no block of the program's drum. -/
theorem St.lstay {w0 w1 w w' : World} {d : Nat} {b : Bl} {D : DS} (h : St w0 d b D w) (m : Touch (lmine w1 w) w w') (h1 : w0.heap.size ≤ w1.heap.size) : St w0 d b D w' := by
  refine ⟨h.dr.touch m (fun k hk q => ?_), ⟨m.os.trans h.old.os, m.tape.trans h.old.tape, m.output.trans h.old.output, Nat.le_trans h.old.size m.size, fun k hk hn => (m.block k (Nat.lt_of_lt_of_le hk h.old.size) (fun q => by have := q.1; omega)).trans (h.old.block k hk hn)⟩, h.new⟩
  obtain ⟨_, ⟨t, cs, ht, hB⟩ | hm⟩ := q
  · rcases ht with rfl | rfl | rfl
    · exact h.dr.not_foot hB (by unfold other; decide) hk
    · exact h.dr.not_foot hB (by unfold other; decide) hk
    · exact h.dr.not_foot hB (by unfold other; decide) hk
  · exact h.dr.foot_cells hk hm
theorem blk_lstay {w1 w w' : World} {g : Nat} {t : TypeId} {cs : List Value} (h : Blk w g t cs) (m : Touch (lmine w1 w) w w') (ht : t ≠ 107 ∧ t ≠ 125 ∧ t ≠ 112) : Blk w' g t cs := h.touch m (h.lnot ht)
theorem LAt.lstay {w0 w1 w w' : World} {l d g : Nat} {b : Bl} {L : LS} (h : LAt w0 l d b g L w) (m : Touch (lmine w1 w) w w') (h1 : w0.heap.size ≤ w1.heap.size) : LAt w0 l d b g L w' :=
  ⟨h.st.lstay m h1, blk_lstay h.head m (by decide), h.wri.keep (fun _ _ hb => blk_lstay hb m (by decide)) (fun _ hb => blk_lstay hb m (by decide)), h.nl, h.ng⟩

/-- At most so many bytes, in new memory. -/
theorem few_any (a : Option Addr) (xs : List Nat) (len cap n : Nat) (w : World) (h : Has w a xs) (hlen : xs.length = len) (hlc : len ≤ cap) (hm : len ≤ 140737488355328) (_hn : n ≤ 1000) :
    Calls Try.prog 34 #[.slice a len cap, .int .i64 n] w (NewRow (xs.take n) w) := by
  obtain ⟨m, hmin⟩ : ∃ m, min len n = m := ⟨_, rfl⟩
  have hml : m ≤ len := by omega
  have hmi : min (len : Int) (n : Int) = (m : Int) := by omega
  have j0 : (0 : Int) ≤ (m : Int) := by omega
  have j1 : (m : Int) ≤ (cap : Int) := by omega
  have hT : (xs.take n).length = m := by rw [List.length_take, hlen]; omega
  obtain ⟨g, c, w1, hr, hg, G, T⟩ := append_new w a (xs.take n) m cap (h.take n) hT (by omega)
  have HG := Lib.hid G
  have HT := Lib.hid T
  have HTl := Lib.hid hT
  clear h G T hT
  go_enter Try.func34, Try.ntmps34
  go_wp2_with (first | (at_builtin; refine wpList_append_run rfl _ _ 34 34 rfl _ _ rfl rfl _ _ (hr _) ?_))
  go_ret
  exact ⟨g, c, by rw [HTl.out]; rfl, HG.out.room, hg, HG.out, HT.out⟩
theorem few_row {w9 : World} {p : Option Addr} {xr : List Nat} {l cR m n : Nat} (h : Has w9 p xr) (hl : xr.length = l) (hlc : l ≤ cR) (hlm : l ≤ 140737488351232) (hn : n ≤ 1000) (hm : (xr.take n).length = m) :
    ∀ W, Old w9 W → Calls Try.prog 34 #[.slice p l cR, .int .i64 n] W fun e w' => ∃ g c, e = .returned (.slice (some ⟨g, 0, none⟩) m c) ∧ W.heap.size ≤ g ∧ Grows w' g c (xr.take n) ∧ Old W w' := fun W O => by
  refine (few_any p xr l cR n W (h.old O) hl hlc (by omega) hn).mono ?_
  rintro e w' ⟨g, c, rfl, _, hg, G, T⟩
  exact ⟨g, c, by rw [hm], hg, G, T⟩
theorem grows_nil (w : World) : Grows (w.alloc (.cells #[] 5)) w.heap.size 0 [] := ⟨(fun _ h => by cases h), [], heap_alloc_new w _, rfl⟩
theorem Grows.touch {S : Nat → Prop} {w w' : World} {g c : Nat} {xs : List Nat} (h : Grows w g c xs) (T : Touch S w w') (hn : ¬ S g) : Grows w' g c xs := by
  obtain ⟨rest, hg, hl⟩ := h.row
  exact ⟨h.byte, rest, (T.block g (Array.getElem?_eq_some_iff.1 hg).1 hn).trans hg, hl⟩
theorem Grows.lt {w : World} {g c : Nat} {xs : List Nat} (h : Grows w g c xs) : g < w.heap.size := by
  obtain ⟨rest, hg, _⟩ := h.row
  exact (Array.getElem?_eq_some_iff.1 hg).1
/-- 'append([]byte{}, b[:q]...)', whenever '[]byte{}' was made. -/
theorem app_one {w9 : World} {a : Option Addr} {xs : List Nat} {q c : Nat} (h : Has w9 a xs) (hq : q ≤ xs.length) (hm : q ≤ 1000000) :
    ∀ W e, Old w9 W → Grows W e 0 [] → w9.heap.size ≤ e → ∃ g1 c1 w1, (∀ ty, (Builtin.append_ #[34, 34] ty #[.slice (some ⟨e, 0, none⟩) 0 0, .slice a q c]).run Try.prog W = .ok (.slice (some ⟨g1, 0, none⟩) q c1) w1) ∧ w9.heap.size ≤ g1 ∧ Grows w1 g1 c1 (xs.take q) ∧ Old w9 w1 ∧ Touch (fun k => k = e) W w1 := fun W e O G he => by
  obtain ⟨g1, c1, w1, hr, hg, G1, T⟩ := append_onto W e 0 0 [] (xs.take q) a q c G ((h.old O).take q) rfl (by rw [List.length_take]; omega) (by omega)
  refine ⟨g1, c1, w1, fun ty => by rw [hr ty, Nat.zero_add], ?_, by rw [List.nil_append] at G1; exact G1, O.own T he, T⟩
  have := O.size
  rcases hg with q | q <;> omega
/-- 'append(x, b...)' behind it. -/
theorem app_two {w9 : World} {xs ys : List Nat} {q m : Nat} (hx : xs.length = q) (hy : ys.length = m) (hm : q + m ≤ 1000000) :
    ∀ W g1 c1 gf cf, Old w9 W → Grows W g1 c1 xs → w9.heap.size ≤ g1 → Grows W gf cf ys → ∃ g2 c2 w2, (∀ ty, (Builtin.append_ #[34, 34] ty #[.slice (some ⟨g1, 0, none⟩) q c1, .slice (some ⟨gf, 0, none⟩) m cf]).run Try.prog W = .ok (.slice (some ⟨g2, 0, none⟩) (q + m) c2) w2) ∧ Grows w2 g2 c2 (xs ++ ys) ∧ Old w9 w2 := fun W g1 c1 gf cf O G1 h1 Gf => by
  obtain ⟨g2, c2, w2, hr, hg, G2, T⟩ := append_onto W g1 c1 q xs ys (some ⟨gf, 0, none⟩) m cf G1 Gf.has hx hy (by omega)
  exact ⟨g2, c2, w2, hr, G2, O.own T h1⟩
end Go.Proofs.Ytmingbgohdhajaa
