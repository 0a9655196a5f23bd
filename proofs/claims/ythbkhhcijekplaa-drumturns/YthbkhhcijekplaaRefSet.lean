/- The reference's set, Look, Lay, New. -/
import Derived.Test.YthbkhhcijekplaaRef
import Derived.Deep.RegionLaw
namespace Go.Proofs.Ythbkhhcijekplaa
open Go.RowKit

theorem info9 : (Try.prog.info? 9).map (fun i => (i.zero, i.size, i.bytes)) = some (some (.string ⟨#[]⟩), 1, 16) := by kernel_rfl
theorem str_form {w : World} {base n : Nat} {v : Value} {xs : List Value} (h : w.ownsRow base 9 1 v n xs) : ∃ a c, v = .slice a n c := by
  rcases h.2 with ⟨rfl, rfl⟩ | ⟨g, cap, cur, rfl, _⟩
  · exact ⟨none, 0, rfl⟩
  · exact ⟨_, _, rfl⟩
theorem row_ptr {w : World} {base n c size : Nat} {e : TypeId} {a : Option Addr} {xs : List Value} (h : w.ownsRow base e size (.slice a n c) n xs) (hn : 0 < n) : ∃ g, a = some ⟨g, 0, none⟩ ∧ base ≤ g ∧ ∃ cs, Blk w g e cs := by
  rcases h.2 with ⟨_, rfl⟩ | ⟨g, cap, cur, e, hb, hg, _⟩
  · omega
  · injection e with e1 e2 e3
    exact ⟨g, e1, hb, cur.toList, hg⟩

set_option maxRecDepth 100000 in
set_option maxHeartbeats 1600000 in
theorem rset_at {w0 w : World} {r : Nat} {vt va : Value} {D : DS} (lo : w0.heap.size ≤ r) (ha : RAt w0 r vt va D w) (hN : 10 ≤ D.T.length) (hN2 : D.T.length ≤ 4096) (h0 : w0.heap.size ≤ w.heap.size) (k : Nat) (xs : List Nat) (hk : k < D.T.length) :
    Calls Try.prog 36 #[.pointer (some ⟨r, 0, none⟩), .int .i64 k, .string (strOf xs)] w fun e w' => e = .returned (.tuple #[]) ∧ (∃ vt', RAt w0 r vt' va { D with T := D.T.set k xs } w') ∧ Touch (fun q => q = r) w w' := by
  obtain ⟨a, c, rfl⟩ := str_form ha.tr
  obtain ⟨g, rfl, hgb, cs, hgc⟩ := row_ptr ha.tr (by omega)
  have T1 : Old w (w.alloc (.cells #[] 9)) := (Touch.refl _ _).alloc _
  have a1 := ha.old T1 lo
  have hc0 : (w.alloc (.cells #[] 9)).cell? ⟨r, 0, none⟩ = some (.slice (some ⟨g, 0, none⟩) D.T.length c) := a1.head.cell 0
  obtain ⟨i0, hi, hz0, hz1, hz2⟩ := info_parts info9
  have own0 : (w.alloc (.cells #[] 9)).ownsRow w0.heap.size 9 1 (.slice (some ⟨w.heap.size, 0, none⟩) 0 0) 0 [] := ⟨by simp, .inr ⟨w.heap.size, 0, #[], rfl, h0, heap_alloc_new w _, Nat.le_refl _, Nat.zero_le _, by simp, by simp⟩⟩
  obtain ⟨v', w', hap, own', gr, _, hb⟩ := run_append_own_at (P := Try.prog) _ w0.heap.size 45 45 9 i0 _ 1 16 Try.underlying45 hi hz0 hz1 hz2 rfl (by omega) _ _ _ own0 ⟨g, 0, none⟩ D.T.length c (strs D.T) (by rw [strs_length, Nat.mul_one]) (fun j u hu => a1.tr.cells rfl j u hu) (strs_one D.T) (by simp only [maxLen]; omega) (by omega) (Nat.le_trans h0 T1.size)
  rw [Nat.zero_add, List.nil_append] at own'
  obtain ⟨a', c', rfl⟩ := str_form own'
  obtain ⟨g', rfl, _, cs', hgc'⟩ := row_ptr own' (by omega)
  have hg' : w.heap.size ≤ g' := by
    rcases hb with hb | hb
    · simp [Value.ownBlock] at hb; omega
    · simp [Value.ownBlock] at hb; omega
  have Tg : Touch (fun q => q = w.heap.size) (w.alloc (.cells #[] 9)) w' := Touch.grown gr (fun q hq => by simp [Value.ownBlock] at hq; omega)
  have T2 : Old w w' := T1.own Tg (Nat.le_refl _)
  have a2 := ha.old T2 lo
  have hcell : w'.cell? ⟨g', k, none⟩ = (strs D.T)[k]? := by rw [own'.cellAt k (by omega)]
  have hfr : w'.frozen? ⟨g', k, none⟩ = false := own'.frozenAt k
  obtain ⟨o, ho⟩ := get_of_lt hk
  rw [strs_get ho] at hcell
  have own2 := (own'.stored k (.string (strOf xs))).1
  rw [strs_set] at own2
  have T3 : Touch (fun q => q = g') w' (w'.setCell ⟨g', k, none⟩ (.string (strOf xs))) := Touch.one ⟨g', k, none⟩ _
  have hgr : r ≠ g' := a2.head.ne hgc' (by decide)
  have B3 := a2.head.touch T3 hgr
  have hc3 : (w'.setCell ⟨g', k, none⟩ (.string (strOf xs))).cell? ⟨r, 0, none⟩ = some (.slice (some ⟨g, 0, none⟩) D.T.length c) := B3.cell 0
  have hf3 : (w'.setCell ⟨g', k, none⟩ (.string (strOf xs))).frozen? ⟨r, 0, none⟩ = false := B3.frozen 0
  have af3 := owns_touch a2.af T3 (fun q hq e => own_blk a2.af hgc' (by decide) (by rw [hq, e]))
  have T4 : Touch (fun q => q = r) (w'.setCell ⟨g', k, none⟩ (.string (strOf xs))) ((w'.setCell ⟨g', k, none⟩ (.string (strOf xs))).setCell ⟨r, 0, none⟩ (.slice (some ⟨g', 0, none⟩) D.T.length c')) := Touch.one ⟨r, 0, none⟩ _
  have HE : Hid ((∃ vt', RAt w0 r vt' va { D with T := D.T.set k xs } ((w'.setCell ⟨g', k, none⟩ (.string (strOf xs))).setCell ⟨r, 0, none⟩ (.slice (some ⟨g', 0, none⟩) D.T.length c'))) ∧ Touch (fun q => q = r) w ((w'.setCell ⟨g', k, none⟩ (.string (strOf xs))).setCell ⟨r, 0, none⟩ (.slice (some ⟨g', 0, none⟩) D.T.length c'))) := by
    refine ⟨⟨.slice (some ⟨g', 0, none⟩) D.T.length c', ⟨B3.set 0 _, ?_, owns_touch af3 T4 (fun q hq e => own_blk af3 B3 (by decide) (by rw [hq, e]))⟩⟩, ((Touch.of_old (S := fun q => q = r) T2).setCell (p := ⟨g', k, none⟩) (.inr hg') _).setCell (p := ⟨r, 0, none⟩) (.inl rfl) _⟩
    have := owns_touch own2 T4 (fun q hq e => own_blk own2 B3 (by decide) (by rw [hq, e]))
    simpa using this
  have hk0 : (0 : Int) ≤ (k : Int) := by omega
  have hk1 : (k : Int) < (D.T.length : Int) := by omega
  clear ha lo hN hN2 hgb hgc a1 T1 hi hz0 hz1 hz2 own0 own' gr hb hgc' hg' Tg T2 a2 ho own2 T3 hgr B3 af3 T4 hk h0
  generalize D.T.length = n at *
  generalize strOf xs = s at *
  go_enter Try.func36, Try.ntmps36
  go_wp2_with (first | (at_builtin; refine wpList_append_run (o := ⟨some 12, _, 45, _, _, _⟩) rfl (.tmp 7) (.tmp 11) 45 45 rfl (.slice (some ⟨w.heap.size, 0, none⟩) 0 0) (.slice (some ⟨g, 0, none⟩) n c) rfl rfl _ _ hap ?_))
  go_end0
  exact ⟨rfl, HE.out⟩

/-- '[]byte(s)'. -/
theorem bytes_of (w : World) (xs : List Nat) (hb : ∀ x ∈ xs, x < 256) : ∃ c w', (convert 9 28 (.string (strOf xs))).run Try.prog w = .ok (.slice (some ⟨w.heap.size, 0, none⟩) xs.length c) w' ∧ Has w' (some ⟨w.heap.size, 0, none⟩) xs ∧ Old w w' := by
  have hr := Lib.run_convert_string_bytes (P := Try.prog) w 9 28 5 (strOf xs) Try.underlying9 Try.underlying28 Try.underlying5
  rw [strOf_size] at hr
  refine ⟨_, _, hr, ⟨hb, fun i hi => ⟨w.heap.size, 0, rfl, ?_⟩⟩, ?_⟩
  · rw [Nat.zero_add, Lib.bytesWorld_cell w 5 (strOf xs) i (by rw [strOf_size]; exact hi), strOf_data]
    have hx : xs[i]? = some xs[i] := List.getElem?_eq_getElem hi
    have hlt := hb xs[i] (List.getElem_mem hi)
    simp [at0, List.getD_eq_getElem?_getD, hx]
    omega
  · exact ⟨rfl, rfl, rfl, by rw [Lib.bytesWorld_size]; omega, fun k hk _ => Lib.bytesWorld_at_old w 5 _ k hk⟩
end Go.Proofs.Ythbkhhcijekplaa
