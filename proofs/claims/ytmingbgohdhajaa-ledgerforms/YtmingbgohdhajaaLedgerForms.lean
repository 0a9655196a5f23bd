/- lariatlaw5.LedgerForms returns true for every slice of acts, every slice of numbers, every byte and every slice of slices of bytes, and leaves its arguments as they were. Conditions: none. -/
import Derived.Test.YtmingbgohdhajaaActOpen
import Derived.Test.YtmingbgohdhajaaFormsW
namespace Go.Proofs.Ytmingbgohdhajaa
open Go.ChangeShapes Go.WideShapes Go.ChangeAt Go.RowKit
set_option maxRecDepth 100000

theorem raw_open {H : Type} {enc : TypeId × Value → H} {W : World} {a : Option Addr} {len cap : Nat} {d : DataW H} {p : List MemPlace}
    (h : DataW.Trod enc Try.prog W 0 (fun _ => true) true 48 (.slice a len cap) d p) (hw : ∀ k ∈ d.weights Try.prog 48, k ≤ reachBytes) : HasB W a len := by
  obtain ⟨fuel, hf⟩ := h
  have h34 : Try.prog.cellsOf 34 = 1 := by kernel_rfl
  have hrb : reachBytes = 140737488351232 := by decide
  have h5 : Try.prog.bytesOf 5 = 1 := by kernel_rfl
  rcases Deep.open_slice Try.underlying48 hf with ⟨hcs, _⟩ | ⟨x, l, c, m, n, D, Pl, hcs, _, hl, hmx, hm, hxe, hcell⟩
  · simp [Value.cells] at hcs
    obtain ⟨rfl, rfl, rfl⟩ := hcs
    exact fun i hi => absurd hi (Nat.not_lt_zero _)
  · simp [Value.cells] at hcs
    obtain ⟨rfl, rfl, rfl⟩ := hcs
    have hm' : m = cap := by simpa using hm
    rw [h34] at hcell
    obtain ⟨hd, _⟩ := Prod.mk.inj hxe
    subst hd
    have each : ∀ i, i < len → ∃ (q : Option Addr) (l' c' : Nat) (xs : List Nat), W.cell? (x.add i) = some (.slice q l' c') ∧ Has W q xs ∧ xs.length = l' ∧ l' ≤ c' ∧ l' ≤ 140737488351232 := fun i hi => by
      obtain ⟨cs, h1, h2⟩ := hcell i (by omega)
      obtain ⟨_, hlen, h3⟩ := World.cells?_some h1
      have h0 := h3 0 (by omega)
      match cs, hlen with
      | [v], _ =>
        obtain ⟨q, l', c', rfl⟩ := slice_cell Try.underlying34 h2
        obtain ⟨xs, q1, q2, _, q4⟩ := bytes_open (d := D i) (p := Pl i) ⟨n, h2⟩
        have hwi : ∀ k ∈ (D i).weights Try.prog 34, k ≤ reachBytes := fun k hk => hw k (by
          simp only [DataW.weights, Try.underlying48, List.mem_cons, List.mem_append]
          exact .inr (.inl (weightsAll_mem (List.mem_map.2 ⟨i, List.mem_range.2 hi, rfl⟩) k hk)))
        have l4 := slice_len Try.underlying34 h2 hwi
        rw [h5] at l4
        refine ⟨q, l', c', xs, ?_, q4, q1, q2, by omega⟩
        rw [Deep.add_add, Nat.mul_one, Nat.add_zero] at h0
        exact h0
    intro i hi
    obtain ⟨q, l', c', xs, h1, h2, h3, h4, h6⟩ := each i hi
    obtain ⟨b, off, spot⟩ := x
    have hspot : spot = none := by
      obtain ⟨q0, l0, c0, xs0, e1, _⟩ := each 0 (by omega)
      simpa [Addr.add] using World.cell?_spot e1
    subst hspot
    simp only [add_plain] at h1
    exact ⟨b, off, q, l', c', xs, rfl, h1, h2, h3, h4, h6⟩

theorem ledgerForms_lifted (os : Os) (started : os.Started) (H : Type) (enc : TypeId × Value → H) :
    ReturnsInHanded {} Try.checked os 4 .any (Rows.ledgerFormsSpec.pre6 enc Try.prog Try.f4 Rows.ledgerFormsRow.domain false) (Rows.ledgerFormsSpec.post enc Try.prog Try.f4 false true false false) := by
  refine returnsInHanded_of_change_sized (C := Try.checked) own started (by kernel_rfl) Try.func4
    (ChangeSpec.witness6 (enc := enc) (C := Try.checked) false ⟨#[], #[.slice none 0 0, .slice none 0 0, .int .u8 0, .slice none 0 0], []⟩ 8 (by kernel_rfl) (by kernel_rfl) (by kernel_rfl) (by kernel_rfl)) ?_
  intro W base args ds gs before hval0 hW hcnd hsz0 _
  have hsz : (DataW.weightsEach Try.prog (Try.f4.params.toList ++ Rows.ledgerFormsSpec.plain.varTypes Try.prog) (ds ++ gs)).all (· ≤ reachBytes) = true := hsz0
  have hval : ∀ (j : Nat) t v, Try.f4.params[j]? = some t → args[j]? = some v → Value.okWide Try.prog W .any base t v := hval0
  have hW' := hW
  obtain ⟨p, q, hA0, hV, rfl, hfz, hnd⟩ := hW
  have hA : DataW.TrodAll enc Try.prog W 0 (fun _ => true) true Try.f4.params.toList args.toList ds p := hA0
  rw [Try.params4] at hA hval hsz
  obtain ⟨v0, vs0, d0, ds0, p0, q0, hargs, rfl, rfl, h0, r0⟩ := trodAll_cons hA
  obtain ⟨v1, vs1, d1, ds1, p1, q1, rfl, rfl, rfl, h1, r1⟩ := trodAll_cons r0
  obtain ⟨v2, vs2, d2, ds2, p2, q2, rfl, rfl, rfl, h2, r2⟩ := trodAll_cons r1
  obtain ⟨v3, vs3, d3, ds3, p3, q3, rfl, rfl, rfl, h3, r3⟩ := trodAll_cons r2
  obtain ⟨rfl, rfl, rfl⟩ := trodAll_nil r3
  obtain rfl : args = #[v0, v1, v2, v3] := by cases args; simp_all
  obtain ⟨rfl, rfl⟩ := trodVars_none hV
  obtain ⟨a0, len0, cap0, rfl⟩ := okWide_slice Try.underlying46 (hval 0 46 v0 rfl rfl)
  obtain ⟨a1, len1, cap1, rfl⟩ := okWide_slice Try.underlying47 (hval 1 47 v1 rfl rfl)
  obtain ⟨x2, rfl, rfl, rfl, w2⟩ := open_int Try.underlying5 (hval 2 5 v2 rfl rfl) h2
  obtain ⟨a3, len3, cap3, rfl⟩ := okWide_slice Try.underlying48 (hval 3 48 v3 rfl rfl)
  have lt0 : ∀ x ∈ p0, x.block < W.heap.size := by obtain ⟨m, hm⟩ := h0; exact DataW.trod_lt m _ _ _ hm
  have lt1 : ∀ x ∈ p1, x.block < W.heap.size := by obtain ⟨m, hm⟩ := h1; exact DataW.trod_lt m _ _ _ hm
  have lt3 : ∀ x ∈ p3, x.block < W.heap.size := by obtain ⟨m, hm⟩ := h3; exact DataW.trod_lt m _ _ _ hm
  clear hA0 hval0
  have hall := List.all_eq_true.1 hsz
  have hrb : reachBytes = 140737488351232 := by decide
  have hb := byte_of_wf w2
  obtain ⟨by_, rfl⟩ : ∃ y : Nat, x2 = (y : Int) := ⟨x2.toNat, by omega⟩
  have hT0 := acts_open h0 (fun k hk => by simpa using hall k (DataW.weights_mem_each (j := 0) rfl rfl k hk))
  have hT3 := raw_open h3 (fun k hk => by simpa using hall k (DataW.weights_mem_each (j := 3) rfl rfl k hk))
  have hl0 : len0 * Try.prog.bytesOf 59 ≤ reachBytes := by
    obtain ⟨m, hm⟩ := h0
    exact slice_len Try.underlying46 hm (fun k hk => by simpa using hall k (DataW.weights_mem_each (j := 0) rfl rfl k hk))
  rw [show Try.prog.bytesOf 59 = 80 by kernel_rfl] at hl0
  have hl1 : len1 * Try.prog.bytesOf 3 ≤ reachBytes := by
    obtain ⟨m, hm⟩ := h1
    exact slice_len Try.underlying47 hm (fun k hk => by simpa using hall k (DataW.weights_mem_each (j := 1) rfl rfl k hk))
  rw [bytes3] at hl1
  have hl3 : len3 * Try.prog.bytesOf 34 ≤ reachBytes := by
    obtain ⟨m, hm⟩ := h3
    exact slice_len Try.underlying48 hm (fun k hk => by simpa using hall k (DataW.weights_mem_each (j := 3) rfl rfl k hk))
  rw [show Try.prog.bytesOf 34 = 24 by kernel_rfl] at hl3
  obtain ⟨ys, hy1, _, _, hy4⟩ := ints_open h1
  refine (forms_law a0 len0 cap0 a1 len1 cap1 ys by_ a3 len3 cap3 W hT0 (by omega) hy4 hy1 (by omega) (by omega) hT3 (by omega)).mono fun e W' ⟨he, old⟩ => ?_
  have bel : Below W.heap.size W W' := old.below (Nat.le_refl _) (fun _ _ h => h)
  subst he
  exact ⟨_, rfl, _, _, _, [], _, [], hW', trodAll_mk1 (shut_bool Try.underlying4 _), trodAll_cons_mk (Below.trod laidOut (by kernel_rfl) (of_decide_eq_true (by kernel_rfl)) h0 bel lt0) (trodAll_cons_mk (Below.trod laidOut (by kernel_rfl) (of_decide_eq_true (by kernel_rfl)) h1 bel lt1) (trodAll_cons_mk (shut_int Try.underlying5 w2) (trodAll_cons_mk (Below.trod laidOut (by kernel_rfl) (of_decide_eq_true (by kernel_rfl)) h3 bel lt3) trodAll_mk0))), rfl, bel.frame _, fun h => by cases h⟩

theorem ledgerForms_holds : Rows.LedgerFormsSaid :=
  OpenClaim.holds_of_wide 4 Try.f4 rfl rfl rfl rfl rfl rfl rfl ⟨rfl, rfl, rfl, rfl, rfl⟩ rfl rfl rfl rfl rfl (by kernel_rfl) Try.func4 (by kernel_rfl)
    (of_decide_eq_true (by kernel_rfl)) (by unfold Func.isWrapper; first | (rw [if_pos (by decide +kernel)]; kernel_rfl) | (rw [if_neg (by decide +kernel)]; exact ⟨rfl, rfl⟩))
    (fun os started H enc _ => ledgerForms_lifted os started H enc)
#print axioms ledgerForms_holds
end Go.Proofs.Ytmingbgohdhajaa
