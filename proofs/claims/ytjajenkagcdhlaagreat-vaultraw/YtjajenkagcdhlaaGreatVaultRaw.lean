/- lariatlaw6.VaultRaw returns true for every slice of acts, slice of numbers, slice of bytes and slice of slices of bytes, and leaves its arguments as they were. Conditions: none. -/
import Derived.Test.YtjajenkagcdhlaaGreatActo
import Derived.Test.YtjajenkagcdhlaaGreatJX
namespace Go.Proofs.YtjajenkagcdhlaaGreat
open Go.ChangeShapes Go.WideShapes Go.ChangeAt Go.RowKit
set_option maxRecDepth 100000

/-- A slice of numbers that came in: each fits. -/
theorem ints_open2 {H : Type} {enc : TypeId × Value → H} {W : World} {a : Option Addr} {len cap : Nat} {d : DataW H} {p : List MemPlace}
    (h : DataW.Trod enc Tryz.prog W 0 (fun _ => true) true 31 (.slice a len cap) d p) : ∃ ys : List Int, ys.length = len ∧ HasI W a ys ∧ ∀ y ∈ ys, Fits y := by
  obtain ⟨fuel, hf⟩ := h
  rcases open_ints Tryz.underlying31 Tryz.underlying3 one3 hf with ⟨hcs, _⟩ | ⟨x, l, c, zs, hcs, _, hl, hm, hz, _, hcell, hwz⟩
  · simp [Value.cells] at hcs
    obtain ⟨rfl, rfl, rfl⟩ := hcs
    exact ⟨[], rfl, HasI.nil _ _, fun y hy => by cases hy⟩
  · simp [Value.cells] at hcs
    obtain ⟨rfl, rfl, rfl⟩ := hcs
    simp only [if_true] at hz
    refine ⟨zs.take len, by simp; omega, ⟨fun i hi => ?_⟩, fun y hy => fits_of_wf (hwz y (List.mem_of_mem_take hy))⟩
    have hi' : i < len := by simp at hi; omega
    have hiz : i < zs.length := by omega
    have hc := hcell i hiz
    obtain ⟨b, off, spot⟩ := x
    have hspot : spot = none := by
      have h0 := hcell 0 (by omega)
      simpa [Addr.add] using World.cell?_spot h0
    subst hspot
    simp only [add_plain] at hc
    refine ⟨b, off, rfl, ?_⟩
    rw [hc]
    simp only [List.getD_eq_getElem?_getD, List.getElem?_take_of_lt hi', List.getElem?_eq_getElem hiz, Option.getD_some]

theorem raw_open {H : Type} {enc : TypeId × Value → H} {W : World} {a : Option Addr} {len cap : Nat} {d : DataW H} {p : List MemPlace}
    (h : DataW.Trod enc Tryz.prog W 0 (fun _ => true) true 54 (.slice a len cap) d p) (hw : ∀ k ∈ d.weights Tryz.prog 54, k ≤ reachBytes) : HasB W a len := by
  obtain ⟨fuel, hf⟩ := h
  have h34 : Tryz.prog.cellsOf 30 = 1 := by kernel_rfl
  have hrb : reachBytes = 140737488351232 := by decide
  have h5 : Tryz.prog.bytesOf 5 = 1 := by kernel_rfl
  rcases Deep.open_slice Tryz.underlying54 hf with ⟨hcs, _⟩ | ⟨x, l, c, m, n, D, Pl, hcs, _, hl, hmx, hm, hxe, hcell⟩
  · simp [Value.cells] at hcs
    obtain ⟨rfl, rfl, rfl⟩ := hcs
    exact fun i hi => absurd hi (Nat.not_lt_zero _)
  · simp [Value.cells] at hcs
    obtain ⟨rfl, rfl, rfl⟩ := hcs
    have hm' : m = cap := by simpa using hm
    rw [h34] at hcell
    obtain ⟨hd, _⟩ := Prod.mk.inj hxe
    subst hd
    have each : ∀ i, i < len → ∃ (q : Option Addr) (l' c' : Nat) (xs : List Nat), W.cell? (x.add i) = some (.slice q l' c') ∧ Has W q xs ∧ xs.length = l' ∧ l' ≤ c' ∧ l' ≤ 140737488351232 := fun i hi => by
      obtain ⟨cs, h1, h2⟩ := hcell i (by omega)
      obtain ⟨_, hlen, h3⟩ := World.cells?_some h1
      have h0 := h3 0 (by omega)
      match cs, hlen with
      | [v], _ =>
        obtain ⟨q, l', c', rfl⟩ := slice_cell Tryz.underlying30 h2
        obtain ⟨xs, q1, q2, _, q4⟩ := bytes_open (d := D i) (p := Pl i) ⟨n, h2⟩
        have hwi : ∀ k ∈ (D i).weights Tryz.prog 30, k ≤ reachBytes := fun k hk => hw k (by
          simp only [DataW.weights, Tryz.underlying54, List.mem_cons, List.mem_append]
          exact .inr (.inl (weightsAll_mem (List.mem_map.2 ⟨i, List.mem_range.2 hi, rfl⟩) k hk)))
        have l4 := slice_len Tryz.underlying30 h2 hwi
        rw [h5] at l4
        refine ⟨q, l', c', xs, ?_, q4, q1, q2, by omega⟩
        rw [Deep.add_add, Nat.mul_one, Nat.add_zero] at h0
        exact h0
    intro i hi
    obtain ⟨q, l', c', xs, h1, h2, h3, h4, h6⟩ := each i hi
    obtain ⟨b, off, spot⟩ := x
    have hspot : spot = none := by
      obtain ⟨q0, l0, c0, xs0, e1, _⟩ := each 0 (by omega)
      simpa [Addr.add] using World.cell?_spot e1
    subst hspot
    simp only [add_plain] at h1
    exact ⟨b, off, q, l', c', xs, rfl, h1, h2, h3, h4, h6⟩

theorem vaultRaw_lifted (os : Os) (started : os.Started) (H : Type) (enc : TypeId × Value → H) :
    ReturnsInHanded {} Tryz.checked os 6 .any (Rows.vaultRawSpec.pre6 enc Tryz.prog Tryz.f6 Rows.vaultRawRow.domain false) (Rows.vaultRawSpec.post enc Tryz.prog Tryz.f6 false true false false) := by
  refine returnsInHanded_of_change_sized (C := Tryz.checked) own started (by kernel_rfl) Tryz.func6
    (ChangeSpec.witness6 (enc := enc) (C := Tryz.checked) false ⟨#[], #[.slice none 0 0, .slice none 0 0, .slice none 0 0, .slice none 0 0], []⟩ 8 (by kernel_rfl) (by kernel_rfl) (by kernel_rfl) (by kernel_rfl)) ?_
  intro W base args ds gs before hval0 hW hcnd hsz0 _
  have hsz : (DataW.weightsEach Tryz.prog (Tryz.f6.params.toList ++ Rows.vaultRawSpec.plain.varTypes Tryz.prog) (ds ++ gs)).all (· ≤ reachBytes) = true := hsz0
  have hval : ∀ (j : Nat) t v, Tryz.f6.params[j]? = some t → args[j]? = some v → Value.okWide Tryz.prog W .any base t v := hval0
  have hW' := hW
  obtain ⟨p, q, hA0, hV, rfl, hfz, hnd⟩ := hW
  have hA : DataW.TrodAll enc Tryz.prog W 0 (fun _ => true) true Tryz.f6.params.toList args.toList ds p := hA0
  rw [Tryz.params6] at hA hval hsz
  obtain ⟨v0, vs0, d0, ds0, p0, q0, hargs, rfl, rfl, h0, r0⟩ := trodAll_cons hA
  obtain ⟨v1, vs1, d1, ds1, p1, q1, rfl, rfl, rfl, h1, r1⟩ := trodAll_cons r0
  obtain ⟨v2, vs2, d2, ds2, p2, q2, rfl, rfl, rfl, h2, r2⟩ := trodAll_cons r1
  obtain ⟨v3, vs3, d3, ds3, p3, q3, rfl, rfl, rfl, h3, r3⟩ := trodAll_cons r2
  obtain ⟨rfl, rfl, rfl⟩ := trodAll_nil r3
  obtain rfl : args = #[v0, v1, v2, v3] := by cases args; simp_all
  obtain ⟨rfl, rfl⟩ := trodVars_none hV
  obtain ⟨a0, len0, cap0, rfl⟩ := okWide_slice Tryz.underlying22 (hval 0 22 v0 rfl rfl)
  obtain ⟨a1, len1, cap1, rfl⟩ := okWide_slice Tryz.underlying31 (hval 1 31 v1 rfl rfl)
  obtain ⟨a2, len2, cap2, rfl⟩ := okWide_slice Tryz.underlying30 (hval 2 30 v2 rfl rfl)
  obtain ⟨a3, len3, cap3, rfl⟩ := okWide_slice Tryz.underlying54 (hval 3 54 v3 rfl rfl)
  have lt0 : ∀ x ∈ p0, x.block < W.heap.size := by obtain ⟨m, hm⟩ := h0; exact DataW.trod_lt m _ _ _ hm
  have lt1 : ∀ x ∈ p1, x.block < W.heap.size := by obtain ⟨m, hm⟩ := h1; exact DataW.trod_lt m _ _ _ hm
  have lt2 : ∀ x ∈ p2, x.block < W.heap.size := by obtain ⟨m, hm⟩ := h2; exact DataW.trod_lt m _ _ _ hm
  have lt3 : ∀ x ∈ p3, x.block < W.heap.size := by obtain ⟨m, hm⟩ := h3; exact DataW.trod_lt m _ _ _ hm
  clear hA0 hval0
  have hall := List.all_eq_true.1 hsz
  have hrb : reachBytes = 140737488351232 := by decide
  have hw0 : ∀ k ∈ d0.weights Tryz.prog 22, k ≤ reachBytes := fun k hk => by simpa using hall k (DataW.weights_mem_each (j := 0) rfl rfl k hk)
  have hT0 := acts_open h0 hw0
  have hl0 := acts_len h0 hw0
  obtain ⟨ys, y1, y2, y3⟩ := ints_open2 h1
  have hl1 : len1 * Tryz.prog.bytesOf 3 ≤ reachBytes := by
    obtain ⟨m, hm⟩ := h1
    exact slice_len Tryz.underlying31 hm (fun k hk => by simpa using hall k (DataW.weights_mem_each (j := 1) rfl rfl k hk))
  rw [bytes3] at hl1
  obtain ⟨bs, b1, _, _, b4⟩ := bytes_open h2
  have hl2 : len2 * Tryz.prog.bytesOf 5 ≤ reachBytes := by
    obtain ⟨m, hm⟩ := h2
    exact slice_len Tryz.underlying30 hm (fun k hk => by simpa using hall k (DataW.weights_mem_each (j := 2) rfl rfl k hk))
  rw [bytes5] at hl2
  have hw3 : ∀ k ∈ d3.weights Tryz.prog 54, k ≤ reachBytes := fun k hk => by simpa using hall k (DataW.weights_mem_each (j := 3) rfl rfl k hk)
  have hT3 := raw_open h3 hw3
  have hl3 : len3 * Tryz.prog.bytesOf 30 ≤ reachBytes := by
    obtain ⟨m, hm⟩ := h3
    exact slice_len Tryz.underlying54 hm hw3
  rw [show Tryz.prog.bytesOf 30 = 24 by kernel_rfl] at hl3
  refine (raw_law a0 len0 cap0 a1 len1 cap1 ys a2 len2 cap2 bs a3 len3 cap3 W hT0 hl0 y2 y1 (by omega) y3 b4 b1 (by omega) hT3 (by omega)).mono fun e W' ⟨he, bel⟩ => ?_
  subst he
  exact ⟨_, rfl, _, _, _, [], _, [], hW', trodAll_mk1 (shut_bool Tryz.underlying4 _), trodAll_cons_mk (Below.trod laidOut (by kernel_rfl) (of_decide_eq_true (by kernel_rfl)) h0 bel lt0) (trodAll_cons_mk (Below.trod laidOut (by kernel_rfl) (of_decide_eq_true (by kernel_rfl)) h1 bel lt1) (trodAll_cons_mk (Below.trod laidOut (by kernel_rfl) (of_decide_eq_true (by kernel_rfl)) h2 bel lt2) (trodAll_cons_mk (Below.trod laidOut (by kernel_rfl) (of_decide_eq_true (by kernel_rfl)) h3 bel lt3) trodAll_mk0))), rfl, bel.frame _, fun h => by cases h⟩

theorem vaultRaw_holds : Rows.VaultRawSaid :=
  OpenClaim.holds_of_wide 6 Tryz.f6 rfl rfl rfl rfl rfl rfl rfl ⟨rfl, rfl, rfl, rfl, rfl⟩ rfl rfl rfl rfl rfl (by kernel_rfl) Tryz.func6 (by kernel_rfl)
    (of_decide_eq_true (by kernel_rfl)) (by unfold Func.isWrapper; first | (rw [if_pos (by decide +kernel)]; kernel_rfl) | (rw [if_neg (by decide +kernel)]; exact ⟨rfl, rfl⟩))
    (fun os started H enc _ => vaultRaw_lifted os started H enc)
#print axioms vaultRaw_holds
end Go.Proofs.YtjajenkagcdhlaaGreat
