/- lariatlaw1.OnceTables returns true for every slice of askings, and leaves its argument as it was. Conditions: none. -/
import Derived.Test.YtnhepceannajeaaRow
import Derived.Test.YtnhepceannajeaaTW
import Derived.Deep.Slices
namespace Go.Proofs.Ytnhepceannajeaa
open Go.ChangeShapes Go.WideShapes Go.ChangeAt Go.RowKit

theorem fits_of_wf {n : Int} (h : (Lit.int .i64 n).wf = true) : Fits n := by
  simp [Lit.wf, IntKind.min, IntKind.max, IntKind.signed, IntKind.bits] at h
  exact ⟨by omega, by omega⟩

/-- One asking's four cells. -/
theorem ask_cells {H : Type} {enc : TypeId × Value → H} {W : World} {n : Nat} {cs : List Value} {x : DataW H × List MemPlace}
    (h : DataW.trod enc Try.prog W 0 (fun _ => true) true n 34 cs = some x) : ∃ q : Nat → Int, cs = [.int .i64 (q 0), .int .i64 (q 1), .int .i64 (q 2), .int .i64 (q 3)] ∧ ∀ c, c < 4 → Fits (q c) := by
  obtain ⟨xs, m, _, _, hl, hx, hf⟩ := DataW.trod_struct Try.underlying34 h
  have h34 : Try.prog.cellsOf 34 = 4 := by kernel_rfl
  have hx' : xs.length = 4 := hx
  rw [h34] at hl
  match cs, hl with
  | [c0, c1, c2, c3], _ =>
    match xs, hx' with
    | [y0, y1, y2, y3], _ =>
      have f0 := hf 0 _ rfl
      have f1 := hf 1 _ rfl
      have f2 := hf 2 _ rfl
      have f3 := hf 3 _ rfl
      simp only [List.getElem?_cons_zero, List.getElem?_cons_succ] at f0 f1 f2 f3
      obtain ⟨n0, e0, _, w0⟩ := DataW.trod_int Try.underlying3 f0
      obtain ⟨n1, e1, _, w1⟩ := DataW.trod_int Try.underlying3 f1
      obtain ⟨n2, e2, _, w2⟩ := DataW.trod_int Try.underlying3 f2
      obtain ⟨n3, e3, _, w3⟩ := DataW.trod_int Try.underlying3 f3
      cases e0; cases e1; cases e2; cases e3
      refine ⟨fun c => match c with | 0 => n0 | 1 => n1 | 2 => n2 | _ => n3, rfl, fun c hc => ?_⟩
      match c, hc with
      | 0, _ => exact fits_of_wf w0
      | 1, _ => exact fits_of_wf w1
      | 2, _ => exact fits_of_wf w2
      | 3, _ => exact fits_of_wf w3

theorem asks_open {H : Type} {enc : TypeId × Value → H} {W : World} {a : Option Addr} {len cap : Nat} {d : DataW H} {p : List MemPlace}
    (h : DataW.Trod enc Try.prog W 0 (fun _ => true) true 31 (.slice a len cap) d p) : ∃ q, AskRow W a len q := by
  obtain ⟨fuel, hf⟩ := h
  have h34 : Try.prog.cellsOf 34 = 4 := by kernel_rfl
  rcases Deep.open_slice Try.underlying31 hf with ⟨hcs, _⟩ | ⟨x, l, c, m, n, D, Pl, hcs, _, hl, _, hm, _, hcell⟩
  · simp [Value.cells] at hcs
    obtain ⟨rfl, rfl, rfl⟩ := hcs
    exact ⟨fun _ _ => 0, fun i hi => absurd hi (by omega)⟩
  · simp [Value.cells] at hcs
    obtain ⟨rfl, rfl, rfl⟩ := hcs
    have hm' : m = cap := by simpa using hm
    rw [h34] at hcell
    have hone : ∀ i, i < len → ∃ q : Nat → Int, (∀ c, c < 4 → W.cell? (x.add (i * 4 + c)) = some (.int .i64 (q c))) ∧ ∀ c, c < 4 → Fits (q c) := fun i hi => by
      obtain ⟨cs, h1, h2⟩ := hcell i (by omega)
      obtain ⟨q, rfl, hq⟩ := ask_cells h2
      obtain ⟨_, _, h3⟩ := World.cells?_some h1
      refine ⟨q, fun c hc => ?_, hq⟩
      rw [← Deep.add_add, h3 c hc]
      match c, hc with
      | 0, _ => rfl
      | 1, _ => rfl
      | 2, _ => rfl
      | 3, _ => rfl
    obtain ⟨q, hq⟩ := Deep.choose_lt hone
    refine ⟨q, fun i hi => ?_⟩
    obtain ⟨b, off, spot⟩ := x
    have hspot : spot = none := by
      have h0 := (hq 0 (by omega)).1 0 (by omega)
      simpa [Addr.add] using World.cell?_spot h0
    subst hspot
    obtain ⟨hc, hfit⟩ := hq i hi
    simp only [add_plain, ← Nat.add_assoc] at hc
    have h0 := hc 0 (by omega)
    exact ⟨b, off, rfl, by have := lt_of_cell? h0; simpa using this, ⟨h0, hc 1 (by omega), hc 2 (by omega), hc 3 (by omega)⟩, hfit⟩

set_option maxRecDepth 100000 in
theorem onceTables_lifted (os : Os) (started : os.Started) (H : Type) (enc : TypeId × Value → H) :
    ReturnsInHanded {} Try.checked os 4 .any (Rows.onceTablesSpec.pre6 enc Try.prog Try.f4 Rows.onceTablesRow.domain false) (Rows.onceTablesSpec.post enc Try.prog Try.f4 false true false false) := by
  refine returnsInHanded_of_change (C := Try.checked) own started (by kernel_rfl) Try.func4
    (ChangeSpec.witness6 (enc := enc) (C := Try.checked) false ⟨#[], #[.slice none 0 0], []⟩ 8 (by kernel_rfl) (by kernel_rfl) (by kernel_rfl) (by kernel_rfl)) ?_
  intro W base args ds gs before hval0 hW hcnd _
  have hval : ∀ (j : Nat) t v, Try.f4.params[j]? = some t → args[j]? = some v → Value.okWide Try.prog W .any base t v := hval0
  have hW' := hW
  obtain ⟨p, q, hA0, hV, rfl, hfz, hnd⟩ := hW
  have hA : DataW.TrodAll enc Try.prog W 0 (fun _ => true) true Try.f4.params.toList args.toList ds p := hA0
  rw [Try.params4] at hA hval
  obtain ⟨v0, d0, rfl, rfl, h0⟩ := trodAll_one hA
  obtain ⟨rfl, rfl⟩ := trodVars_none hV
  obtain ⟨a0, len0, cap0, rfl⟩ := okWide_slice Try.underlying31 (hval 0 31 v0 rfl rfl)
  have lt0 : ∀ x ∈ p, x.block < W.heap.size := by obtain ⟨m, hm⟩ := h0; exact DataW.trod_lt m _ _ _ hm
  clear hA0 hval0
  obtain ⟨qs, hr⟩ := asks_open h0
  refine (tables_law a0 len0 cap0 W qs hr).mono fun e W' ⟨he, bel⟩ => ?_
  subst he
  exact ⟨_, rfl, _, _, _, [], _, [], hW', trodAll_mk1 (shut_bool Try.underlying4 _), trodAll_cons_mk (Below.trod laidOut (by kernel_rfl) (of_decide_eq_true (by kernel_rfl)) h0 bel lt0) trodAll_mk0, rfl, bel.frame _, fun h => by cases h⟩

theorem onceTables_holds : Rows.OnceTablesSaid :=
  OpenClaim.holds_of_wide 4 Try.f4 rfl rfl rfl rfl rfl rfl rfl ⟨rfl, rfl, rfl, rfl, rfl⟩ rfl rfl rfl rfl rfl (by kernel_rfl) Try.func4 (by kernel_rfl)
    (of_decide_eq_true (by kernel_rfl)) (by unfold Func.isWrapper; first | (rw [if_pos (by decide +kernel)]; kernel_rfl) | (rw [if_neg (by decide +kernel)]; exact ⟨rfl, rfl⟩))
    (fun os started H enc _ => onceTables_lifted os started H enc)
#print axioms onceTables_holds
end Go.Proofs.Ytnhepceannajeaa
