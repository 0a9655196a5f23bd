/- Acts that came in, opened to their cells. -/
import Derived.Test.YtjajenkagcdhlaaGreatOpenI
import Derived.Test.YtjajenkagcdhlaaGreatJM
import Derived.SizedLaws
namespace Go.Proofs.YtjajenkagcdhlaaGreat
open Go.ChangeShapes Go.WideShapes Go.ChangeAt Go.RowKit
set_option maxRecDepth 100000

theorem slice_cell {H : Type} {enc : TypeId × Value → H} {W : World} {n : Nat} {t e : TypeId} {c : Value} {x : DataW H × List MemPlace} (ht : Tryz.prog.underlying t = some (.slice e)) (h : DataW.trod enc Tryz.prog W 0 (fun _ => true) true n t [c] = some x) :
    ∃ a len cap, c = .slice a len cap := by
  rcases Deep.open_slice ht h with ⟨hcs, _⟩ | ⟨y, l, cp, m, k, D, Pl, hcs, _⟩
  · cases hcs; exact ⟨_, _, _, rfl⟩
  · cases hcs; exact ⟨_, _, _, rfl⟩
/-- How long a slice is, by its weight. -/
theorem slice_len {H : Type} {enc : TypeId × Value → H} {W : World} {n : Nat} {t e : TypeId} {a : Option Addr} {len cap : Nat} {x : DataW H × List MemPlace} (ht : Tryz.prog.underlying t = some (.slice e)) (h : DataW.trod enc Tryz.prog W 0 (fun _ => true) true n t [.slice a len cap] = some x)
    (hw : ∀ k ∈ x.1.weights Tryz.prog t, k ≤ reachBytes) : len * Tryz.prog.bytesOf e ≤ reachBytes := by
  rcases Deep.open_slice ht h with ⟨hcs, _⟩ | ⟨y, l, cp, m, k, D, Pl, hcs, _, _, _, _, hx, _⟩
  · cases hcs; simp
  · cases hcs
    subst hx
    have := hw ((((List.range len).map D).length + ((List.range (m - len)).map fun j => D (len + j)).length) * Tryz.prog.bytesOf e) (by simp [DataW.weights, ht])
    simp only [List.length_map, List.length_range] at this
    exact Nat.le_trans (Nat.mul_le_mul_right _ (by omega)) this
theorem weightsAll_mem {H : Type} {e : TypeId} : ∀ {l : List (DataW H)} {d : DataW H}, d ∈ l → ∀ n ∈ d.weights Tryz.prog e, n ∈ DataW.weightsAll Tryz.prog e l
  | d0 :: r, d, hd, n, hn => by
    simp only [DataW.weightsAll, List.mem_append]
    rcases List.mem_cons.1 hd with rfl | h
    · exact .inl hn
    · exact .inr (weightsAll_mem h n hn)
theorem bytes3 : Tryz.prog.bytesOf 3 = 8 := by kernel_rfl
theorem bytes5 : Tryz.prog.bytesOf 5 = 1 := by kernel_rfl

/-- One act's seven cells. -/
theorem act_cells {H : Type} {enc : TypeId × Value → H} {W : World} {n : Nat} {cs : List Value} {x : DataW H × List MemPlace}
    (h : DataW.trod enc Tryz.prog W 0 (fun _ => true) true n 33 cs = some x) (hw : ∀ k ∈ x.1.weights Tryz.prog 33, k ≤ reachBytes) :
    ∃ r : ActR, cs = [.int .i64 r.what, .int .i64 r.id, .int .i64 r.n, .int .i64 r.torn, .int .i64 r.cut, .slice r.ba r.bl r.bc, .slice r.ka r.kl r.kc] ∧ ActIn W r := by
  obtain ⟨xs, m, _, hxe, hl, hx, hf⟩ := DataW.trod_struct Tryz.underlying33 h
  have h59 : Tryz.prog.cellsOf 33 = 7 := by kernel_rfl
  have hx' : xs.length = 7 := hx
  rw [h59] at hl
  match cs, hl with
  | [c0, c1, c2, c3, c4, c5, c6], _ =>
    match xs, hx' with
    | [y0, y1, y2, y3, y4, y5, y6], _ =>
      have f0 := hf 0 _ rfl
      have f1 := hf 1 _ rfl
      have f2 := hf 2 _ rfl
      have f3 := hf 3 _ rfl
      have f4 := hf 4 _ rfl
      have f5 := hf 5 _ rfl
      have f6 := hf 6 _ rfl
      simp only [List.getElem?_cons_zero, List.getElem?_cons_succ] at f0 f1 f2 f3 f4 f5 f6
      obtain ⟨n0, e0, _, _⟩ := DataW.trod_int Tryz.underlying3 f0
      obtain ⟨n1, e1, _, w1⟩ := DataW.trod_int Tryz.underlying3 f1
      obtain ⟨n2, e2, _, w2⟩ := DataW.trod_int Tryz.underlying3 f2
      obtain ⟨n3, e3, _, _⟩ := DataW.trod_int Tryz.underlying3 f3
      obtain ⟨n4, e4, _, _⟩ := DataW.trod_int Tryz.underlying3 f4
      cases e0; cases e1; cases e2; cases e3; cases e4
      have f5' : DataW.trod enc Tryz.prog W 0 (fun _ => true) true m 30 [c5] = some y5 := f5
      have f6' : DataW.trod enc Tryz.prog W 0 (fun _ => true) true m 31 [c6] = some y6 := f6
      obtain ⟨ba, bl, bc, rfl⟩ := slice_cell Tryz.underlying30 f5'
      obtain ⟨ka, kl, kc, rfl⟩ := slice_cell Tryz.underlying31 f6'
      obtain ⟨bs, hb1, hb2, hb3, hb4⟩ := bytes_open (d := y5.1) (p := y5.2) ⟨m, f5'⟩
      obtain ⟨ks, hk1, hk2, hk3, hk4⟩ := ints_open (d := y6.1) (p := y6.2) ⟨m, f6'⟩
      subst hxe
      have hw5 : ∀ k ∈ y5.1.weights Tryz.prog 30, k ≤ reachBytes := fun k hk => hw k (by
        simp only [DataW.weights, Tryz.underlying33]
        exact DataW.weights_mem_each (j := 5) rfl rfl k hk)
      have hw6 : ∀ k ∈ y6.1.weights Tryz.prog 31, k ≤ reachBytes := fun k hk => hw k (by
        simp only [DataW.weights, Tryz.underlying33]
        exact DataW.weights_mem_each (j := 6) rfl rfl k hk)
      have l5 := slice_len Tryz.underlying30 f5' hw5
      have l6 := slice_len Tryz.underlying31 f6' hw6
      rw [bytes5] at l5
      rw [bytes3] at l6
      have hrb : reachBytes = 140737488351232 := by decide
      refine ⟨⟨n0, n1, n2, n3, n4, ba, bl, bc, bs, ka, kl, kc, ks⟩, rfl, ⟨fits_of_wf w1, fits_of_wf w2, hb4, hb1, hb2, hk4, hk1, ?_, ?_⟩⟩
      · show bl ≤ _; omega
      · show kl ≤ _; omega

theorem acts_open {H : Type} {enc : TypeId × Value → H} {W : World} {a : Option Addr} {len cap : Nat} {d : DataW H} {p : List MemPlace}
    (h : DataW.Trod enc Tryz.prog W 0 (fun _ => true) true 22 (.slice a len cap) d p) (hw : ∀ k ∈ d.weights Tryz.prog 22, k ≤ reachBytes) : HasA W a len := by
  obtain ⟨fuel, hf⟩ := h
  have h59 : Tryz.prog.cellsOf 33 = 7 := by kernel_rfl
  rcases Deep.open_slice Tryz.underlying22 hf with ⟨hcs, _⟩ | ⟨x, l, c, m, n, D, Pl, hcs, _, hl, hmx, hm, hxe, hcell⟩
  · simp [Value.cells] at hcs
    obtain ⟨rfl, rfl, rfl⟩ := hcs
    exact fun i hi => absurd hi (Nat.not_lt_zero _)
  · simp [Value.cells] at hcs
    obtain ⟨rfl, rfl, rfl⟩ := hcs
    have hm' : m = cap := by simpa using hm
    rw [h59] at hcell
    obtain ⟨hd, _⟩ := Prod.mk.inj hxe
    subst hd
    intro i hi
    obtain ⟨cs, h1, h2⟩ := hcell i (by omega)
    obtain ⟨r, rfl, hr⟩ := act_cells h2 (fun k hk => hw k (by
      simp only [DataW.weights, Tryz.underlying22, List.mem_cons, List.mem_append]
      exact .inr (.inl (weightsAll_mem (List.mem_map.2 ⟨i, List.mem_range.2 hi, rfl⟩) k hk))))
    obtain ⟨_, _, h3⟩ := World.cells?_some h1
    have h0 := h3 0 (by omega)
    have h10 := h3 1 (by omega)
    have h20 := h3 2 (by omega)
    have h30 := h3 3 (by omega)
    have h40 := h3 4 (by omega)
    have h50 := h3 5 (by omega)
    have h60 := h3 6 (by omega)
    rw [Deep.add_add] at h0 h10 h20 h30 h40 h50 h60
    obtain ⟨b, off, spot⟩ := x
    have hspot : spot = none := by
      obtain ⟨cs0, q1, q2⟩ := hcell 0 (by omega)
      obtain ⟨r0, rfl, _⟩ := act_cells q2 (fun k hk => hw k (by
        simp only [DataW.weights, Tryz.underlying22, List.mem_cons, List.mem_append]
        exact .inr (.inl (weightsAll_mem (List.mem_map.2 ⟨0, List.mem_range.2 (by omega), rfl⟩) k hk))))
      obtain ⟨_, _, q3⟩ := World.cells?_some q1
      have q4 := q3 0 (by omega)
      rw [Deep.add_add] at q4
      simpa [Addr.add] using World.cell?_spot q4
    subst hspot
    simp only [add_plain, ← Nat.add_assoc, Nat.add_zero] at h0 h10 h20 h30 h40 h50 h60
    exact ⟨b, off, r, rfl, ⟨h0, h10, h20, h30, h40, h50, h60⟩, hr⟩
/-- How many acts there are at most. -/
theorem acts_len {H : Type} {enc : TypeId × Value → H} {W : World} {a : Option Addr} {len cap : Nat} {d : DataW H} {p : List MemPlace}
    (h : DataW.Trod enc Tryz.prog W 0 (fun _ => true) true 22 (.slice a len cap) d p) (hw : ∀ k ∈ d.weights Tryz.prog 22, k ≤ reachBytes) : len ≤ 140737488355328 := by
  obtain ⟨m, hm⟩ := h
  have hl := slice_len Tryz.underlying22 hm hw
  have hrb : reachBytes = 140737488351232 := by decide
  have hp : 0 < Tryz.prog.bytesOf 33 := by decide +kernel
  have := Nat.le_mul_of_pos_right len hp
  omega
end Go.Proofs.YtjajenkagcdhlaaGreat
