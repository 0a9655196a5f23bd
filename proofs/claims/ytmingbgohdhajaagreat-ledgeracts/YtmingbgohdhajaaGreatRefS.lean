/- A region that draws its order and whose calls only make memory: what a conversion reads stays; texts put together; the reference's mayBe, good. -/
import Derived.Test.YtmingbgohdhajaaGreatRefM
import Derived.Test.YtmingbgohdhajaaGreatEntJ
namespace Go.Proofs.YtmingbgohdhajaaGreat
open Go.RowKit
set_option maxRecDepth 100000

section
variable {P : Program} {ops : Array Oper} {Q : Exit → Act → World → Prop} {md : Region.Mode}
theorem wpAnyH_mono {S S' : World → Prop} (hS : ∀ w, S w → S' w) : ∀ (fuel : Nat) (listed : Array Bool) (a : Act) (w : World), wpAnyH P md ops Q S fuel listed a w → wpAnyH P md ops Q S' fuel listed a w
  | 0, _, _, _, h => h
  | fuel + 1, _, _, _, h => ⟨h.1, fun i hi => wpOp_mono (fun a' w' h' => ⟨hS w' h'.1, wpAnyH_mono hS fuel _ a' w' h'.2⟩) (h.2 i hi)⟩
/-- Whatever order is picked from here on, nothing old being turned on the way. -/
def wpGrow (P : Program) (md : Region.Mode) (ops : Array Oper) (Q : Exit → Act → World → Prop) (fuel : Nat) (listed : Array Bool) (a : Act) (w : World) : Prop :=
  wpAnyH P md ops Q (fun w' => Old w w') fuel listed a w
theorem wpGrow_take {i : Nat} {oi : Oper} {v : Value} {fuel : Nat} {listed : Array Bool} {a : Act} {w : World} (hi : ops[i]? = some oi)
    (hs : Region.noSelect ops = true) (hf : Region.free md ops listed i = true) (hr : (Region.ready md ops listed).contains i = true)
    (hQ : ∀ c a w, Q (.panic c) (a.put oi.dst v) w → Q (.panic c) a w) (hw : Region.wanted oi (yielded ops a.tmps) = true) (hy : ∀ w', Old w w' → (execOp a.eval oi).run P w' = .ok (.value v) w')
    (h : wpGrow P md ops Q fuel (listed.setIfInBounds i true) (a.put oi.dst v) w) : wpGrow P md ops Q (fuel + 1) listed a w :=
  wpAnyH_take hi hs hf hr hQ (.inl ⟨hw, hy⟩) (Touch.refl _ w) h
/-- One call, and nothing else may come up. -/
theorem wpGrow_call {i : Nat} {o : Oper} {fuel : Nat} {listed : Array Bool} {a : Act} {w : World} (ho : ops[i]? = some o) (hr : Region.ready md ops listed = [i]) (hw : Region.wanted o (yielded ops a.tmps) = true)
    (h : ∀ K : Act → World → Prop, Shut (∀ a' w', Old w w' → wpGrow P md ops Q fuel (listed.setIfInBounds i true) a' w' → K a' w') → Oper.wp P o a w K Q) : wpGrow P md ops Q (fuel + 1) listed a w := by
  refine wpAnyH_ready hr (by simp) (AllReadyH.cons ho (fun K' hK => ?_) AllReadyH.nil)
  rw [if_pos hw]
  exact h K' (fun a' w' hO hG => hK.out a' w' hO (fun _ => wpAnyH_mono (fun w2 h2 => hO.trans h2) fuel _ a' w' hG))
theorem wpGrow_done {listed : Array Bool} {a : Act} {w : World} (hr : Region.ready md ops listed = []) (h : Q .normal a w) (fuel : Nat) : wpGrow P md ops Q fuel listed a w := wpAnyH_done hr h fuel
theorem wp_region_grow {id : Nat} {a : Act} {w : World} (hm : P.follows .mixedOrders = true) (h : wpGrow P .any ops Q ops.size (Array.replicate ops.size false) a w.drew) : (Code.region id ops true).wp P Q a w :=
  wp_region_held hm h
end

theorem rstr_append (xs ys : List Nat) : strOf xs ++ strOf ys = strOf (xs ++ ys) := by
  apply ByteArray.ext
  apply Array.ext'
  rw [rstr_data, ByteArray.data_append, Array.toList_append, rstr_data, rstr_data, List.map_append]
theorem rstr_take (xs : List Nat) (n : Nat) : (strOf xs).extract 0 n = strOf (xs.take n) := by
  apply ByteArray.ext
  apply Array.ext'
  rw [rstr_data, ByteArray.data_extract, Array.toList_extract, rstr_data]
  simp [List.extract, List.map_take]
theorem rstr_extract (xs : List Nat) (n m : Nat) : (strOf xs).extract n m = strOf ((xs.drop n).take (m - n)) := by
  apply ByteArray.ext
  apply Array.ext'
  rw [rstr_data, ByteArray.data_extract, Array.toList_extract, rstr_data]
  simp [List.extract, List.map_take, List.map_drop]

theorem rmayBe_any {w0 w : World} {r : Nat} {D : DS} (h : Rs w0 r D w) (hm : D.T.length ≤ 4096) (l : Nat) (hl : l ≤ 65535) :
    Calls Tryz.prog 40 #[.pointer (some ⟨r, 0, none⟩), .int .i64 (l : Int)] w fun e w' => e = .returned (.bool (fits l D.T.length)) ∧ w = w' := by
  obtain ⟨vt, va, ha⟩ := h.ex
  obtain ⟨a, c, rfl⟩ := str_form ha.tr
  have hc0 : w.cell? ⟨r, 0, none⟩ = some (.slice a D.T.length c) := ha.head.cell 0
  clear h ha
  generalize D.T.length = n at *
  have h1 : (l : Int) ≤ 65535 := by omega
  unfold fits
  by_cases h5 : (5 : Int) ≤ (l : Int)
  · by_cases h2 : (2 : Int) ≤ (n : Int) - 2 - (l : Int)
    · have e : (5 ≤ l ∧ l + 4 ≤ n) := by omega
      simp only [e, and_self, decide_true]
      clear e
      go_enter Tryz.func40, Tryz.ntmps40
      go_wp2
      go_ret
      exact ⟨rfl, rfl⟩
    · have e : ¬ (5 ≤ l ∧ l + 4 ≤ n) := by omega
      simp only [e, decide_false]
      clear e
      go_enter Tryz.func40, Tryz.ntmps40
      go_wp2
      go_ret
      exact ⟨rfl, rfl⟩
  · have e : ¬ (5 ≤ l ∧ l + 4 ≤ n) := by omega
    simp only [e, decide_false]
    clear e
    go_enter Tryz.func40, Tryz.ntmps40
    go_wp2
    go_ret
    exact ⟨rfl, rfl⟩

/-- The slice at a has these entries. -/
def REnts (w : World) (a : Option Addr) (e : List Ent) : Prop := ∀ (i : Nat) (x : Ent), e[i]? = some x → ∃ g, a = some ⟨g, 0, none⟩ ∧ w.cell? ⟨g, i * 2, none⟩ = some (.int .i64 (x.1 : Int)) ∧ w.cell? ⟨g, i * 2 + 1, none⟩ = some (.string (strOf x.2))
theorem MineR.form {w : World} {B : Nat} {v : Value} {e : List Ent} (h : MineR w B v e) : ∃ a c, v = .slice a e.length c ∧ e.length ≤ c ∧ REnts w a e := by
  obtain ⟨xs, ho, he⟩ := h
  obtain ⟨hl, ⟨rfl, h0⟩ | ⟨g, cap, cur, rfl, hb, hg, h1, h2, h3, h4⟩⟩ := ho
  · obtain rfl : e = [] := List.eq_nil_of_length_eq_zero h0
    exact ⟨none, 0, rfl, Nat.le_refl _, fun i x hx => by simp at hx⟩
  · have ho : w.ownsRow B 116 2 (.slice (some ⟨g, 0, none⟩) e.length cap) e.length xs := ⟨hl, .inr ⟨g, cap, cur, rfl, hb, hg, h1, h2, h3, h4⟩⟩
    refine ⟨some ⟨g, 0, none⟩, cap, rfl, h1, fun i x hx => ⟨g, rfl, ?_⟩⟩
    have hi := lt_of_get hx
    obtain ⟨q1, q2⟩ := he i x hx
    have c0 := ho.cellAt (i * 2) (by omega)
    have c1 := ho.cellAt (i * 2 + 1) (by omega)
    rw [q1] at c0
    rw [q2] at c1
    exact ⟨c0, c1⟩
theorem REnts.touch {S : Nat → Prop} {w w' : World} {a : Option Addr} {e : List Ent} (h : REnts w a e) (T : Touch S w w') (hn : ∀ g, a = some ⟨g, 0, none⟩ → ¬ S g) : REnts w' a e := fun i x hx => by
  obtain ⟨g, ea, c0, c1⟩ := h i x hx
  have hg := lt_of_cell? c0
  exact ⟨g, ea, (T.cell (p := ⟨g, i * 2, none⟩) hg (hn g ea)).trans c0, (T.cell (p := ⟨g, i * 2 + 1, none⟩) hg (hn g ea)).trans c1⟩
theorem REnts.old {w w' : World} {a : Option Addr} {e : List Ent} (h : REnts w a e) (T : Old w w') : REnts w' a e := h.touch T (fun _ _ q => q)

/-- The first entries may be written. -/
def RGoes (e : List Ent) (home i : Nat) : Prop := (∀ x ∈ e.take i, x.1 < home ∧ x.2.length = 96) ∧ ((e.take i).map (·.1)).Nodup
theorem rgoes_zero (e : List Ent) (home : Nat) : RGoes e home 0 := ⟨by simp, by simp⟩
theorem rgoes_succ {e : List Ent} {home i : Nat} {x : Ent} (hx : e[i]? = some x) (h : RGoes e home i) (h1 : x.1 < home) (h2 : x.2.length = 96) (h3 : ∀ k y, k < i → e[k]? = some y → y.1 ≠ x.1) : RGoes e home (i + 1) := by
  unfold RGoes
  rw [take_get hx]
  refine ⟨fun y hy => ?_, ?_⟩
  · rcases List.mem_append.1 hy with q | q
    · exact h.1 y q
    · obtain rfl := List.mem_singleton.1 q
      exact ⟨h1, h2⟩
  · rw [List.map_append, List.nodup_append]
    refine ⟨h.2, by simp, fun a ha b hb => ?_⟩
    obtain ⟨y, hy, rfl⟩ := List.mem_map.1 ha
    simp at hb
    subst hb
    obtain ⟨k, hk⟩ := List.mem_iff_getElem?.1 hy
    have hki : k < i := by
      have := lt_of_get hk
      rw [List.length_take] at this
      omega
    rw [List.getElem?_take_of_lt hki] at hk
    exact h3 k y hki hk
theorem rgoes_iff {e : List Ent} {home : Nat} : Goes e home ↔ RGoes e home e.length ∧ 0 < e.length := by
  unfold Goes RGoes
  rw [List.take_length]
  constructor
  · rintro ⟨h1, h2, h3⟩; exact ⟨⟨h1, h2⟩, h3⟩
  · rintro ⟨⟨h1, h2⟩, h3⟩; exact ⟨h1, h2, h3⟩
theorem rnot_goes {e : List Ent} {home i : Nat} {x : Ent} (hx : e[i]? = some x) (h : ¬ (x.1 < home ∧ x.2.length = 96)) : ¬ Goes e home := fun q => h (q.1 x (mem_of_get hx))
theorem rnot_goes_twice {e : List Ent} {home i k : Nat} {x y : Ent} (hx : e[i]? = some x) (hy : e[k]? = some y) (hki : k < i) (h : y.1 = x.1) : ¬ Goes e home := fun q => by
  have h2 := q.2.1
  have hi := lt_of_get hx
  have h3 := List.pairwise_iff_getElem.1 h2 k i (by simp; omega) (by simp; omega) hki
  simp only [List.getElem_map] at h3
  rw [List.getElem?_eq_getElem hi] at hx
  rw [List.getElem?_eq_getElem (by omega)] at hy
  injection hx with hx
  injection hy with hy
  rw [hx, hy] at h3
  exact h3 h

set_option maxHeartbeats 3200000 in
theorem rgood_any (a : Option Addr) (e : List Ent) (n c home : Nat) (w : World) (h : REnts w a e) (hn : e.length = n) (hm : n ≤ 1000000) (_hh : home ≤ 1000000) (hb : ∀ x ∈ e, x.2.length ≤ 1000000) :
    Calls Tryz.prog 66 #[.slice a n c, .int .i64 (home : Int)] w fun x w' => x = .returned (.bool (decide (Goes e home))) ∧ Old w w' := by
  have H := Lib.hid h
  have HN := Lib.hid hn
  have HB := Lib.hid hb
  have H0 : Hid (RGoes e home 0 ∧ Old w w) := ⟨rgoes_zero e home, Touch.refl _ _⟩
  clear h hn hb
  go_enter Tryz.func66, Tryz.ntmps66
  go_wp2_with fail
  go_loopw [5] (fun i wx => ∃ t : Nat, t ≤ n ∧ i = .int .i64 t ∧ Hid (RGoes e home t ∧ Old w wx)) (fun i _ => n - (intOf i).toNat)
  case atStart => exact ⟨0, Nat.zero_le _, rfl, H0⟩
  case round =>
    obtain ⟨t, ht, rfl, HG⟩ := hrel
    clear H0
    by_cases hlt : t < n
    · obtain ⟨x, hx⟩ := get_of_lt (l := e) (n := t) (by rw [HN.out]; exact hlt)
      obtain ⟨g, rfl, _, _⟩ := H.out t x hx
      have HX := Lib.hid hx
      have i0 : (0 : Int) ≤ (t : Int) := by omega
      have i1 : (t : Int) < (n : Int) := by omega
      have HK0 : Hid ((∀ k y, k < 0 → e[k]? = some y → y.1 ≠ x.1) ∧ Old w wr) := ⟨fun k y hk => absurd hk (Nat.not_lt_zero _), HG.out.2⟩
      clear hx
      go_wp2_with fail
      go_loopw [6] (fun i wx => ∃ s : Nat, s ≤ t ∧ i = .int .i64 s ∧ Hid ((∀ k y, k < s → e[k]? = some y → y.1 ≠ x.1) ∧ Old w wx)) (fun i _ => t - (intOf i).toNat)
      case atStart => exact ⟨0, Nat.zero_le _, rfl, HK0⟩
      case round =>
        obtain ⟨s, hs, rfl, HK⟩ := hrel
        clear HK0
        obtain ⟨g', e', cx0, cx1⟩ := (H.out.old HK.out.2) t x HX.out
        cases e'
        by_cases hst : s < t
        · obtain ⟨y, hy⟩ := get_of_lt (l := e) (n := s) (by rw [HN.out]; omega)
          obtain ⟨g', e', cy0, _⟩ := (H.out.old HK.out.2) s y hy
          cases e'
          have j0 : (0 : Int) ≤ (s : Int) := by omega
          have j1 : (s : Int) < (n : Int) := by omega
          have j2 : (s : Int) < (t : Int) := by omega
          have d0 : wr.drew.cell? ⟨g, t * 2, none⟩ = some (.int .i64 (x.1 : Int)) := cx0
          have d1 : wr.drew.cell? ⟨g, s * 2, none⟩ = some (.int .i64 (y.1 : Int)) := cy0
          have HY := Lib.hid hy
          clear cx1 hy
          by_cases hq : y.1 = x.1
          · have HF : Hid (¬ Goes e home) := rnot_goes_twice HX.out HY.out hst hq
            have hq2 : ((y.1 : Int) == (x.1 : Int)) = true := by rw [hq]; simp
            generalize x.1 = p at *
            generalize y.1 = q at *
            clear hq
            go_wp2_with fail
            go_region_held3 (fun w' => w'.cell? ⟨g, t * 2, none⟩ = some (.int .i64 (p : Int)) ∧ w'.cell? ⟨g, s * 2, none⟩ = some (.int .i64 (q : Int))) (first | exact ⟨d0, d1⟩) (fail)
            rename_i hHeld
            clear hHeld
            go_wp2_with fail
            go_ret
            exact ⟨by rw [decide_eq_false HF.out]; rfl, HK.out.2.drew⟩
          · have HK' : Hid ((∀ k y, k < s + 1 → e[k]? = some y → y.1 ≠ x.1) ∧ Old w wr.drew) := ⟨fun k z hk hz => by
              rcases Nat.lt_or_ge k s with q | q
              · exact HK.out.1 k z q hz
              · obtain rfl : k = s := by omega
                rw [HY.out] at hz
                cases hz
                exact hq, HK.out.2.drew⟩
            have hq2 : ((y.1 : Int) == (x.1 : Int)) = false := by simp; omega
            generalize y.1 = q at *
            generalize hp : x.1 = p at *
            clear hq
            go_wp2_with fail
            go_region_held3 (fun w' => w'.cell? ⟨g, t * 2, none⟩ = some (.int .i64 (p : Int)) ∧ w'.cell? ⟨g, s * 2, none⟩ = some (.int .i64 (q : Int))) (first | exact ⟨d0, d1⟩) (fail)
            rename_i hHeld
            clear hHeld
            go_wp2_with fail
            exact ⟨⟨s + 1, by omega, by go_num, HK'⟩, by simp [intOf]; omega⟩
        · obtain rfl : s = t := by omega
          have j2 : ¬ (s : Int) < (s : Int) := by omega
          have hxl := HB.out x (mem_of_get HX.out)
          have hsz : (strOf x.2).size = x.2.length := rstr_size _
          by_cases hok : x.1 < home ∧ x.2.length = 96
          · have HG' : Hid (RGoes e home (s + 1) ∧ Old w wr) := ⟨rgoes_succ HX.out HG.out.1 hok.1 hok.2 HK.out.1, HK.out.2⟩
            have k1 : ¬ (home : Int) ≤ (x.1 : Int) := by omega
            have k2 : (strOf x.2).size = 96 := by rw [hsz]; exact hok.2
            generalize strOf x.2 = sx at *
            generalize x.1 = p at *
            clear hok hsz hxl
            go_wp2_with fail
            exact ⟨⟨s + 1, by omega, by go_num, HG'⟩, by simp [intOf]; omega⟩
          · have HF : Hid (¬ Goes e home) := rnot_goes HX.out hok
            by_cases k1 : (home : Int) ≤ (x.1 : Int)
            · generalize strOf x.2 = sx at *
              generalize x.1 = p at *
              clear hok hsz hxl
              go_wp2_with fail
              go_ret
              exact ⟨by rw [decide_eq_false HF.out]; rfl, HK.out.2⟩
            · have k2 : (((strOf x.2).size : Int) != 96) = true := by rw [hsz]; simp; omega
              have k3 : (((strOf x.2).size : Int) == 96) = false := by rw [hsz]; simp; omega
              generalize strOf x.2 = sx at *
              generalize x.1 = p at *
              clear hok hsz hxl
              go_wp2_with fail
              go_ret
              exact ⟨by rw [decide_eq_false HF.out]; rfl, HK.out.2⟩
    · obtain rfl : t = n := by omega
      have HE : Hid (Goes e home ↔ 0 < t) := by show _ ↔ _; rw [rgoes_iff, HN.out]; exact ⟨fun q => q.2, fun q => ⟨HG.out.1, q⟩⟩
      have HD : Hid (decide (Goes e home) = decide (0 < t)) := decide_eq_decide.2 HE.out
      go_wp2_with fail
      go_ret
      exact ⟨by rw [HD.out]; rfl, HG.out.2⟩
end Go.Proofs.YtmingbgohdhajaaGreat
