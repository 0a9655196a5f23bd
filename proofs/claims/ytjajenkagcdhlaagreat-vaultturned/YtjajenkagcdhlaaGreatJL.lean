/- Contracts of the vault's layRoot, layRecord, lay, others. -/
import Derived.Test.YtjajenkagcdhlaaGreatVm
import Derived.Deep.RegionHeld3
import Derived.Deep.DeepCutAuto
namespace Go.Proofs.YtjajenkagcdhlaaGreat
open Go.RowKit
set_option maxRecDepth 100000

/-- Places from cell o of block g on. -/
def PAt (w : World) (g o : Nat) (a : Places) : Prop := ∀ (i : Nat) ks, a[i]? = some ks → ∃ p c, w.cell? ⟨g, o + i, none⟩ = some (.slice p ks.length c) ∧ ks.length ≤ c ∧ Its w p ks
/-- Records from cell o of block g on. -/
def RAt (w : World) (g o : Nat) (rs : Recs) : Prop := ∀ (i : Nat) r, rs[i]? = some r → ∃ p c, w.cell? ⟨g, o + i * 2, none⟩ = some (.bool r.isSome) ∧ w.cell? ⟨g, o + i * 2 + 1, none⟩ = some (.slice p (bytesOf r).length c) ∧ (bytesOf r).length ≤ c ∧ Byt w p (bytesOf r)
theorem PAt.old {w w' : World} {g o : Nat} {a : Places} (h : PAt w g o a) (m : Old w w') : PAt w' g o a := fun i ks hk => by
  obtain ⟨p, c, h1, h2, h3⟩ := h i ks hk
  exact ⟨p, c, (m.cell (p := ⟨g, o + i, none⟩) (lt_of_cell? h1) (fun q => q)).trans h1, h2, h3.old m⟩
theorem RAt.old {w w' : World} {g o : Nat} {rs : Recs} (h : RAt w g o rs) (m : Old w w') : RAt w' g o rs := fun i r hr => by
  obtain ⟨p, c, h1, h2, h3, h4⟩ := h i r hr
  exact ⟨p, c, (m.cell (p := ⟨g, o + i * 2, none⟩) (lt_of_cell? h1) (fun q => q)).trans h1, (m.cell (p := ⟨g, o + i * 2 + 1, none⟩) (lt_of_cell? h2) (fun q => q)).trans h2, h3, h4.old m⟩
theorem PV.at_ {w : World} {g : Nat} {t : TypeId} {a : Places} {A vs B : List Value} (h : PV w a vs) (hb : Blk w g t (A ++ (vs ++ B))) : PAt w g A.length a := fun i ks hk => by
  obtain ⟨p, c, h1, h2, h3⟩ := h.2 i ks hk
  have hi := lt_of_get h1
  exact ⟨p, c, by rw [hb.cell, List.getElem?_append_right (by omega), show A.length + i - A.length = i by omega, List.getElem?_append_left hi]; exact h1, h2, h3⟩
theorem RV.at_ {w : World} {g : Nat} {t : TypeId} {rs : Recs} {A vs B : List Value} (h : RV w rs vs) (hb : Blk w g t (A ++ (vs ++ B))) : RAt w g A.length rs := fun i r hr => by
  obtain ⟨p, c, h1, h2, h3, h4⟩ := h.2 i r hr
  have hi1 := lt_of_get h1
  have hi2 := lt_of_get h2
  refine ⟨p, c, ?_, ?_, h3, h4⟩
  · rw [hb.cell, List.getElem?_append_right (by omega), show A.length + i * 2 - A.length = i * 2 by omega, List.getElem?_append_left hi1]; exact h1
  · rw [hb.cell, List.getElem?_append_right (by omega), show A.length + i * 2 + 1 - A.length = i * 2 + 1 by omega, List.getElem?_append_left hi2]; exact h2

/-- A page, or none. -/
def SlotF (w : World) (v : Value) : Option (List Nat) → Prop
  | none => v = .slice none 0 0
  | some bs => ∃ h o, v = .slice (some ⟨h, o, none⟩) 96 96 ∧ Trk bs ∧ Byt w (some ⟨h, o, none⟩) bs
theorem SlotF.keep {w w' : World} {v : Value} {x : Option (List Nat)} (h : SlotF w v x) (m : ∀ g cs, Blk w g 5 cs → Blk w' g 5 cs) : SlotF w' v x := by
  cases x with
  | none => exact h
  | some bs =>
    obtain ⟨a, o, e, ht, hb⟩ := h
    exact ⟨a, o, e, ht, hb.keep m⟩
/-- A row of pages, some of which are none. -/
def WriF (w : World) (g : Nat) (ws : Wri) : Prop := ∃ cs : List Value, Blk w g 30 cs ∧ cs.length = ws.length ∧ ∀ (i : Nat) (x : Option (List Nat)), ws[i]? = some x → ∃ v, cs[i]? = some v ∧ SlotF w v x
theorem WriF.keep {w w' : World} {g : Nat} {ws : Wri} (h : WriF w g ws) (m : ∀ g cs, Blk w g 5 cs → Blk w' g 5 cs) (m' : ∀ cs, Blk w g 30 cs → Blk w' g 30 cs) : WriF w' g ws := by
  obtain ⟨cs, hb, hl, hs⟩ := h
  refine ⟨cs, m' cs hb, hl, fun i x hx => ?_⟩
  obtain ⟨v, h1, h2⟩ := hs i x hx
  exact ⟨v, h1, h2.keep m⟩
theorem WriF.old {w w' : World} {g : Nat} {ws : Wri} (h : WriF w g ws) (m : Old w w') : WriF w' g ws := h.keep (fun _ _ hb => hb.touch m (fun q => q)) (fun _ hb => hb.touch m (fun q => q))
theorem WriF.blk {w : World} {g : Nat} {ws : Wri} (h : WriF w g ws) : ∃ cs, Blk w g 30 cs := by
  obtain ⟨cs, hb, _⟩ := h
  exact ⟨cs, hb⟩
theorem WriF.cell {w : World} {g i : Nat} {ws : Wri} (h : WriF w g ws) (hi : i < ws.length) : ∃ v, w.cell? ⟨g, i, none⟩ = some v ∧ w.frozen? ⟨g, i, none⟩ = false := by
  obtain ⟨cs, hb, hl, _⟩ := h
  exact ⟨_, (hb.cell i).trans (List.getElem?_eq_getElem (by omega)), hb.frozen i⟩
theorem WriF.slot {w : World} {g i : Nat} {ws : Wri} {x : Option (List Nat)} (h : WriF w g ws) (hi : ws[i]? = some x) : ∃ v, w.cell? ⟨g, i, none⟩ = some v ∧ SlotF w v x := by
  obtain ⟨cs, hb, hl, hs⟩ := h
  obtain ⟨v, h1, h2⟩ := hs i x hi
  exact ⟨v, (hb.cell i).trans h1, h2⟩
theorem WriF.set {w : World} {g i : Nat} {ws : Wri} {v : Value} {x : Option (List Nat)} (h : WriF w g ws) (hi : i < ws.length) (hs : SlotF w v x) : WriF (w.setCell ⟨g, i, none⟩ v) g (ws.set i x) := by
  obtain ⟨cs, hb, hl, hc⟩ := h
  have T := Touch.one (w := w) ⟨g, i, none⟩ v
  have hk : ∀ k ds, Blk w k 5 ds → Blk (w.setCell ⟨g, i, none⟩ v) k 5 ds := fun k ds hd => hd.touch T (hd.ne hb (by decide))
  refine ⟨_, hb.set i v, by rw [List.length_set, List.length_set, hl], fun j y hy => ?_⟩
  by_cases e : i = j
  · subst e
    rw [List.getElem?_set_self hi] at hy
    injection hy with hy
    subst hy
    exact ⟨v, List.getElem?_set_self (by omega), hs.keep hk⟩
  · rw [List.getElem?_set_ne e] at hy
    obtain ⟨u, h1, h2⟩ := hc j y hy
    exact ⟨u, by rw [List.getElem?_set_ne e]; exact h1, h2.keep hk⟩

theorem Put.of_nil' {w w' : World} {v' : Value} {xs : List Nat} (h : Put w w.heap.size (.slice none 0 0) xs v' w') : Old w w' := h.touch.mono (fun k _ q => by cases q)

/-- The root's text as far as the first n numbers. -/
def rootTo (a : Places) (n : Nat) : List Nat := [118, 108, 116, 49] ++ (((a.drop 1).take n).map fun ks => high (firstOf ks) 2).flatten
theorem rootTo_next {a : Places} {n : Nat} {ks : List Nat} (h : a[n + 1]? = some ks) : rootTo a n ++ high (firstOf ks) 2 = rootTo a (n + 1) := by
  unfold rootTo
  rw [take_get (l := a.drop 1) (x := ks) (by rw [List.getElem?_drop, Nat.add_comm]; exact h)]
  simp
theorem rootTo_all {a : Places} (h : a.length = 41) : rootTo a 40 = rootText a := by
  unfold rootTo rootText
  rw [List.take_of_length_le (by rw [List.length_drop, h]; omega)]
theorem rootTo_length (a : Places) (n : Nat) : (rootTo a n).length ≤ 4 + n * 2 := by
  unfold rootTo
  rw [List.length_append, chunk_flat, List.length_take]
  simp only [List.length_cons, List.length_nil]
  omega

/-- A slice of one's own, or a full one that may not be written. -/
def RootV (w : World) (B : Nat) (v : Value) (xs : List Nat) : Prop := Mine w B v xs ∨ ∃ g, v = .slice (some ⟨g, 0, none⟩) xs.length xs.length ∧ B ≤ g ∧ Has w (some ⟨g, 0, none⟩) xs
theorem RootV.form {w : World} {B : Nat} {v : Value} {xs : List Nat} (h : RootV w B v xs) : ∃ a c, v = .slice a xs.length c ∧ xs.length ≤ c ∧ Has w a xs := by
  rcases h with h | ⟨g, rfl, _, hH⟩
  · exact h.form
  · exact ⟨_, _, rfl, Nat.le_refl _, hH⟩
theorem RootV.above {w : World} {B : Nat} {v : Value} {xs : List Nat} (h : RootV w B v xs) : ∀ k, blk v k → B ≤ k := by
  rcases h with h | ⟨g, rfl, hb, _⟩
  · exact fun k hk => (h.lt k hk).1
  · intro k hk
    have e : g = k := by injection hk
    omega
theorem RootV.old {w w' : World} {B : Nat} {v : Value} {xs : List Nat} (h : RootV w B v xs) (m : Old w w') : RootV w' B v xs := by
  rcases h with h | ⟨g, e, hb, hH⟩
  · exact .inl (h.old m)
  · exact .inr ⟨g, e, hb, hH.old m⟩
theorem root_append (w : World) (B : Nat) (v : Value) (xs ys : List Nat) (a : Option Addr) (len cap : Nat) (h : RootV w B v xs) (hB : B ≤ w.heap.size) (hH : Has w a ys) (hlen : ys.length = len) (hm : xs.length + len ≤ 1000000) (h0 : 0 < len) :
    ∃ v' w', (∀ ty, (Builtin.append_ #[30, 30] ty #[v, .slice a len cap]).run Tryz.prog w = .ok v' w') ∧ Mine w' B v' (xs ++ ys) ∧ Touch (blk v) w w' := by
  rcases h with h | ⟨g, rfl, hb, hX⟩
  · obtain ⟨v', w', hap, P⟩ := mine_append w B v xs ys a len cap h hB hH hlen (by omega)
    exact ⟨v', w', hap, P.mine, P.touch⟩
  · obtain ⟨i0, hi, hz0, hz1, hz2⟩ := info_parts info5
    have hs : Src Tryz.prog i0.size 30 (.slice a len cap) len (cells ys) w := by rw [hz1]; exact hH.src hlen
    have hr := fun ty => run_append_grow_src (P := Tryz.prog) w 30 30 ty 5 i0 (.int .u8 0) Tryz.underlying30 hi hz0 (some ⟨g, 0, none⟩) xs.length xs.length (cells xs)
      (run_firstCells_some (P := Tryz.prog) _ i0.size xs.length ⟨g, 0, none⟩ xs.length xs.length (cells xs) (by rw [cells_length, hz1, Nat.mul_one]) (fun j u hu => by
        have hj : j < xs.length := by
          have := lt_of_get hu
          rwa [cells_length] at this
        rw [cells_get xs j hj] at hu
        cases hu
        obtain ⟨b', off', e', hc⟩ := hX.cell j hj
        cases e'
        rw [Nat.zero_add] at hc
        rw [show (⟨g, 0, none⟩ : Addr).add j = ⟨g, j, none⟩ by unfold Addr.add; split <;> simp_all]
        exact hc))
      (.slice a len cap) len _ hs (by omega) (by omega) (growslice_fits (by omega) (by rw [hz2]; omega))
    have hge := grownCap_ge w (xs.length + len) xs.length 5
    have hby : ∀ x ∈ xs ++ ys, x < 256 := fun x hx => by
      rcases List.mem_append.1 hx with q | q
      · exact hX.byte x q
      · exact hH.byte x q
    refine ⟨_, _, hr, .inr ⟨_, _, by rw [List.length_append, hlen], hB, hby, (Builtin.zeroCells (Value.int .u8 0).cells (grownCap w (xs.length + len) xs.length 5 - (xs.length + len))).toList, ?_, ?_⟩, Touch.of_old (((Touch.refl _ w).drew).alloc _)⟩
    · rw [show w.heap.size = w.drew.heap.size from rfl, heap_alloc_new]
      congr 2
      apply Array.ext'
      simp only [Array.toList_append, cells_append]
    · rw [zero_length, List.length_append, hlen]; omega
theorem vput_root (w : World) (B : Nat) (v : Value) (xs : List Nat) (n : Nat) (h : RootV w B v xs) (hB : B ≤ w.heap.size) (hn : n < 65536) (hl : xs.length ≤ 900000) :
    Calls Tryz.prog 92 #[v, .int .i64 (n : Int)] w fun e w' => ∃ v', e = .returned v' ∧ Mine w' B v' (xs ++ high n 2) ∧ Touch (blk v) w w' := by
  have hh : high n 2 = [n / 256, n % 256] := by
    simp only [high, Nat.pow_one, Nat.pow_zero, Nat.div_one]
    rw [Nat.mod_eq_of_lt (a := n / 256) (by omega)]
  have e1 : ((n : Int) / 256) = ((n / 256 : Nat) : Int) := by omega
  have e2 : ((n / 256 : Nat) : Int) % 256 = ((n / 256 : Nat) : Int) := by omega
  have e3 : ((n : Int) % 256) = ((n % 256 : Nat) : Int) := by omega
  have hby := high_byte n 2
  rw [hh] at hby ⊢
  clear hh hn
  generalize n / 256 = p at *
  generalize n % 256 = q at *
  have T1 : Old w (w.alloc (.cells #[.int .u8 (p : Int), .int .u8 (q : Int)] 5)) := (Touch.refl _ w).alloc _
  have K1 : Blk (w.alloc (.cells #[.int .u8 (p : Int), .int .u8 (q : Int)] 5)) w.heap.size 5 (cells [p, q]) := Blk.new w 5 [.int .u8 (p : Int), .int .u8 (q : Int)]
  obtain ⟨v', w', hap, M, T⟩ := root_append _ B v xs [p, q] (some ⟨w.heap.size, 0, none⟩) 2 2 (h.old T1) (Nat.le_trans hB T1.size) (blk_has hby K1) rfl (by omega) (by omega)
  have HP : Hid (Mine w' B v' (xs ++ [p, q]) ∧ Touch (blk v) w w') := ⟨M, (Touch.of_old T1).trans T⟩
  obtain ⟨a, c, rfl, _, _⟩ := h.form
  clear h K1 T1 M T hby
  go_enter Tryz.func92, Tryz.ntmps92
  go_wp2_with (first | (at_builtin; refine wpList_append_run rfl _ _ 30 30 rfl _ _ rfl rfl _ _ (hap _) ?_))
  go_ret
  exact ⟨_, rfl, HP.out⟩
theorem Touch.above {w0 w w' : World} {v : Value} {B : Nat} (h : Old w0 w) (hB : w0.heap.size ≤ B) (M : ∀ k, blk v k → B ≤ k) (t : Touch (blk v) w w') : Old w0 w' :=
  ⟨t.os.trans h.os, t.tape.trans h.tape, t.output.trans h.output, Nat.le_trans h.size t.size, fun k hk hn => (t.block k (Nat.lt_of_lt_of_le hk h.size) (fun q => by have := M k q; omega)).trans (h.block k hk hn)⟩

set_option maxHeartbeats 1600000 in
theorem layRoot_any (g o : Nat) (a : Places) (w : World) (h : PAt w g o a) (ha : a.length = 41) (hk : ∀ ks ∈ a, firstOf ks < 65536) : Calls Tryz.prog 64 #[.pointer (some ⟨g, o, none⟩)] w (Row96 (rootPage a) w) := by
  have H := Lib.hid h
  have HA := Lib.hid ha
  have HK := Lib.hid hk
  have kc := fun (w : World) (C : Array Value) (n c : Nat) => Lib.run_convert_bytes_const (P := Tryz.prog) w 30 5 C n c Tryz.underlying30 Tryz.underlying5
  have T1 : Old w (w.alloc (.cells #[.int .u8 118, .int .u8 108, .int .u8 116, .int .u8 49] 5 (4, 5))) := (Touch.refl _ w).alloc _
  have M0 : Hid (RootV (w.alloc (.cells #[.int .u8 118, .int .u8 108, .int .u8 116, .int .u8 49] 5 (4, 5))) w.heap.size (.slice (some ⟨w.heap.size, 0, none⟩) 4 4) (rootTo a 0)) :=
    .inr ⟨w.heap.size, rfl, Nat.le_refl _, Has.new w [118, 108, 116, 49] (by decide) (4, 5)⟩
  have HT := Lib.hid T1
  clear h ha hk T1
  go_enter Tryz.func64, Tryz.ntmps64
  go_wp2_with fail
  generalize w.alloc (.cells #[.int .u8 118, .int .u8 108, .int .u8 116, .int .u8 49] 5 (4, 5)) = w0 at *
  clear kc
  go_loopw [3, 4] (fun v i wx => ∃ t : Nat, t ≤ 40 ∧ i = .int .i64 ((t : Int) + 1) ∧ Hid (RootV wx w.heap.size v (rootTo a t)) ∧ Hid (Old w wx)) (fun _ i _ => 41 - (intOf i).toNat)
  case atStart => exact ⟨0, by omega, rfl, M0, HT⟩
  case round =>
    obtain ⟨t, ht, rfl, HM, HO⟩ := hrel
    clear M0 HT
    by_cases hlt : t < 40
    · have h0 : (0 : Int) ≤ (t : Int) + 1 := by omega
      have h1 : (t : Int) + 1 < 41 := by omega
      have h2 : (t : Int) + 1 ≤ 40 := by omega
      obtain ⟨ks, hks⟩ := get_of_lt (l := a) (n := t + 1) (by rw [HA.out]; omega)
      obtain ⟨p, c, hc, hcl, hI⟩ := (H.out.old HO.out) (t + 1) ks hks
      have HI := Lib.hid hI
      have HX := Lib.hid hks
      have Hf := Lib.hid (HK.out ks (mem_of_get hks))
      have hw : ((t : Int) + 1).toNat = t + 1 := by omega
      have hw2 : IntKind.i64.wrap ((t : Int) + 1 + 1) = (t : Int) + 1 + 1 := wrap_fits ⟨by omega, by omega⟩
      clear hI hks hcl
      go_wp2_with fail
      refine (first_any p ks ks.length c wr HI.out.has rfl).mono ?_
      rintro x w' ⟨rfl, rfl⟩
      go_wp2_with fail
      refine (vput_root wr w.heap.size u3 (rootTo a t) (firstOf ks) HM.out HO.out.size Hf.out (by have := rootTo_length a t; omega)).mono ?_
      rintro x w2 ⟨v2, rfl, P2, T2⟩
      have HO2 := Lib.hid (Touch.above HO.out (Nat.le_refl _) HM.out.above T2)
      have HM2 : Hid (RootV w2 w.heap.size v2 (rootTo a (t + 1))) := by
        show RootV _ _ _ _
        rw [← rootTo_next HX.out]
        exact .inl P2
      clear P2 T2 HM HO HI HX hc
      go_wp2_with fail
      exact ⟨⟨t + 1, by omega, by go_num, HM2, HO2⟩, by simp [intOf]; omega⟩
    · obtain rfl : t = 40 := by omega
      rw [rootTo_all HA.out] at HM
      obtain ⟨p, c, rfl, hcl, hH⟩ := HM.out.form
      rw [rootText_length HA.out]
      have HC := Lib.hid (vclosed_any p (rootText a) 84 c wr hH (rootText_length HA.out) (by omega))
      clear hcl hH HM
      go_wp2_with fail
      refine HC.out.mono ?_
      rintro x w2 ⟨g2, rfl, hg, Ow, O2⟩
      have HR : Hid (Row96 (rootPage a) w (.returned (.slice (some ⟨g2, 0, none⟩) 96 96)) w2) := ⟨g2, rfl, Nat.le_trans HO.out.size hg, Ow, HO.out.trans O2⟩
      clear HC Ow O2 hg
      go_wp2_with fail
      go_ret
      exact HR.out
end Go.Proofs.YtjajenkagcdhlaaGreat
/- Contracts of the vault's layRecord, lay, others. -/
namespace Go.Proofs.YtjajenkagcdhlaaGreat
open Go.RowKit
set_option maxRecDepth 100000

/-- A slice of bytes. -/
def BV (w : World) (v : Value) (bs : List Nat) : Prop := ∃ a c, v = .slice a bs.length c ∧ bs.length ≤ c ∧ Byt w a bs
theorem BV.keep {w w' : World} {v : Value} {bs : List Nat} (h : BV w v bs) (m : ∀ g cs, Blk w g 5 cs → Blk w' g 5 cs) : BV w' v bs := by
  obtain ⟨a, c, h1, h2, h3⟩ := h
  exact ⟨a, c, h1, h2, h3.keep m⟩
theorem recPages_get : ∀ {ks b : List Nat} {t k : Nat}, ks[t]? = some k → (recPages ks b)[t]? = some (k, recPage (firstOf (ks.drop (t + 1))) (b.drop (80 * t)))
  | [], b, t, k, h => by simp at h
  | x :: ks, b, 0, k, h => by injection h with h; subst h; simp [recPages]
  | x :: ks, b, t + 1, k, h => by
    have := recPages_get (ks := ks) (b := b.drop 80) (t := t) (k := k) (by simpa using h)
    show (recPages ks (b.drop 80))[t]? = _
    rw [this, List.drop_drop]
    congr 3
    rw [show 80 + 80 * t = 80 * (t + 1) by omega]
theorem recPages_length (ks b : List Nat) : (recPages ks b).length = ks.length := by
  have := congrArg List.length (recPages_keys ks b)
  rwa [List.length_map] at this

theorem Byt.slice {w : World} {b : Option Addr} {xs : List Nat} {c q : Nat} (h : Byt w b xs) (hc : xs.length ≤ c) (hq : q ≤ xs.length) : Byt w (if c = q then b else Option.map (fun x => x.add q) b) (xs.drop q) := by
  by_cases e : c = q
  · rw [if_pos e, List.drop_eq_nil_of_le (by omega)]
    exact ⟨Has.nil _ _, h.blk⟩
  · rw [if_neg e]
    cases b with
    | none =>
      cases xs with
      | nil => rw [List.drop_nil]; exact ⟨Has.nil _ _, fun _ _ e => by cases e⟩
      | cons x xs => obtain ⟨_, _, e', _⟩ := h.has.cell 0 (by simp); cases e'
    | some A =>
      cases xs with
      | nil =>
        rw [List.drop_nil]
        refine ⟨Has.nil _ _, fun g o e => ?_⟩
        have e : A.add q = ⟨g, o, none⟩ := by injection e
        have hq0 : q = 0 := by simpa using hq
        subst hq0
        have e : A = ⟨g, o, none⟩ := by simpa [Addr.add] using e
        subst e
        exact h.blk g o rfl
      | cons x xs =>
        obtain ⟨b', o', e', _⟩ := h.has.cell 0 (by simp)
        cases e'
        have := h.part q (x :: xs).length
        rw [List.take_of_length_le (by rw [List.length_drop]; omega)] at this
        rw [show Option.map (fun x => x.add q) (some (⟨b', o', none⟩ : Addr)) = some ⟨b', o' + q, none⟩ by rw [Option.map_some, Addr.add_mid]]
        exact this
theorem Byt.drop80 {w : World} {b : Option Addr} {xs ys : List Nat} (h : Byt w b xs) (e : ys = xs) : Byt w b ys := e ▸ h

set_option maxHeartbeats 3200000 in
theorem layRecord_any (gp m : Nat) (ws : Wri) (a b : Option Addr) (bs ks : List Nat) (n c l d : Nat) (w : World) (hw : WriF w gp ws) (hm : ws.length = m) (hb : Byt w b bs) (hn : bs.length = n) (hc : n ≤ c) (h6 : n < 65536)
    (hI : Its w a ks) (hl : ks.length = l) (hd : l ≤ d) (hk : ∀ k ∈ ks, k < m ∧ k < 65536) (hl6 : l ≤ 100000) :
    Calls Tryz.prog 71 #[.slice (some ⟨gp, 0, none⟩) m m, .slice b n c, .slice a l d] w fun x w' => x = .returned (.tuple #[]) ∧ WriF w' gp (took ws (recPages ks bs)) ∧ Touch (fun k => k = gp) w w' := by
  have HL := Lib.hid hl
  have HI := Lib.hid hI
  have HK := Lib.hid hk
  have HN := Lib.hid hn
  have HW0 : Hid (WriF w gp (took ws ((recPages ks bs).take 0))) := hw
  have HT0 : Hid (Touch (fun k => k = gp) w w) := Touch.refl _ _
  have HV0 : Hid (BV w (.slice b n c) (bs.drop (80 * 0))) := ⟨b, c, by rw [← hn]; rfl, by show bs.length ≤ c; omega, hb⟩
  have HGb : Hid (∀ k cs t, Blk w k t cs → t ≠ 30 → k ≠ gp) := by
    intro k cs t hk ht
    obtain ⟨ds, hb⟩ := hw.blk
    exact hk.ne hb ht
  have HM := Lib.hid hm
  clear hw hb hn hI hl hk hm
  go_enter Tryz.func71, Tryz.ntmps71
  go_wp2_with fail
  go_loopw [1, 12] (fun v i wx => ∃ t : Nat, t ≤ l ∧ i = .int .i64 t ∧ Hid (BV wx v (bs.drop (80 * t))) ∧ Hid (WriF wx gp (took ws ((recPages ks bs).take t))) ∧ Hid (Touch (fun k => k = gp) w wx)) (fun _ i _ => l - (intOf i).toNat)
  case atStart => exact ⟨0, by omega, rfl, HV0, HW0, HT0⟩
  case round =>
    obtain ⟨t, hle, rfl, HV, HW, HT⟩ := hrel
    clear HW0 HT0 HV0
    by_cases hlt : t < l
    · obtain ⟨k, hkt⟩ := get_of_lt (l := ks) (n := t) (by rw [HL.out]; exact hlt)
      have HIr : Hid (Its wr a ks) := HI.out.keep (fun k cs hk => hk.touch HT.out (HGb.out k cs 3 hk (by decide)))
      obtain ⟨ga, oa, rfl, hck⟩ := HIr.out.cell hkt
      have hkk := HK.out k (mem_of_get hkt)
      obtain ⟨b1, c1, hv, hc1, hB⟩ := HV.out
      subst hv
      have HB := Lib.hid hB
      have HX := Lib.hid (recPages_get (b := bs) hkt)
      have hf6 : firstOf (ks.drop (t + 1)) < 65536 := by
        cases hq : ks.drop (t + 1) with
        | nil => show (0 : Nat) < 65536; omega
        | cons j js => exact (HK.out j (List.mem_of_mem_drop (i := t + 1) (by rw [hq]; simp))).2
      have HF := Lib.hid hf6
      have hm1 : (bs.drop (80 * t)).length < 65536 := by rw [List.length_drop, HN.out]; omega
      generalize hbt : bs.drop (80 * t) = bt at *
      have HBT := Lib.hid hbt
      have HBl : Hid (bt.length = bt.length) := rfl
      obtain ⟨q, hq⟩ : ∃ q, min bt.length 80 = q := ⟨_, rfl⟩
      have hmn : min (bt.length : Int) 80 = (q : Int) := by omega
      have hq1 : q ≤ bt.length := by omega
      have hq2 : (q : Int) ≤ (c1 : Int) := by omega
      have hq3 : (0 : Int) ≤ (q : Int) := by omega
      have hw1 : IntKind.i64.wrap ((t : Int) + 1) = (t : Int) + 1 := wrap_fits ⟨by omega, by omega⟩
      have h0 : (0 : Int) ≤ (t : Int) := by omega
      have h1 : (t : Int) < (l : Int) := by omega
      have h2 : (0 : Int) ≤ (t : Int) + 1 := by omega
      have h3 : (t : Int) + 1 ≤ (l : Int) := by omega
      have h4 : ((t : Int) + 1).toNat = t + 1 := by omega
      have HF1 : Hid (l ≤ t + 1 → ∀ A cap, Calls Tryz.prog 93 #[.slice A 0 cap] wr fun e w' => e = .returned (.int .i64 (firstOf (ks.drop (t + 1)) : Int)) ∧ wr = w') := by
        intro hA A cap
        have he : ks.drop (t + 1) = [] := List.drop_eq_nil_of_le (by rw [HL.out]; exact hA)
        rw [he]
        exact first_any A [] 0 cap wr (HasI.nil _ _) rfl
      have HF2 : Hid (∀ cap, Calls Tryz.prog 93 #[.slice (some ⟨ga, oa + (t + 1), none⟩) (l - (t + 1)) cap] wr fun e w' => e = .returned (.int .i64 (firstOf (ks.drop (t + 1)) : Int)) ∧ wr = w') :=
        fun cap => first_any _ (ks.drop (t + 1)) _ cap wr (HIr.out.drop (t + 1)).has (by rw [List.length_drop, HL.out])
      have HBn : Hid (bt.length < 65536) := hm1
      have HBd : Hid (∀ x ∈ bt, x < 256) := hB.has.byte
      have hkm : (k : Int) < (m : Int) := by omega
      have hk0 : (0 : Int) ≤ (k : Int) := by omega
      obtain ⟨f1, hf1⟩ : ∃ f1, firstOf (ks.drop (t + 1)) = f1 := ⟨_, rfl⟩
      rw [hf1] at HX HF1 HF2 HF
      clear hkt hf6 hbt hB HV hm1 hf1 hkk
      obtain ⟨n1, hn1⟩ : ∃ n1, bt.length = n1 := ⟨_, rfl⟩
      have HN1 := Lib.hid hn1
      rw [hn1] at hmn hq hq1 hc1
      rw [hn1]
      clear hn1 HBl
      rcases Decidable.em (d = t + 1) with rfl | hdt
      all_goals
        go_wp2_with fail
        first | with_reducible refine (HF2.out _).mono ?_ | with_reducible refine (HF1.out (by omega) _ _).mono ?_
        rintro x w' ⟨rfl, rfl⟩
        go_wp2_with fail
        refine (vput_any wr wr.heap.size (.slice none 0 0) [] f1 (Mine.nil _ _) (Nat.le_refl _) HF.out (by simp)).mono ?_
        rintro x w1 ⟨b2, rfl, P1⟩
        have HP1 := Lib.hid P1
        clear P1 HF1 HF2
        go_wp2_with fail
        refine (vput_any w1 wr.heap.size b2 _ n1 HP1.out.mine HP1.out.touch.size (by rw [← HN1.out]; exact HBn.out) (by simp [high_length])).mono ?_
        rintro x w2 ⟨b3, rfl, P2⟩
        have HP2 := Lib.hid (HP1.out.trans P2)
        clear P2 HP1
        have hO2 : Old wr w2 := HP2.out.touch.mono (fun k _ q => by cases q)
        have hB2 := HB.out.old hO2
        obtain ⟨b4, w3, hap, P3⟩ := mine_append w2 wr.heap.size b3 _ (bt.take q) b1 q c1 HP2.out.mine hO2.size (hB2.has.take q) (by rw [List.length_take, HN1.out]; omega) (by simp [high_length]; omega)
        have hxs : [] ++ high f1 2 ++ high n1 2 ++ bt.take q = pageText f1 bt := by
          unfold pageText
          rw [HN1.out]
          simp only [List.nil_append, List.append_assoc]
          congr 2
          rcases Nat.le_total n1 80 with z | z
          · rw [List.take_of_length_le (by rw [HN1.out]; omega), List.take_of_length_le (by rw [HN1.out]; omega)]
          · rw [show q = 80 by omega]
        rw [hxs] at P3
        have hpl : (pageText f1 bt).length = 4 + q := by rw [pageText_length, HN1.out]; omega
        obtain ⟨a4, c4, rfl, hc4, H4⟩ := P3.mine.form
        rw [hpl] at hap hc4
        have HC := Lib.hid (vclosed_any a4 (pageText f1 bt) (4 + q) c4 w3 H4 hpl (by omega))
        have HO3 : Hid (Old wr w3) := (HP2.out.trans P3).touch.mono (fun k _ q => by cases q)
        obtain ⟨b30, c30, rfl, _⟩ := HP2.out.mine.form
        clear P3 HP2 hO2 hB2 H4 hc4 hxs hpl
        go_wp2_with (first | (at_builtin; refine wpList_append_run rfl _ _ 30 30 rfl _ _ rfl rfl _ _ (hap _) ?_))
        clear hap
        refine HC.out.mono ?_
        rintro x w4 ⟨g4, rfl, hg4, Ow4, O4⟩
        have hO4 := HO3.out.trans O4
        have HW4 := Lib.hid (HW.out.old hO4)
        have HT4 := Lib.hid (HT.out.trans (Touch.of_old hO4))
        have HB4 := Lib.hid (HB.out.old hO4)
        have HO4 := Lib.hid Ow4
        obtain ⟨z, hz, hfz⟩ := HW4.out.cell (i := k) (by rw [took_length, HM.out]; omega)
        clear hO4 O4 Ow4 hg4 HC HO3 HW HT HB
        go_wp2_with fail
        have hS := HW4.out.set (i := k) (v := .slice (some ⟨g4, 0, none⟩) 96 96) (x := some (recPage f1 bt)) (by rw [took_length, HM.out]; omega) ⟨g4, 0, rfl, recPage_trk HBd.out, HO4.out.byt⟩
        obtain ⟨ds, hds⟩ := HW4.out.blk
        have T5 := Touch.one (w := w4) ⟨gp, k, none⟩ (.slice (some ⟨g4, 0, none⟩) 96 96)
        refine ⟨⟨t + 1, by omega, by go_num, ⟨_, c1 - q, ?_, ?_, ((HB4.out.slice (c := c1) (q := q) (by rw [HN1.out]; exact hc1) (by rw [HN1.out]; exact hq1)).keep (fun g cs hg => hg.touch T5 (hg.ne hds (by decide)))).drop80 ?_⟩, ?_, HT4.out.setCell (.inl rfl) _⟩, by simp [intOf]; omega⟩
        · congr 1
          rw [show 80 * (t + 1) = 80 * t + 80 by omega, ← List.drop_drop, HBT.out, List.length_drop, HN1.out]
          omega
        · rw [show 80 * (t + 1) = 80 * t + 80 by omega, ← List.drop_drop, HBT.out, List.length_drop, HN1.out]
          omega
        · rw [show 80 * (t + 1) = 80 * t + 80 by omega, ← List.drop_drop, HBT.out]
          rcases Nat.le_total n1 80 with z | z
          · rw [List.drop_eq_nil_of_le (by rw [HN1.out]; omega), List.drop_eq_nil_of_le (by rw [HN1.out]; omega)]
          · rw [show q = 80 by omega]
        · show WriF _ _ _
          rw [take_get HX.out, took_snoc]
          exact hS
    · obtain rfl : t = l := by omega
      go_wp2_with fail
      go_end0
      refine ⟨rfl, ?_, HT.out⟩
      have := HW.out
      rw [List.take_of_length_le (by rw [recPages_length, HL.out]; exact Nat.le_refl _)] at this
      exact this
end Go.Proofs.YtjajenkagcdhlaaGreat
/- Contracts of the vault's lay and others. -/
namespace Go.Proofs.YtjajenkagcdhlaaGreat
open Go.RowKit
set_option maxRecDepth 100000

theorem PAt.touch {S : Nat → Prop} {w w' : World} {g o : Nat} {a : Places} (h : PAt w g o a) (m : Touch S w w') (hg : ¬ S g) (h3 : ∀ k cs, Blk w k 3 cs → ¬ S k) : PAt w' g o a := fun i ks hk => by
  obtain ⟨p, c, h1, h2, h4⟩ := h i ks hk
  exact ⟨p, c, (m.cell (p := ⟨g, o + i, none⟩) (lt_of_cell? h1) hg).trans h1, h2, h4.keep fun k cs hb => hb.touch m (h3 k cs hb)⟩
theorem RAt.touch {S : Nat → Prop} {w w' : World} {g o : Nat} {rs : Recs} (h : RAt w g o rs) (m : Touch S w w') (hg : ¬ S g) (h5 : ∀ k cs, Blk w k 5 cs → ¬ S k) : RAt w' g o rs := fun i r hr => by
  obtain ⟨p, c, h1, h2, h3, h4⟩ := h i r hr
  exact ⟨p, c, (m.cell (p := ⟨g, o + i * 2, none⟩) (lt_of_cell? h1) hg).trans h1, (m.cell (p := ⟨g, o + i * 2 + 1, none⟩) (lt_of_cell? h2) hg).trans h2, h3, h4.keep fun k cs hb => hb.touch m (h5 k cs hb)⟩
theorem allPages_take : ∀ {a : Places} {rs : Recs} {t : Nat} {ks : List Nat} {r : Rec}, a[t]? = some ks → rs[t]? = some r → allPages (a.take (t + 1)) (rs.take (t + 1)) = allPages (a.take t) (rs.take t) ++ recPages ks (bytesOf r)
  | x :: a, y :: rs, 0, ks, r, h1, h2 => by injection h1 with h1; injection h2 with h2; subst h1 h2; simp [allPages]
  | x :: a, y :: rs, t + 1, ks, r, h1, h2 => by
    have := allPages_take (a := a) (rs := rs) (t := t) (by simpa using h1) (by simpa using h2)
    show recPages x (bytesOf y) ++ allPages (a.take (t + 1)) (rs.take (t + 1)) = (recPages x (bytesOf y) ++ allPages (a.take t) (rs.take t)) ++ _
    rw [this, List.append_assoc]
  | [], _, t, _, _, h, _ => by simp at h
  | _ :: _, [], t, _, _, _, h => by simp at h
theorem took_append (ws : Wri) (e f : List Ent) : took ws (e ++ f) = took (took ws e) f := by simp [took]

/-- What is laid of the first t records. -/
def layTo (rs : Recs) (a : Places) (home t : Nat) : Wri := took (List.replicate home none) ((0, rootPage a) :: allPages (a.take t) (rs.take t))
theorem layTo_next {rs : Recs} {a : Places} {home t : Nat} {ks : List Nat} {r : Rec} (h1 : a[t]? = some ks) (h2 : rs[t]? = some r) : layTo rs a home (t + 1) = took (layTo rs a home t) (recPages ks (bytesOf r)) := by
  unfold layTo
  rw [allPages_take h1 h2, ← List.cons_append, took_append]
theorem layTo_length (rs : Recs) (a : Places) (home t : Nat) : (layTo rs a home t).length = home := by unfold layTo; rw [took_length, List.length_replicate]

set_option maxHeartbeats 3200000 in
theorem lay_any6 (gr or ga oa m : Nat) (rs : Recs) (a : Places) (w : World) (hR : RAt w gr or rs) (hP : PAt w ga oa a) (hr : rs.length = 41) (ha : a.length = 41) (hgr : ∃ t cs, Blk w gr t cs ∧ t ≠ 30) (hga : ∃ t cs, Blk w ga t cs ∧ t ≠ 30)
    (hk : ∀ ks ∈ a, ∀ k ∈ ks, k < m) (hm : m ≤ 5000) (h0 : 0 < m) (hb : ∀ b, some b ∈ rs → b.length ≤ 60000) (hkl : ∀ ks ∈ a, ks.length ≤ 100000) :
    Calls Tryz.prog 43 #[.pointer (some ⟨gr, or, none⟩), .pointer (some ⟨ga, oa, none⟩), .int .i64 (m : Int)] w fun x w' => ∃ g, x = .returned (.slice (some ⟨g, 0, none⟩) m m) ∧ w.heap.size ≤ g ∧ WriF w' g (layW rs a m) ∧ Old w w' := by
  have HR := Lib.hid hr
  have HA := Lib.hid ha
  have HK := Lib.hid hk
  have HB := Lib.hid hb
  have HKL := Lib.hid hkl
  have hmk := make_pages m (by omega) w
  have T1 : Old w (w.alloc (.cells (nils m).toArray 30)) := (Touch.refl _ w).alloc _
  have HT1 := Lib.hid T1
  have HW1 : Hid (WriF (w.alloc (.cells (nils m).toArray 30)) w.heap.size (List.replicate m none)) := ⟨nils m, Blk.new w 30 (nils m), by simp [nils], fun i x hx => by
    have hi : i < m := by have := lt_of_get hx; simpa using this
    rw [List.getElem?_replicate, if_pos hi] at hx
    injection hx with hx
    subst hx
    exact ⟨.slice none 0 0, by simp [nils, hi], rfl⟩⟩
  have HR1 := Lib.hid (hR.old T1)
  have HP1 := Lib.hid (hP.old T1)
  have hgr1 : gr ≠ w.heap.size := by
    obtain ⟨t, cs, hb, _⟩ := hgr
    have := hb.lt
    omega
  have hga1 : ga ≠ w.heap.size := by
    obtain ⟨t, cs, hb, _⟩ := hga
    have := hb.lt
    omega
  have HGR := Lib.hid hgr1
  have HGA := Lib.hid hga1
  have hm0 : (0 : Int) < (m : Int) := by omega
  have hmn : ¬ (m : Int) < 0 := by omega
  clear T1 hR hP hr ha hgr hga hk hb hgr1 hga1 hkl
  go_enter Tryz.func43, Tryz.ntmps43
  go_wp2_with fail
  clear hmk
  generalize w.alloc (.cells (nils m).toArray 30) = w1 at *
  refine (layRoot_any ga oa a w1 HP1.out HA.out (fun ks hks => ?_)).mono ?_
  · cases ks with
    | nil => show (0 : Nat) < 65536; omega
    | cons k ks => have := HK.out _ hks k (by simp); show k < 65536; omega
  rintro x w2 ⟨g2, rfl, hg2, Ow, O2⟩
  have HW2 := Lib.hid (HW1.out.old O2)
  have HO2 := Lib.hid (HT1.out.trans O2)
  have HR2 := Lib.hid (HR1.out.old O2)
  have HP2 := Lib.hid (HP1.out.old O2)
  have HOw := Lib.hid Ow
  obtain ⟨z, hz, hfz⟩ := HW2.out.cell (i := 0) (by simp; omega)
  clear Ow O2 HW1 HT1 HR1 HP1 hg2
  go_wp2_with fail
  have HT3 := Lib.hid (Touch.one (w := w2) ⟨w.heap.size, 0, none⟩ (.slice (some ⟨g2, 0, none⟩) 96 96))
  have HW3 : Hid (WriF (w2.setCell ⟨w.heap.size, 0, none⟩ (.slice (some ⟨g2, 0, none⟩) 96 96)) w.heap.size (layTo rs a m 0)) :=
    HW2.out.set (i := 0) (v := .slice (some ⟨g2, 0, none⟩) 96 96) (x := some (rootPage a)) (by simp; omega) ⟨g2, 0, rfl, rootPage_trk HA.out, HOw.out.byt⟩
  have HO3 : Hid (Old w (w2.setCell ⟨w.heap.size, 0, none⟩ (.slice (some ⟨g2, 0, none⟩) 96 96))) := HO2.out.setCell (.inr (Nat.le_refl _)) _
  obtain ⟨ds, hds⟩ := HW2.out.blk
  have HR3 := Lib.hid (HR2.out.touch HT3.out HGR.out (fun k cs hk => hk.ne hds (by decide)))
  have HP3 := Lib.hid (HP2.out.touch HT3.out HGA.out (fun k cs hk => hk.ne hds (by decide)))
  clear HT3 hds HW2 HO2 HR2 HP2 HOw hz hfz
  generalize w2.setCell ⟨w.heap.size, 0, none⟩ (.slice (some ⟨g2, 0, none⟩) 96 96) = w3 at *
  go_loopw [15] (fun i wx => ∃ t : Nat, t ≤ 41 ∧ i = .int .i64 t ∧ Hid (WriF wx w.heap.size (layTo rs a m t)) ∧ Hid (Old w wx) ∧ Hid (RAt wx gr or rs) ∧ Hid (PAt wx ga oa a)) (fun i _ => 41 - (intOf i).toNat)
  case atStart => exact ⟨0, by omega, rfl, HW3, HO3, HR3, HP3⟩
  case round =>
    obtain ⟨t, hle, rfl, HW, HO, HRt, HPt⟩ := hrel
    clear HW3 HO3 HR3 HP3
    by_cases hlt : t < 41
    · obtain ⟨r, hr⟩ := get_of_lt (l := rs) (n := t) (by rw [HR.out]; exact hlt)
      obtain ⟨ks, hks⟩ := get_of_lt (l := a) (n := t) (by rw [HA.out]; exact hlt)
      have HDr : Hid (Old wr wr.drew) := (Touch.refl _ wr).drew
      obtain ⟨p, c, hc1, hc2, hcl, hB⟩ := (HRt.out.old HDr.out) t r hr
      obtain ⟨p2, d, hd1, hdl, hI⟩ := (HPt.out.old HDr.out) t ks hks
      have hb6 : (bytesOf r).length ≤ 60000 := by
        cases r with
        | none => exact Nat.zero_le _
        | some b => exact HB.out b (mem_of_get hr)
      obtain ⟨es, hes⟩ := HW.out.blk
      have es' : Hid (Blk wr.drew w.heap.size 30 es) := hes.touch HDr.out (fun q => q)
      have HC := Lib.hid (layRecord_any w.heap.size m (layTo rs a m t) p2 p (bytesOf r) ks (bytesOf r).length c ks.length d wr.drew (HW.out.old HDr.out) (layTo_length _ _ _ _) hB rfl hcl (by omega) hI rfl hdl (fun k hk => by have := HK.out ks (mem_of_get hks) k hk; omega) (HKL.out ks (mem_of_get hks)))
      have HX1 := Lib.hid hr
      have HX2 := Lib.hid hks
      have hS1 := Lib.hid (And.intro hc2 hd1)
      have i0 : (0 : Int) ≤ (t : Int) := by omega
      have i1 : (t : Int) < 41 := by omega
      clear hr hks hc1 hc2 hd1 hcl hdl hB hI hb6 hes
      generalize (bytesOf r).length = n1 at *
      generalize ks.length = n2 at *
      go_wp2_with fail
      go_region_held3 (fun w' => w'.cell? ⟨gr, or + t * 2 + 1, none⟩ = some (.slice p n1 c) ∧ w'.cell? ⟨ga, oa + t, none⟩ = some (.slice p2 n2 d)) (first | exact hS1.out | exact hS2.out)
        (first | (go_at_call 71; with_reducible refine HC.out.mono ?_; rintro x w5 ⟨rfl, W5, T5⟩
                  have hS2 := Lib.hid (And.intro ((T5.cell (p := ⟨gr, or + t * 2 + 1, none⟩) (lt_of_cell? hS1.out.1) HGR.out).trans hS1.out.1) ((T5.cell (p := ⟨ga, oa + t, none⟩) (lt_of_cell? hS1.out.2) HGA.out).trans hS1.out.2))
                  have HW5 := Lib.hid W5
                  have HO5 := Lib.hid ((HO.out.trans HDr.out).own T5 (Nat.le_refl _))
                  have HR5 := Lib.hid ((HRt.out.old HDr.out).touch T5 HGR.out (fun k cs hk => hk.ne es'.out (by decide)))
                  have HP5 := Lib.hid ((HPt.out.old HDr.out).touch T5 HGA.out (fun k cs hk => hk.ne es'.out (by decide)))
                  clear W5 T5))
      all_goals
        rename_i hHeld
        clear hHeld
        go_wp2_with fail
        refine ⟨⟨t + 1, by omega, by go_num, ?_, HO5, HR5, HP5⟩, by simp [intOf]; omega⟩
        rw [layTo_next HX2.out HX1.out]
        exact HW5
    · obtain rfl : t = 41 := by omega
      go_wp2_with fail
      go_ret
      refine ⟨_, rfl, Nat.le_refl _, ?_, HO.out⟩
      have := HW.out
      unfold layTo at this
      rw [List.take_of_length_le (by rw [HA.out]; exact Nat.le_refl _), List.take_of_length_le (by rw [HR.out]; exact Nat.le_refl _)] at this
      exact this
end Go.Proofs.YtjajenkagcdhlaaGreat
/- The contract of the vault's others. -/
namespace Go.Proofs.YtjajenkagcdhlaaGreat
open Go.RowKit
set_option maxRecDepth 100000

theorem MineE.old' {w wx w' : World} {v : Value} {e : List Ent} (o : Old w wx) (h : MineE wx w.heap.size v e) (T : Touch (blk v) wx w') : Old w w' :=
  Touch.above o (Nat.le_refl _) (fun k hk => (h.lt k hk).1) T
theorem otherAt_none {was now : Wri} {k : Nat} (h : now.getD k none = none) : otherAt was now k = [] := by unfold otherAt; rw [h]
theorem otherAt_same {was now : Wri} {k : Nat} {b : List Nat} (h : now.getD k none = some b) (h2 : was.getD k none = some b) : otherAt was now k = [] := by unfold otherAt; rw [h]; simp only; rw [if_pos h2]
theorem otherAt_other {was now : Wri} {k : Nat} {b : List Nat} (h : now.getD k none = some b) (h2 : was.getD k none ≠ some b) : otherAt was now k = [(k, b)] := by unfold otherAt; rw [h]; simp only; rw [if_neg h2]

/-- Is it what was there? -/
def sameAs (b : List Nat) (x : Option (List Nat)) : Bool := decide (x = some b)
theorem equal_slot {w : World} {h o c : Nat} {b : List Nat} (ht : Trk b) (hB : Byt w (some ⟨h, o, none⟩) b) {v : Value} {x : Option (List Nat)} (hs : SlotF w v x) :
    ∃ a n d, v = .slice a n d ∧ Calls Tryz.prog 70 #[.slice (some ⟨h, o, none⟩) 96 c, .slice a n d] w fun e w' => e = .returned (.bool (sameAs b x)) ∧ w = w' := by
  cases x with
  | none =>
    have hv : v = .slice none 0 0 := hs
    refine ⟨none, 0, 0, hv, (equal_any (some ⟨h, o, none⟩) none b [] 96 0 c 0 w hB.has (Has.nil _ _) ht.len rfl).mono ?_⟩
    rintro e w' ⟨rfl, rfl⟩
    refine ⟨?_, rfl⟩
    have : ¬ b = [] := fun e => by have := ht.len; rw [e] at this; simp at this
    simp [sameAs, this]
  | some y =>
    obtain ⟨h', o', hv, hy, hB'⟩ := hs
    refine ⟨_, 96, 96, hv, (equal_any (some ⟨h, o, none⟩) (some ⟨h', o', none⟩) b y 96 96 c 96 w hB.has hB'.has ht.len hy.len).mono ?_⟩
    rintro e w' ⟨rfl, rfl⟩
    refine ⟨?_, rfl⟩
    unfold sameAs
    by_cases q : b = y
    · subst q; simp
    · have q' : ¬ y = b := fun e => q e.symm
      simp [q, q']

set_option maxHeartbeats 3200000 in
theorem others_any (g1 g2 m : Nat) (was now : Wri) (w : World) (h1 : WriF w g1 was) (h2 : WriF w g2 now) (l1 : was.length = m) (l2 : now.length = m) (hm : m ≤ 5000) :
    Calls Tryz.prog 42 #[.slice (some ⟨g1, 0, none⟩) m m, .slice (some ⟨g2, 0, none⟩) m m] w fun x w' => ∃ v, x = .returned v ∧ MineE w' w.heap.size v (othersM was now) ∧ Old w w' := by
  have H1 := Lib.hid h1
  have H2 := Lib.hid h2
  have L1 := Lib.hid l1
  have L2 := Lib.hid l2
  have HE0 : Hid (MineE w w.heap.size (.slice none 0 0) (othersTo was now 0)) := MineE.nil _ _
  have HO0 : Hid (Old w w) := Touch.refl _ _
  have hneq := neq_nil
  clear h1 h2 l1 l2
  go_enter Tryz.func42, Tryz.ntmps42
  go_wp2_with fail
  go_loopw [5, 10] (fun v i wx => ∃ t : Nat, t ≤ m ∧ i = .int .i64 t ∧ Hid (MineE wx w.heap.size v (othersTo was now t)) ∧ Hid (Old w wx)) (fun _ i _ => m - (intOf i).toNat)
  case atStart => exact ⟨0, by omega, rfl, HE0, HO0⟩
  case round =>
    obtain ⟨t, hle, rfl, HE, HO⟩ := hrel
    clear HE0 HO0
    by_cases hlt : t < m
    · obtain ⟨x, hx⟩ := get_of_lt (l := now) (n := t) (by rw [L2.out]; exact hlt)
      obtain ⟨y, hy⟩ := get_of_lt (l := was) (n := t) (by rw [L1.out]; exact hlt)
      obtain ⟨vx, hcx, hsx⟩ := (H2.out.old HO.out).slot hx
      obtain ⟨vy, hcy, hsy⟩ := (H1.out.old HO.out).slot hy
      have i0 : (0 : Int) ≤ (t : Int) := by omega
      have i1 : (t : Int) < (m : Int) := by omega
      have hsm : (othersTo was now t).length ≤ 1000000 := by have := othersTo_length was now t; omega
      have HS := Lib.hid hsm
      clear hsm
      cases x with
      | none =>
        have hv : vx = .slice none 0 0 := hsx
        subst hv
        have HN : Hid (MineE wr w.heap.size u5 (othersTo was now (t + 1))) := by
          show MineE _ _ _ _
          show MineE _ _ _ (othersTo was now t ++ otherAt was now t)
          rw [otherAt_none (getD_of hx), List.append_nil]
          exact HE.out
        clear hsx hsy hx hy hcy HE
        go_wp2_with fail
        exact ⟨⟨t + 1, by omega, by go_num, HN, HO⟩, by simp [intOf]; omega⟩
      | some b =>
        obtain ⟨ha, oa, rfl, hT, hB⟩ := hsx
        obtain ⟨pa, na, da, rfl, hE⟩ := equal_slot (c := 96) hT hB hsy
        have HQ := Lib.hid hE
        have HX := Lib.hid hx
        have HY := Lib.hid hy
        have HB := Lib.hid hB
        have HTr := Lib.hid hT
        clear hE hsy hx hy hB hT
        cases hs : sameAs b y with
        | true =>
          rw [hs] at HQ
          have hyb : y = some b := of_decide_eq_true hs
          have HN : Hid (MineE wr w.heap.size u5 (othersTo was now (t + 1))) := by
            show MineE _ _ _ _
            show MineE _ _ _ (othersTo was now t ++ otherAt was now t)
            rw [otherAt_same (getD_of HX.out) (by rw [getD_of HY.out]; exact hyb), List.append_nil]
            exact HE.out
          clear hs hyb HE
          go_wp2_with fail
          refine HQ.out.mono ?_
          rintro x w' ⟨rfl, rfl⟩
          go_wp2_with fail
          exact ⟨⟨t + 1, by omega, by go_num, HN, HO⟩, by simp [intOf]; omega⟩
        | false =>
          rw [hs] at HQ
          have hyb : ¬ y = some b := of_decide_eq_false hs
          obtain ⟨v', w', hap, M', T'⟩ := HE.out.more HO.out.size t (some ⟨ha, oa, none⟩) b 96 96 HTr.out.len (Nat.le_refl _) HB.out HS.out
          have HN : Hid (MineE w' w.heap.size v' (othersTo was now (t + 1))) := by
            show MineE _ _ _ _
            show MineE _ _ _ (othersTo was now t ++ otherAt was now t)
            rw [otherAt_other (getD_of HX.out) (by rw [getD_of HY.out]; exact hyb)]
            exact M'
          have HO' : Hid (Old w w') := MineE.old' HO.out HE.out T'
          clear hs hyb M' T' HE
          go_wp2_with fail
          refine HQ.out.mono ?_
          rintro x w7 ⟨rfl, rfl⟩
          go_wp2_with (first | (at_builtin; refine wpList_append_run rfl _ _ 78 78 rfl _ _ rfl rfl _ _ (hap _) ?_))
          exact ⟨⟨t + 1, by omega, by go_num, HN, HO'⟩, by simp [intOf]; omega⟩
    · obtain rfl : t = m := by omega
      have HN : Hid (∃ v, u5 = v ∧ MineE wr w.heap.size v (othersM was now)) := ⟨u5, rfl, by show MineE _ _ _ (othersTo was now now.length); rw [L2.out]; exact HE.out⟩
      clear HE
      go_wp2_with fail
      go_ret
      obtain ⟨v, rfl, hv⟩ := HN.out
      exact ⟨_, rfl, hv, HO.out⟩
end Go.Proofs.YtjajenkagcdhlaaGreat
/- Rows of numbers put together: slices.Grow of nil, slices.Concat; the contract of the vault's freeTracks. -/
namespace Go.Proofs.YtjajenkagcdhlaaGreat
open Go.RowKit
set_option maxRecDepth 100000

abbrev iv (ks : List Nat) : List Int := ks.map fun (x : Nat) => (x : Int)
theorem iv_append (xs ys : List Nat) : iv (xs ++ ys) = iv xs ++ iv ys := by simp [iv]
theorem nums_append (xs ys : List Int) : nums (xs ++ ys) = nums xs ++ nums ys := by simp [nums]

/-- 'append(x, s...)' of numbers. -/
theorem MineI.app {w : World} {B : Nat} {v : Value} {xs : List Int} (h : MineI w B v xs) (hB : B ≤ w.heap.size) (ks : List Nat) (a : Option Addr) (len cap : Nat) (hI : Its w a ks) (hlen : ks.length = len) (hl : xs.length + len ≤ 1000000) :
    ∃ v' w', (∀ ty, (Builtin.append_ #[31, 31] ty #[v, .slice a len cap]).run Tryz.prog w = .ok v' w') ∧ MineI w' B v' (xs ++ iv ks) ∧ Touch (blk v) w w' := by
  obtain ⟨i0, hi0, hz0, hz1, hz2⟩ := info_parts info3
  rcases Nat.eq_zero_or_pos len with h0 | h0
  · subst h0
    have hk : ks = [] := List.eq_nil_of_length_eq_zero hlen
    subst hk
    refine ⟨v, w, fun ty => ?_, by rw [show iv [] = [] from rfl, List.append_nil]; exact h, Touch.refl _ _⟩
    have hs : Src Tryz.prog i0.size 31 (.slice a 0 cap) 0 [] w := by
      rw [hz1]
      cases a with
      | none => exact Src.ofNil w Tryz.underlying31 cap
      | some a => exact Src.ofSlice w Tryz.underlying31 a 0 cap [] rfl (fun j u hu => by simp at hu) (fun v hv => by cases hv)
    obtain ⟨_, ⟨rfl, h0'⟩ | ⟨g, cp, cur, rfl, _⟩⟩ := h
    · simp [Builtin.append_, run_underlying Tryz.underlying31, sizeOf, typeInfo, hi0, hs.len, hs.cells]
    · have := run_append_room_src (P := Tryz.prog) w 31 31 ty 3 i0 Tryz.underlying31 hi0 g 0 xs.length cp (.slice a 0 cap) 0 _ hs (by omega) (fun j hj => absurd hj (Nat.not_lt_zero _)) (fun j hj => absurd hj (Nat.not_lt_zero _))
      rw [this]
      rfl
  · obtain ⟨k0, hk0⟩ := get_of_lt (l := ks) (n := 0) (by omega)
    obtain ⟨b, off, rfl, _⟩ := hI.cell hk0
    have hone : ∀ u ∈ nums (iv ks), u.oneCell' = true := fun u hu => by
      obtain ⟨y, _, rfl⟩ := List.mem_map.1 hu
      rfl
    have key : ∀ ty, ∃ v' w', (Builtin.append_ #[31, 31] ty #[v, .slice (some ⟨b, off, none⟩) len cap]).run Tryz.prog w = .ok v' w' ∧ w'.ownsRow B 3 1 v' (xs.length + len) (nums xs ++ nums (iv ks)) ∧ w.grownBy w' v.ownBlock := fun ty => by
      obtain ⟨v', w', hap, own, gr, _, _⟩ := run_append_own_at (P := Tryz.prog) w B 31 ty 3 i0 _ 1 8 Tryz.underlying31 hi0 hz0 hz1 hz2 rfl (by omega) v _ _ h ⟨b, off, none⟩ len cap (nums (iv ks)) (by simp [nums, hlen]) (fun j u hu => by
        have hj : j < ks.length := by have := lt_of_get hu; simpa [nums] using this
        obtain ⟨b', off', e, hc⟩ := hI.cell (i := j) (List.getElem?_eq_getElem hj)
        cases e
        rw [Addr.add_mid, hc, ← hu]
        simp [nums, List.getElem?_eq_getElem hj]) hone (by simp only [maxLen]; omega) (by omega) hB
      exact ⟨v', w', hap, own, gr⟩
    obtain ⟨v', w', hap, own, gr⟩ := key 31
    refine ⟨v', w', fun ty => hap, ?_, Touch.grown gr (fun k hk => hk)⟩
    unfold MineI
    rw [nums_append, List.length_append, List.length_map, hlen]
    exact own

theorem zeroCells_ints (n : Nat) : Builtin.zeroCells (Value.int .i64 0).cells n = (ints (List.replicate n 0)).toArray := by
  rw [← made_ints]
  unfold Builtin.zeroCells madeCells
  rw [show (Value.int .i64 0).cells.size = 1 from rfl, Nat.mul_one]
/-- 'append(nil, make([]int, n)...)'. -/
theorem ints_zeros (w : World) (n : Nat) (h0 : 0 < n) (hn : n ≤ 100000) : ∃ c, n ≤ c ∧ c ≤ maxLen ∧ ∀ ty, (Builtin.append_ #[31, 3] ty #[.slice none 0 0, .int .i64 n]).run Tryz.prog w = .ok (.slice (some ⟨w.heap.size, 0, none⟩) n c) (w.drew.alloc (.cells (ints (List.replicate c 0)).toArray 3)) := by
  obtain ⟨i0, hi, hz0, hz1, hz2⟩ := info_parts info3
  have hw := wrap_nat (n := n) (by omega)
  have hneg : ¬ ((n : Int) < 0) := by omega
  have h48 : ¬ (281474976710656 < (n : Int) * (i0.bytes : Int)) := by rw [hz2]; omega
  have hns' : n ≠ 0 := by omega
  have hfit := growslice_fits (need := n) (old := 0) (bytes := i0.bytes) h0 (by rw [hz2]; omega)
  have hge := grownCap_ge w n 0 3
  have hle : grownCap w n 0 3 ≤ maxLen := grownCap_le_maxLen w n 0 3 (by simp only [maxLen]; omega)
  have h63' : ¬ (9223372036854775807 < (n : Int)) := by omega
  have h48' : ¬ (281474976710656 < Builtin.nextslicecap n 0 * i0.bytes) := by omega
  have hold := run_firstCells_none (P := Tryz.prog) w.drew i0.size 0 0 0
  refine ⟨grownCap w n 0 3, hge, hle, fun ty => ?_⟩
  simp [Builtin.append_, run_underlying Tryz.underlying31, run_underlying Tryz.underlying3, sizeOf, typeInfo, zeroValue, hi, hz0, hz1, hw, hneg, h48, hns', asInt, asIntOf, h63', h48', Question.forced, newRow, grownCap, zeroCells_ints]
  rw [hz1] at hold
  rw [hold]
  have : n + (grownCap w n 0 3 - n) = grownCap w n 0 3 := by omega
  unfold grownCap at this
  simp [ints, List.replicate_append_replicate, this]

theorem grow_nil (w : World) (n : Nat) (hn : n ≤ 100000) : Calls Tryz.prog 96 #[.slice none 0 0, .int .i64 (n : Int)] w fun e w' => ∃ v, e = .returned v ∧ MineI w' w.heap.size v [] ∧ Old w w' := by
  rcases Nat.eq_zero_or_pos n with h0 | h0
  · subst h0
    go_enter Tryz.func96, Tryz.ntmps96
    go_wp2_with fail
    go_ret
    exact ⟨_, rfl, MineI.nil _ _, Touch.refl _ _⟩
  · obtain ⟨c, hc1, hc2, hap⟩ := ints_zeros w n h0 hn
    have HM : Hid (MineI (w.drew.alloc (.cells (ints (List.replicate c 0)).toArray 3)) w.heap.size (.slice (some ⟨w.heap.size, 0, none⟩) 0 c) []) := by
      refine ⟨rfl, .inr ⟨w.heap.size, c, (ints (List.replicate c 0)).toArray, rfl, Nat.le_refl _, heap_alloc_new w.drew _, Nat.zero_le _, hc2, by simp [ints], by simp [nums]⟩⟩
    have HO : Hid (Old w (w.drew.alloc (.cells (ints (List.replicate c 0)).toArray 3))) := ((Touch.refl _ w).drew).alloc _
    have hn0 : ¬ (n : Int) < 0 := by omega
    have hn1 : (0 : Int) < (n : Int) := by omega
    generalize w.drew.alloc (.cells (ints (List.replicate c 0)).toArray 3) = w2 at *
    go_enter Tryz.func96, Tryz.ntmps96
    go_wp2_with (first | (at_builtin; refine wpList_append_run rfl _ _ 31 3 rfl _ _ rfl rfl _ _ (hap _) ?_))
    go_ret
    exact ⟨_, rfl, HM.out, HO.out⟩

set_option maxHeartbeats 1600000 in
theorem concat_any (w : World) (gs n : Nat) (L : Places) (h : PAt w gs 0 L) (hL : L.length = n) (hn : n ≤ 100) (hs : ∀ ks ∈ L, ks.length ≤ 900) : Calls Tryz.prog 69 #[.slice (some ⟨gs, 0, none⟩) n n] w fun e w' => ∃ v, e = .returned v ∧ MineI w' w.heap.size v (iv L.flatten) ∧ Old w w' := by
  have H := Lib.hid h
  have HL := Lib.hid hL
  have HS := Lib.hid hs
  have hsum : ∀ t, (L.take t).flatten.length ≤ t * 900 := fun t => by
    have : ∀ (l : Places), (∀ ks ∈ l, ks.length ≤ 900) → l.flatten.length ≤ l.length * 900 := fun l => by
      induction l with
      | nil => simp
      | cons x l ih =>
        intro hl
        have h1 := hl x (by simp)
        have h2 := ih (fun ks hk => hl ks (by simp [hk]))
        simp only [List.flatten_cons, List.length_append, List.length_cons, Nat.add_mul]
        omega
    have h1 := this (L.take t) (fun ks hk => hs ks (List.mem_of_mem_take hk))
    have h2 : (L.take t).length ≤ t := by rw [List.length_take]; omega
    have h3 := Nat.mul_le_mul_right 900 h2
    omega
  have HU := Lib.hid hsum
  clear h hL hs hsum
  go_enter Tryz.func69, Tryz.ntmps69
  go_wp2_with fail
  go_loopw [3, 11] (fun s i wx => ∃ t : Nat, t ≤ n ∧ i = .int .i64 t ∧ s = .int .i64 (((L.take t).flatten.length : Nat) : Int) ∧ wx = w) (fun _ i _ => n - (intOf i).toNat)
  case atStart => exact ⟨0, by omega, rfl, rfl, rfl⟩
  case round =>
    obtain ⟨t, hle, rfl, rfl, hwr⟩ := hrel
    have hwr := hwr.symm
    subst hwr
    by_cases hlt : t < n
    · obtain ⟨ks, hks⟩ := get_of_lt (l := L) (n := t) (by rw [HL.out]; exact hlt)
      obtain ⟨p, c, hc, _, _⟩ := H.out t ks hks
      rw [Nat.zero_add] at hc
      have h1 := HU.out t
      have h2 := HU.out (t + 1)
      have h3 : (L.take (t + 1)).flatten.length = (L.take t).flatten.length + ks.length := by rw [take_get hks]; simp
      have HX := Lib.hid h3
      have i0 : (0 : Int) ≤ (t : Int) := by omega
      have i1 : (t : Int) < (n : Int) := by omega
      rw [h3] at h2
      clear hks h3
      generalize (L.take t).flatten.length = y at *
      generalize ks.length = k at *
      have hw : IntKind.i64.wrap ((y : Int) + (k : Int)) = (y : Int) + (k : Int) := wrap_fits ⟨by omega, by omega⟩
      have hneg : ¬ (y : Int) + (k : Int) < 0 := by omega
      go_wp2_with fail
      exact ⟨⟨t + 1, by omega, by go_num, by rw [HX.out]; rfl, trivial⟩, by simp [intOf]; omega⟩
    · obtain rfl : t = n := by omega
      have hu := HU.out t
      rw [List.take_of_length_le (by rw [HL.out]; exact Nat.le_refl _)] at hu
      have HG := Lib.hid (grow_nil w L.flatten.length (by omega))
      rw [List.take_of_length_le (by rw [HL.out]; exact Nat.le_refl _)]
      generalize L.flatten.length = z at *
      go_wp2_with fail
      refine HG.out.mono ?_
      rintro x w1 ⟨v1, rfl, M1, O1⟩
      have HM1 : Hid (MineI w1 w.heap.size v1 (iv (L.take 0).flatten)) := M1
      have HO1 := Lib.hid O1
      clear M1 O1 HG hu
      go_wp2_with fail
      go_loopw [6, 27] (fun v i wx => ∃ k : Nat, k ≤ t ∧ i = .int .i64 k ∧ Hid (MineI wx w.heap.size v (iv (L.take k).flatten)) ∧ Hid (Old w wx)) (fun _ i _ => t - (intOf i).toNat)
      case atStart => exact ⟨0, by omega, rfl, HM1, HO1⟩
      case round =>
        obtain ⟨k, hk, rfl, HM, HO⟩ := hrel
        clear HM1 HO1
        by_cases hlt : k < t
        · obtain ⟨ks, hks⟩ := get_of_lt (l := L) (n := k) (by rw [HL.out]; exact hlt)
          obtain ⟨p, c, hc, _, hI⟩ := (H.out.old HO.out) k ks hks
          rw [Nat.zero_add] at hc
          have i0 : (0 : Int) ≤ (k : Int) := by omega
          have i1 : (k : Int) < (t : Int) := by omega
          obtain ⟨v', w', hap, M', T'⟩ := HM.out.app HO.out.size ks p ks.length c hI rfl (by
            have h1 := HU.out k
            have h2 := HS.out ks (mem_of_get hks)
            have h3 := Nat.mul_le_mul_right 900 hk
            simp only [List.length_map]
            omega)
          have HN : Hid (MineI w' w.heap.size v' (iv (L.take (k + 1)).flatten)) := by
            show MineI _ _ _ _
            rw [take_get hks, List.flatten_append, iv_append]
            simpa using M'
          have HO' : Hid (Old w w') := Touch.above HO.out (Nat.le_refl _) (fun k hk => (HM.out.lt k hk).1) T'
          clear M' T' HM hks hI
          go_wp2_with (first | (at_builtin; refine wpList_append_run rfl _ _ 31 31 rfl _ _ rfl rfl _ _ (hap _) ?_))
          exact ⟨⟨k + 1, by omega, by go_num, HN, HO'⟩, by simp [intOf]; omega⟩
        · obtain rfl : k = t := by omega
          have HN : Hid (∃ v, u6 = v ∧ MineI wr w.heap.size v (iv L.flatten)) := ⟨u6, rfl, by
            have := HM.out
            rwa [List.take_of_length_le (by rw [HL.out]; exact Nat.le_refl _)] at this⟩
          clear HM
          go_wp2_with fail
          go_ret
          obtain ⟨v, rfl, hv⟩ := HN.out
          exact ⟨_, rfl, hv, HO.out⟩
end Go.Proofs.YtjajenkagcdhlaaGreat
/- The contract of the vault's freeTracks. -/
namespace Go.Proofs.YtjajenkagcdhlaaGreat
open Go.RowKit
set_option maxRecDepth 100000

def takenTo (a : Places) (t : Nat) (i : Nat) : Bool := i == 0 || (a.take t).flatten.contains i
def takenIn (a : Places) (t : Nat) (ks : List Nat) (j i : Nat) : Bool := takenTo a t i || (ks.take j).contains i
def freeTo (f : Nat → Bool) (t : Nat) : List Nat := (List.range t).filter fun k => !f k
theorem freeTo_next (f : Nat → Bool) (t : Nat) : freeTo f (t + 1) = freeTo f t ++ (if f t then [] else [t]) := by
  unfold freeTo
  rw [List.range_succ, List.filter_append]
  cases h : f t <;> simp [h]

set_option maxHeartbeats 3200000 in
theorem freeTracks_any (g o m : Nat) (a : Places) (w : World) (h : PAt w g o a) (ha : a.length = 41) (hk : ∀ ks ∈ a, ∀ k ∈ ks, k < m) (hkl : ∀ ks ∈ a, ks.length ≤ 900) (hm : m ≤ 5000) (h0 : 0 < m) :
    Calls Tryz.prog 68 #[.pointer (some ⟨g, o, none⟩), .int .i64 (m : Int)] w fun e w' => ∃ v, e = .returned v ∧ MineI w' w.heap.size v (iv (freeM a m)) ∧ Old w w' := by
  have H := Lib.hid h
  have HA := Lib.hid ha
  have HK := Lib.hid hk
  have HKL := Lib.hid hkl
  have hmk := make_bools m (by omega) w
  have T1 : Old w (w.alloc (.cells (flags (fun _ => false) m).toArray 4)) := (Touch.refl _ w).alloc _
  have HB1 : Hid (Blk (w.alloc (.cells (flags (fun _ => false) m).toArray 4)) w.heap.size 4 (flags (fun _ => false) m)) := Blk.new w 4 _
  have HT1 := Lib.hid T1
  have hm0 : (0 : Int) < (m : Int) := by omega
  have hmn : ¬ (m : Int) < 0 := by omega
  have hc0 := HB1.out.cell 0
  rw [flags_get _ _ _ h0] at hc0
  have hf0 := HB1.out.frozen 0
  have HB2 : Hid (Blk ((w.alloc (.cells (flags (fun _ => false) m).toArray 4)).setCell ⟨w.heap.size, 0, none⟩ (.bool true)) w.heap.size 4 (flags (takenTo a 0) m)) := by
    have := HB1.out.set 0 (.bool true)
    rwa [flags_set (g := takenTo a 0) h0 (fun i hi => by simp [takenTo])] at this
  have HT2 : Hid (Old w ((w.alloc (.cells (flags (fun _ => false) m).toArray 4)).setCell ⟨w.heap.size, 0, none⟩ (.bool true))) := T1.setCell (.inr (Nat.le_refl _)) _
  clear T1 h ha hk hkl
  generalize w.alloc (.cells (flags (fun _ => false) m).toArray 4) = w1 at *
  go_enter Tryz.func68, Tryz.ntmps68
  go_wp2_with fail
  clear hmk HB1 HT1 hc0 hf0
  generalize w1.setCell ⟨w.heap.size, 0, none⟩ (.bool true) = w2 at *
  go_loopw [18] (fun i wx => ∃ t : Nat, t ≤ 41 ∧ i = .int .i64 t ∧ Hid (Blk wx w.heap.size 4 (flags (takenTo a t) m)) ∧ Hid (Old w wx)) (fun i _ => 41 - (intOf i).toNat)
  case atStart => exact ⟨0, by omega, rfl, HB2, HT2⟩
  case round =>
    obtain ⟨t, hle, rfl, HB, HO⟩ := hrel
    clear HB2 HT2
    by_cases hlt : t < 41
    · obtain ⟨ks, hks⟩ := get_of_lt (l := a) (n := t) (by rw [HA.out]; exact hlt)
      obtain ⟨p, c, hcw, hcl, hI⟩ := H.out t ks hks
      have hc := (HO.out.cell (p := ⟨g, o + t, none⟩) (lt_of_cell? hcw) (fun q => q)).trans hcw
      have HI := Lib.hid hI
      have HX := Lib.hid hks
      have HKs := Lib.hid (HK.out ks (mem_of_get hks))
      obtain ⟨n, hn⟩ : ∃ n, ks.length = n := ⟨_, rfl⟩
      have HN := Lib.hid hn
      have hn9 : n ≤ 900 := by rw [← hn]; exact HKL.out ks (mem_of_get HX.out)
      rw [hn] at hc hcl
      clear hcw
      have i0 : (0 : Int) ≤ (t : Int) := by omega
      have i1 : (t : Int) < 41 := by omega
      have HB0 : Hid (Blk wr w.heap.size 4 (flags (takenIn a t ks 0) m)) := by
        show Blk _ _ _ _
        rw [← flags_congr (f := takenTo a t) (g := takenIn a t ks 0) (fun i hi => by simp [takenIn])]
        exact HB.out
      have HO0 := Lib.hid HO.out
      clear hks hn hI HB
      go_wp2_with fail
      clear hc
      go_loopw [25] (fun i wx => ∃ j : Nat, j ≤ n ∧ i = .int .i64 j ∧ Hid (Blk wx w.heap.size 4 (flags (takenIn a t ks j) m)) ∧ Hid (Old w wx)) (fun i _ => n - (intOf i).toNat)
      case atStart => exact ⟨0, by omega, rfl, HB0, HO0⟩
      case round =>
        obtain ⟨j, hj, rfl, HB, HO1⟩ := hrel
        clear HB0 HO0
        by_cases hjn : j < n
        · obtain ⟨k, hkj⟩ := get_of_lt (l := ks) (n := j) (by rw [HN.out]; exact hjn)
          have hkm := HKs.out k (mem_of_get hkj)
          obtain ⟨b, off, rfl, hck⟩ := (HI.out.old HO1.out).cell hkj
          have hcf := HB.out.cell k
          rw [flags_get _ _ _ hkm] at hcf
          have hff := HB.out.frozen k
          have j0 : (0 : Int) ≤ (j : Int) := by omega
          have j1 : (j : Int) < (n : Int) := by omega
          have k0 : (0 : Int) ≤ (k : Int) := by omega
          have k1 : (k : Int) < (m : Int) := by omega
          have HBn : Hid (Blk (wr.setCell ⟨w.heap.size, k, none⟩ (.bool true)) w.heap.size 4 (flags (takenIn a t ks (j + 1)) m)) := by
            have := HB.out.set k (.bool true)
            rwa [flags_set (g := takenIn a t ks (j + 1)) hkm (fun i hi => by
              unfold takenIn
              rw [take_get hkj, List.contains_append, List.contains_cons, Bool.or_assoc]
              simp)] at this
          have HOn : Hid (Old w (wr.setCell ⟨w.heap.size, k, none⟩ (.bool true))) := HO1.out.setCell (.inr (Nat.le_refl _)) _
          clear hkj HB HO1
          generalize takenIn a t ks j k = bb at *
          go_wp2_with fail
          exact ⟨⟨j + 1, by omega, by go_num, HBn, HOn⟩, by simp [intOf]; omega⟩
        · obtain rfl : j = n := by omega
          have HBn : Hid (Blk wr w.heap.size 4 (flags (takenTo a (t + 1)) m)) := by
            show Blk _ _ _ _
            rw [← flags_congr (f := takenIn a t ks j) (g := takenTo a (t + 1)) (fun i hi => by
              unfold takenIn takenTo
              rw [List.take_of_length_le (l := ks) (by rw [HN.out]; exact Nat.le_refl _), take_get HX.out, List.flatten_append, List.contains_append, Bool.or_assoc]
              simp)]
            exact HB.out
          clear HB
          go_wp2_with fail
          exact ⟨⟨t + 1, by omega, by go_num, HBn, HO1⟩, by simp [intOf]; omega⟩
    · obtain rfl : t = 41 := by omega
      rw [show ((41 : Nat) : Int) = 41 from rfl]
      have HF0 : Hid (MineI wr w.heap.size (.slice none 0 0) (iv (freeTo (takenTo a 41) 0))) := MineI.nil _ _
      have HB0 := Lib.hid HB.out
      have HO0 := Lib.hid HO.out
      clear HB
      go_wp2_with fail
      go_loopw [10, 36] (fun v i wx => ∃ t : Nat, t ≤ m ∧ i = .int .i64 t ∧ Hid (MineI wx w.heap.size v (iv (freeTo (takenTo a 41) t))) ∧ Hid (Blk wx w.heap.size 4 (flags (takenTo a 41) m)) ∧ Hid (Old w wx)) (fun _ i _ => m - (intOf i).toNat)
      case atStart => exact ⟨0, by omega, rfl, HF0, HB0, HO0⟩
      case round =>
        obtain ⟨t, ht, rfl, HF, HB, HO1⟩ := hrel
        clear HF0 HB0 HO0 HO
        by_cases htm : t < m
        · have hcf := HB.out.cell t
          rw [flags_get _ _ _ htm] at hcf
          have j0 : (0 : Int) ≤ (t : Int) := by omega
          have j1 : (t : Int) < (m : Int) := by omega
          cases hb : takenTo a 41 t with
          | true =>
            rw [hb] at hcf
            have HFn : Hid (MineI wr w.heap.size u10 (iv (freeTo (takenTo a 41) (t + 1)))) := by
              show MineI _ _ _ _
              rw [freeTo_next, hb]
              simpa using HF.out
            clear hb HF
            go_wp2_with fail
            exact ⟨⟨t + 1, by omega, by go_num, HFn, HB, HO1⟩, by simp [intOf]; omega⟩
          | false =>
            rw [hb] at hcf
            have hfl : (freeTo (takenTo a 41) t).length ≤ t := by
              unfold freeTo
              have := List.length_filter_le (fun k => !takenTo a 41 k) (List.range t)
              rwa [List.length_range] at this
            obtain ⟨v', w', hap, M', T'⟩ := HF.out.more HO1.out.size (t : Int) (by simp only [List.length_map]; omega)
            have HFn : Hid (MineI w' w.heap.size v' (iv (freeTo (takenTo a 41) (t + 1)))) := by
              show MineI _ _ _ _
              rw [freeTo_next, hb, iv_append]
              simpa using M'
            have HBn : Hid (Blk w' w.heap.size 4 (flags (takenTo a 41) m)) := HB.out.touch T' (own_blk HF.out HB.out (by decide))
            have HOn : Hid (Old w w') := Touch.above HO1.out (Nat.le_refl _) (fun k hk => (HF.out.lt k hk).1) T'
            clear hb M' T' HF HB HO1 hfl
            go_wp2_with (first | (at_builtin; refine wpList_append_run rfl _ _ 31 31 rfl _ _ rfl rfl _ _ (hap _) ?_))
            exact ⟨⟨t + 1, by omega, by go_num, HFn, HBn, HOn⟩, by simp [intOf]; omega⟩
        · obtain rfl : t = m := by omega
          have HN : Hid (∃ v, u10 = v ∧ MineI wr w.heap.size v (iv (freeM a t))) := ⟨u10, rfl, by
            have := HF.out
            have e : freeTo (takenTo a 41) t = freeM a t := by
              unfold freeTo freeM takenTo
              rw [List.take_of_length_le (by rw [HA.out]; exact Nat.le_refl _)]
            rwa [e] at this⟩
          clear HF
          go_wp2_with fail
          go_ret
          obtain ⟨v, rfl, hv⟩ := HN.out
          exact ⟨_, rfl, hv, HO1.out⟩
end Go.Proofs.YtjajenkagcdhlaaGreat
/- The contract of the vault's place. -/
namespace Go.Proofs.YtjajenkagcdhlaaGreat
open Go.RowKit
set_option maxRecDepth 100000

/-- How many free tracks the first t records take. -/
def moreTo : Places → Recs → Nat → Nat
  | ks :: a, r :: rs, t + 1 => (takesR r - ks.length) + moreTo a rs t
  | _, _, _ => 0
theorem moreTo_next : ∀ {a : Places} {rs : Recs} {t : Nat} {ks : List Nat} {r : Rec}, a[t]? = some ks → rs[t]? = some r → moreTo a rs (t + 1) = moreTo a rs t + (takesR r - ks.length)
  | x :: a, y :: rs, 0, ks, r, h1, h2 => by
    injection h1 with h1; injection h2 with h2; subst h1 h2
    show (takesR y - x.length) + moreTo a rs 0 = 0 + _
    have : moreTo a rs 0 = 0 := by cases a <;> cases rs <;> rfl
    omega
  | x :: a, y :: rs, t + 1, ks, r, h1, h2 => by
    have := moreTo_next (a := a) (rs := rs) (t := t) (by simpa using h1) (by simpa using h2)
    show (takesR y - x.length) + moreTo a rs (t + 1) = ((takesR y - x.length) + moreTo a rs t) + _
    omega
  | [], _, t, _, _, h, _ => by simp at h
  | _ :: _, [], t, _, _, _, h => by simp at h
theorem fill_get : ∀ {free : List Nat} {a : Places} {rs : Recs} {t : Nat} {ks : List Nat} {r : Rec}, a[t]? = some ks → rs[t]? = some r → (fill free a rs)[t]? = some (ks ++ (free.drop (moreTo a rs t)).take (takesR r - ks.length))
  | free, x :: a, y :: rs, 0, ks, r, h1, h2 => by
    injection h1 with h1; injection h2 with h2; subst h1 h2
    rfl
  | free, x :: a, y :: rs, t + 1, ks, r, h1, h2 => by
    have := fill_get (free := free.drop (takesR y - x.length)) (a := a) (rs := rs) (t := t) (by simpa using h1) (by simpa using h2)
    show (fill (free.drop (takesR y - x.length)) a rs)[t]? = _
    rw [this, List.drop_drop]
    rfl
  | _, [], _, t, _, _, h, _ => by simp at h
  | _, _ :: _, [], t, _, _, _, h => by simp at h
theorem le_sum : ∀ {a : Places} {rs : Recs}, a.length = rs.length → (∀ (i : Nat) ks r, a[i]? = some ks → rs[i]? = some r → ks.length ≤ takesR r) → a.flatten.length ≤ sumT rs
  | [], [], _, _ => Nat.le_refl _
  | k0 :: a, r0 :: rs, hl, hk => by
    have h0 := hk 0 k0 r0 rfl rfl
    have ih := le_sum (a := a) (rs := rs) (by simpa using hl) (fun i ks r q1 q2 => hk (i + 1) ks r (by simpa using q1) (by simpa using q2))
    show (k0 ++ a.flatten).length ≤ takesR r0 + sumT rs
    rw [List.length_append]
    omega
  | [], r :: rs, hl, _ => by simp at hl
  | ks :: a, [], hl, _ => by simp at hl
theorem moreTo_sum : ∀ {a : Places} {rs : Recs} (t : Nat), a.length = rs.length → (∀ (i : Nat) ks r, a[i]? = some ks → rs[i]? = some r → ks.length ≤ takesR r) → moreTo a rs t + a.flatten.length ≤ sumT rs
  | [], [], t, _, _ => Nat.le_refl _
  | x :: a, y :: rs, 0, hl, hk => by
    have := le_sum hl hk
    show 0 + _ ≤ _
    omega
  | x :: a, y :: rs, t + 1, hl, hk => by
    have h0 := hk 0 x y rfl rfl
    have ih := moreTo_sum (a := a) (rs := rs) t (by simpa using hl) (fun i ks r q1 q2 => hk (i + 1) ks r (by simpa using q1) (by simpa using q2))
    show (takesR y - x.length) + moreTo a rs t + (x ++ a.flatten).length ≤ takesR y + sumT rs
    rw [List.length_append]
    omega
  | [], r :: rs, t, hl, _ => by simp at hl
  | ks :: a, [], t, hl, _ => by simp at hl

/-- The first t places are laid. -/
def putTo (L : Places) (t : Nat) (R : Places) : Places := L.take t ++ R.drop t
theorem putTo_next {L R : Places} {t : Nat} {ks : List Nat} (h : L[t]? = some ks) (hl : t < R.length) : (putTo L t R).set t ks = putTo L (t + 1) R := by
  have h1 := lt_of_get h
  unfold putTo
  rw [List.set_append_right _ _ (by rw [List.length_take]; omega), List.length_take, Nat.min_eq_left (by omega), Nat.sub_self, take_get h, List.append_assoc]
  congr 1
  rw [List.drop_eq_getElem_cons hl]
  rfl
theorem putTo_length {L R : Places} {t : Nat} (hl : L.length = R.length) (ht : t ≤ L.length) : (putTo L t R).length = R.length := by
  unfold putTo
  rw [List.length_append, List.length_take, List.length_drop]
  omega
theorem putTo_get {L R : Places} {t : Nat} (ht : t < R.length) (hl : L.length = R.length) : (putTo L t R)[t]? = R[t]? := by
  unfold putTo
  rw [List.getElem?_append_right (by rw [List.length_take]; omega), List.length_take, Nat.min_eq_left (by omega), Nat.sub_self, List.getElem?_drop, Nat.add_zero]
/-- A block of places. -/
def Pls (w : World) (g : Nat) (a : Places) : Prop := ∃ vs, Blk w g 71 vs ∧ PV w a vs
theorem Pls.old {w w' : World} {g : Nat} {a : Places} (h : Pls w g a) (m : Old w w') : Pls w' g a := by
  obtain ⟨vs, hb, hp⟩ := h
  exact ⟨vs, hb.touch m (fun q => q), hp.old m⟩
theorem Pls.at_ {w : World} {g : Nat} {a : Places} (h : Pls w g a) : PAt w g 0 a := by
  obtain ⟨vs, hb, hp⟩ := h
  exact hp.at_ (A := []) (B := []) (by simpa using hb)
theorem Pls.cell {w : World} {g i : Nat} {a : Places} (h : Pls w g a) (hi : i < a.length) : ∃ v, w.cell? ⟨g, i, none⟩ = some v ∧ w.frozen? ⟨g, i, none⟩ = false := by
  obtain ⟨vs, hb, hp⟩ := h
  exact ⟨_, (hb.cell i).trans (List.getElem?_eq_getElem (by rw [hp.1]; exact hi)), hb.frozen i⟩
theorem Pls.set {w : World} {g i c : Nat} {a : Places} {p : Option Addr} {ks : List Nat} {n : Nat} (h : Pls w g a) (hc : n ≤ c) (hn : ks.length = n) (hI : Its w p ks) : Pls (w.setCell ⟨g, i, none⟩ (.slice p n c)) g (a.set i ks) := by
  obtain ⟨vs, hb, hp⟩ := h
  subst hn
  have T := Touch.one (w := w) ⟨g, i, none⟩ (.slice p ks.length c)
  have hk : ∀ k ds, Blk w k 3 ds → Blk (w.setCell ⟨g, i, none⟩ (.slice p ks.length c)) k 3 ds := fun k ds hd => hd.touch T (hd.ne hb (by decide))
  exact ⟨_, hb.set i _, (hp.keep hk).set ks hc (hI.keep hk)⟩
theorem Pls.blk {w : World} {g : Nat} {a : Places} (h : Pls w g a) : ∃ vs, Blk w g 71 vs := by
  obtain ⟨vs, hb, _⟩ := h
  exact ⟨vs, hb⟩

theorem Its.slice {w : World} {b : Option Addr} {xs : List Nat} {c q : Nat} (h : Its w b xs) (hc : xs.length ≤ c) (hq : q ≤ xs.length) : Its w (if c = q then b else Option.map (fun x => x.add q) b) (xs.drop q) := by
  by_cases e : c = q
  · rw [if_pos e, List.drop_eq_nil_of_le (by omega)]
    exact ⟨HasI.nil _ _, h.blk⟩
  · rw [if_neg e]
    cases b with
    | none =>
      cases xs with
      | nil => rw [List.drop_nil]; exact ⟨HasI.nil _ _, fun _ _ e => by cases e⟩
      | cons x xs => obtain ⟨_, _, e', _⟩ := h.cell (i := 0) (k := x) rfl; cases e'
    | some A =>
      cases xs with
      | nil =>
        rw [List.drop_nil]
        refine ⟨HasI.nil _ _, fun g o e => ?_⟩
        have e : A.add q = ⟨g, o, none⟩ := by injection e
        have hq0 : q = 0 := by simpa using hq
        subst hq0
        have e : A = ⟨g, o, none⟩ := by simpa [Addr.add] using e
        subst e
        exact h.blk g o rfl
      | cons x xs =>
        obtain ⟨b', o', e', _⟩ := h.cell (i := 0) (k := x) rfl
        cases e'
        rw [show Option.map (fun x => x.add q) (some (⟨b', o', none⟩ : Addr)) = some ⟨b', o' + q, none⟩ by rw [Option.map_some, Addr.add_mid]]
        exact h.drop q

theorem results_cell {fn : Func} {p : Tmp} {ty : TypeId} (h : fn.results = #[.cell p ty]) (tmps : Array Value) (P : Program) (w : World) :
    (results fn tmps).run P w = ((asAddr (tmps.getD p undef)).run P w).andThen fun a w₁ => (loadVar ty a).run P w₁ := by
  simp only [results, h]
  simp [Sem.run_bind, Result.andThen]

set_option maxHeartbeats 6400000 in
theorem place_any (gr or gh oh m : Nat) (rs : Recs) (had : Places) (w : World) (hR : RAt w gr or rs) (hP : PAt w gh oh had) (hr : RsOk rs) (hh : PlOk had m) (hm : m ≤ 900) (hs : sumT rs + 1 ≤ m) :
    Calls Tryz.prog 41 #[.pointer (some ⟨gr, or, none⟩), .pointer (some ⟨gh, oh, none⟩), .int .i64 (m : Int)] w fun x w' => ∃ vs, x = .returned (.agg vs.toArray) ∧ PV w' (placeM rs had m) vs ∧ Old w w' := by
  have HRs := Lib.hid hr
  have HPl := Lib.hid hh
  have HR := Lib.hid hR
  have HP := Lib.hid hP
  have T1 : Old w (w.alloc (.cells noPlaces.toArray 71)) := (Touch.refl _ w).alloc _
  have T2 : Old w ((w.alloc (.cells noPlaces.toArray 71)).alloc (.cells noPlaces.toArray 71)) := T1.alloc _
  have HR6 : Hid (∃ vs, Blk ((w.alloc (.cells noPlaces.toArray 71)).alloc (.cells noPlaces.toArray 71)) w.heap.size 71 vs ∧ vs.length = 41) := ⟨noPlaces, (Blk.new w _ noPlaces).touch ((Touch.refl (fun _ => False) _).alloc _) (fun q => q), rfl⟩
  have hp0 : putTo (place0 had rs) 0 ps0 = ps0 := rfl
  have HP7 : Hid (Pls ((w.alloc (.cells noPlaces.toArray 71)).alloc (.cells noPlaces.toArray 71)) (w.heap.size + 1) (putTo (place0 had rs) 0 ps0)) := by
    rw [hp0]
    have := Blk.new (w.alloc (.cells noPlaces.toArray 71)) 71 noPlaces
    rw [World.size_alloc] at this
    exact ⟨noPlaces, this, pv0 _⟩
  have HO := Lib.hid T2
  clear T1 T2 hR hP hr hh hp0
  go_enter Tryz.func41, Tryz.ntmps41
  go_wp2_with (first
    | (with_reducible refine wpList_alloc_places (op := ⟨some 6, _, _, _, _, _⟩) rfl rfl ?_)
    | (with_reducible refine wpList_alloc_places (op := ⟨some 7, _, _, _, _, _⟩) rfl rfl ?_))
  have hgl : gr < w.heap.size := by
    obtain ⟨r0, hr0⟩ := get_of_lt (l := rs) (n := 0) (by rw [HRs.out.r41]; omega)
    obtain ⟨p, c, h1, _⟩ := HR.out 0 r0 hr0
    exact lt_of_cell? h1
  have hhl : gh < w.heap.size := by
    obtain ⟨r0, hr0⟩ := get_of_lt (l := had) (n := 0) (by rw [HPl.out.a41]; omega)
    obtain ⟨p, c, h1, _⟩ := HP.out 0 r0 hr0
    exact lt_of_cell? h1
  have HB : Hid (w.heap.size ≤ w.heap.size ∧ w.heap.size < w.heap.size + 1 ∧ gr < w.heap.size ∧ gh < w.heap.size) := ⟨Nat.le_refl _, by omega, hgl, hhl⟩
  clear hgl hhl
  generalize (w.alloc (.cells noPlaces.toArray 71)).alloc (.cells noPlaces.toArray 71) = w0 at *
  obtain ⟨g6, hg6⟩ : ∃ g6, w.heap.size = g6 := ⟨_, rfl⟩
  obtain ⟨g7, hg7⟩ : ∃ g7, g6 + 1 = g7 := ⟨_, rfl⟩
  have HG6 := Lib.hid hg6
  rw [hg6] at HR6 HP7 HB ⊢
  rw [hg7] at HP7 HB ⊢
  have HG7 := Lib.hid hg7
  clear hg6 hg7
  have HR0 := Lib.hid (HR.out.old HO.out)
  have HP0 := Lib.hid (HP.out.old HO.out)
  have HL0 : Hid ((place0 had rs).length = 41) := by show _ = _; rw [place0_length (by rw [HPl.out.a41, HRs.out.r41]), HRs.out.r41]
  have HPc : Hid (∀ (k : Nat) cs, Blk w k 3 cs → k ≠ g7 ∧ k ≠ g6) := fun k cs hk => by have := hk.lt; have := HB.out; have := HG6.out; omega
  go_loopw [12] (fun i wx => ∃ t : Nat, t ≤ 41 ∧ i = .int .i64 t ∧ Hid (Pls wx g7 (putTo (place0 had rs) t ps0)) ∧ Hid (RAt wx gr or rs) ∧ Hid (PAt wx gh oh had) ∧ Hid (∃ vs, Blk wx g6 71 vs ∧ vs.length = 41) ∧ Hid (Old w wx)) (fun i _ => 41 - (intOf i).toNat)
  case atStart => exact ⟨0, by omega, rfl, HP7, HR0, HP0, HR6, HO⟩
  case round =>
    obtain ⟨t, hle, rfl, HPt, HRt, HHt, H6t, HOt⟩ := hrel
    clear HP7 HR0 HP0 HR6 HO
    by_cases hlt : t < 41
    · obtain ⟨r, hr⟩ := get_of_lt (l := rs) (n := t) (by rw [HRs.out.r41]; exact hlt)
      obtain ⟨ks, hks⟩ := get_of_lt (l := had) (n := t) (by rw [HPl.out.a41]; exact hlt)
      have HDr : Hid (Old wr wr.drew) := (Touch.refl _ wr).drew
      obtain ⟨p2, c2, hr1, hr2, hcl2, hB2⟩ := (HRt.out.old HDr.out) t r hr
      obtain ⟨p, c, hp1, hcl, hI⟩ := (HHt.out.old HDr.out) t ks hks
      have hb6 : (bytesOf r).length ≤ 60000 := by
        cases r with
        | none => exact Nat.zero_le _
        | some b => exact (HRs.out.ok t b hr).2
      have HT := Lib.hid (fun w => rtakes_any r p2 c2 (by omega) w)
      have HI := Lib.hid hI
      have HX := Lib.hid (place0_get hks hr)
      obtain ⟨n, hn⟩ : ∃ n, ks.length = n := ⟨_, rfl⟩
      have HN := Lib.hid hn
      obtain ⟨T, hT⟩ : ∃ T, takesR r = T := ⟨_, rfl⟩
      have hTb : T ≤ 750 := by
        rw [← hT]
        cases r with
        | none => exact Nat.zero_le _
        | some b => exact takesN_le hb6
      obtain ⟨q, hq⟩ : ∃ q, min n T = q := ⟨_, rfl⟩
      have hmn : min (n : Int) (T : Int) = (q : Int) := by omega
      have hmn' : min (T : Int) (n : Int) = (q : Int) := by omega
      rw [hT] at HT HX
      rw [hn] at hp1 hcl
      have hqc : (q : Int) ≤ (c : Int) := by omega
      have hq0 : (0 : Int) ≤ (q : Int) := by omega
      have hS1 : Hid (wr.drew.cell? ⟨gh, oh + t, none⟩ = some (.slice p n c) ∧ wr.drew.cell? ⟨gr, or + t * 2, none⟩ = some (.bool r.isSome) ∧ wr.drew.cell? ⟨gr, or + t * 2 + 1, none⟩ = some (.slice p2 (bytesOf r).length c2)) := ⟨hp1, hr1, hr2⟩
      have i0 : (0 : Int) ≤ (t : Int) := by omega
      have i1 : (t : Int) < 41 := by omega
      have HQ : Hid ((ks.take T).length = q ∧ q ≤ c) := ⟨by rw [List.length_take, HN.out]; omega, by omega⟩
      clear hr hks hp1 hr1 hr2 hcl2 hcl hB2 hI hb6 hn hT hTb
      generalize r.isSome = rb at *
      generalize (bytesOf r).length = n2 at *
      go_wp2_with fail
      go_region_held3 (fun w' => w'.cell? ⟨gh, oh + t, none⟩ = some (.slice p n c) ∧ w'.cell? ⟨gr, or + t * 2, none⟩ = some (.bool rb) ∧ w'.cell? ⟨gr, or + t * 2 + 1, none⟩ = some (.slice p2 n2 c2)) (first | exact hS1.out | exact hS2.out | exact hS3.out _)
        (first | (go_at_call 40; with_reducible refine (HT.out _).mono ?_; rintro x w5 ⟨rfl, O5⟩
                  have hO5 := HDr.out.trans O5
                  have hS2 : Hid (w5.cell? ⟨gh, oh + t, none⟩ = some (.slice p n c) ∧ w5.cell? ⟨gr, or + t * 2, none⟩ = some (.bool rb) ∧ w5.cell? ⟨gr, or + t * 2 + 1, none⟩ = some (.slice p2 n2 c2)) := ⟨(O5.cell (p := ⟨gh, oh + t, none⟩) (lt_of_cell? hS1.out.1) (fun q => q)).trans hS1.out.1, (O5.cell (p := ⟨gr, or + t * 2, none⟩) (lt_of_cell? hS1.out.2.1) (fun q => q)).trans hS1.out.2.1, (O5.cell (p := ⟨gr, or + t * 2 + 1, none⟩) (lt_of_cell? hS1.out.2.2) (fun q => q)).trans hS1.out.2.2⟩
                  have hne : gh ≠ g7 ∧ gr ≠ g7 := by have := HB.out; omega
                  have hS3 : Hid (∀ v, (w5.setCell ⟨g7, t, none⟩ v).cell? ⟨gh, oh + t, none⟩ = some (.slice p n c) ∧ (w5.setCell ⟨g7, t, none⟩ v).cell? ⟨gr, or + t * 2, none⟩ = some (.bool rb) ∧ (w5.setCell ⟨g7, t, none⟩ v).cell? ⟨gr, or + t * 2 + 1, none⟩ = some (.slice p2 n2 c2)) := fun v =>
                    ⟨((Touch.one (w := w5) ⟨g7, t, none⟩ v).cell (p := ⟨gh, oh + t, none⟩) (lt_of_cell? hS2.out.1) hne.1).trans hS2.out.1, ((Touch.one (w := w5) ⟨g7, t, none⟩ v).cell (p := ⟨gr, or + t * 2, none⟩) (lt_of_cell? hS2.out.2.1) hne.2).trans hS2.out.2.1, ((Touch.one (w := w5) ⟨g7, t, none⟩ v).cell (p := ⟨gr, or + t * 2 + 1, none⟩) (lt_of_cell? hS2.out.2.2) hne.2).trans hS2.out.2.2⟩
                  have HP5 := Lib.hid (HPt.out.old hO5)
                  have HR5 := Lib.hid (HRt.out.old hO5)
                  have HH5 := Lib.hid (HHt.out.old hO5)
                  have H65 : Hid (∃ vs, Blk w5 g6 71 vs ∧ vs.length = 41) := by
                    obtain ⟨vs, h1, h2⟩ := H6t.out
                    exact ⟨vs, h1.touch hO5 (fun q => q), h2⟩
                  have HO5 := Lib.hid (HOt.out.trans hO5)
                  have HI5 := Lib.hid (HI.out.old O5)
                  obtain ⟨z, hz, hfz⟩ := HP5.out.cell (i := t) (by rw [putTo_length (by rw [HL0.out]; rfl) (by rw [HL0.out]; omega)]; exact hlt)
                  clear hO5 O5))
      all_goals
        rename_i hHeld
        clear hHeld
        have T6 := Touch.one (w := w5) ⟨g7, t, none⟩ (.slice p q c)
        have hne : gh ≠ g7 ∧ gr ≠ g7 ∧ g6 ≠ g7 := by have := HB.out; omega
        obtain ⟨ds, hds⟩ := HP5.out.blk
        have HPn : Hid (Pls (w5.setCell ⟨g7, t, none⟩ (.slice p q c)) g7 (putTo (place0 had rs) (t + 1) ps0)) := by
          show Pls _ _ _
          rw [← putTo_next HX.out (by exact hlt)]
          exact HP5.out.set HQ.out.2 HQ.out.1 (HI5.out.take T)
        have HRn := Lib.hid (HR5.out.touch T6 hne.2.1 (fun k cs hk => hk.ne hds (by decide)))
        have HHn := Lib.hid (HH5.out.touch T6 hne.1 (fun k cs hk => hk.ne hds (by decide)))
        have H6n : Hid (∃ vs, Blk (w5.setCell ⟨g7, t, none⟩ (.slice p q c)) g6 71 vs ∧ vs.length = 41) := by
          obtain ⟨vs, h1, h2⟩ := H65.out
          exact ⟨vs, h1.touch T6 hne.2.2, h2⟩
        have HOn : Hid (Old w (w5.setCell ⟨g7, t, none⟩ (.slice p q c))) := HO5.out.setCell (.inr (by have := HB.out; have := HG6.out; show w.heap.size ≤ g7; omega)) _
        clear T6 hne hds hz hfz
        go_wp2_with fail
        exact ⟨⟨t + 1, by omega, by go_num, HPn, HRn, HHn, H6n, HOn⟩, by simp [intOf]; omega⟩
    · obtain rfl : t = 41 := by omega
      rw [show ((41 : Nat) : Int) = 41 from rfl]
      have e0 : putTo (place0 had rs) 41 ps0 = place0 had rs := by
        unfold putTo
        rw [List.take_of_length_le (by rw [HL0.out]; exact Nat.le_refl _), List.drop_eq_nil_of_le (by simp [ps0]), List.append_nil]
      rw [e0] at HPt
      have hok0 := place0_ok HRs.out.r41 HPl.out
      have hfew : ∀ (i : Nat) ks r, (place0 had rs)[i]? = some ks → rs[i]? = some r → ks.length ≤ takesR r := fun i ks r h1 h2 => place0_few h1 h2
      have hln : (place0 had rs).length = rs.length := by rw [HL0.out, HRs.out.r41]
      have hsum := le_sum hln hfew
      have hk9 : ∀ ks ∈ place0 had rs, ks.length ≤ 900 := fun ks hks => by
        have h1 := (List.sublist_flatten_of_mem hks).length_le
        omega
      have HF := Lib.hid (freeTracks_any g7 0 m (place0 had rs) wr HPt.out.at_ HL0.out (fun ks hks k hk => hok0.lt k (List.mem_flatten.2 ⟨ks, hks, hk⟩)) hk9 (by omega) (by omega))
      have HPL : Hid (placeM rs had m = fill (freeM (place0 had rs) m) (place0 had rs) rs) := rfl
      have HMo : Hid (∀ t, moreTo (place0 had rs) rs t ≤ (freeM (place0 had rs) m).length) := fun t => by
        have h1 := moreTo_sum (a := place0 had rs) (rs := rs) t hln hfew
        have h2 := freeM_length (place0 had rs) m
        omega
      have HFw := Lib.hid hfew
      have HVl := Lib.hid (place_vld HRs.out HPl.out hs).a41
      clear e0 hok0 hfew hln hsum hk9 HHt
      generalize hPL0 : placeM rs had m = PL at *
      have HPL0 := Lib.hid hPL0
      clear hPL0
      generalize place0 had rs = a0 at *
      generalize freeM a0 m = fr at *
      go_wp2_with fail
      refine HF.out.mono ?_
      rintro x w1 ⟨v1, rfl, M1, O1⟩
      obtain ⟨p1, c1, rfl, hc1, I1, _⟩ := mineI_its M1
      have HFV0 : Hid (∃ p c, Value.slice p1 fr.length c1 = .slice p (fr.drop (moreTo a0 rs 0)).length c ∧ (fr.drop (moreTo a0 rs 0)).length ≤ c ∧ Its w1 p (fr.drop (moreTo a0 rs 0))) := by
        have : moreTo a0 rs 0 = 0 := by cases a0 <;> cases rs <;> rfl
        rw [this, List.drop_zero]
        exact ⟨p1, c1, rfl, hc1, I1⟩
      have HP1 : Hid (Pls w1 g7 (putTo PL 0 a0)) := HPt.out.old O1
      have HR1 := Lib.hid (HRt.out.old O1)
      have H61 : Hid (∃ vs, Blk w1 g6 71 vs ∧ vs.length = 41) := by
        obtain ⟨vs, h1, h2⟩ := H6t.out
        exact ⟨vs, h1.touch O1 (fun q => q), h2⟩
      have HO1 := Lib.hid (HOt.out.trans O1)
      clear M1 O1 HF HPt HRt H6t HOt I1 hc1
      go_wp2_with fail
      go_loopw [9, 39] (fun v i wx => ∃ t : Nat, t ≤ 41 ∧ i = .int .i64 t ∧ Hid (∃ p c, v = .slice p (fr.drop (moreTo a0 rs t)).length c ∧ (fr.drop (moreTo a0 rs t)).length ≤ c ∧ Its wx p (fr.drop (moreTo a0 rs t))) ∧ Hid (Pls wx g7 (putTo PL t a0)) ∧ Hid (RAt wx gr or rs) ∧ Hid (∃ vs, Blk wx g6 71 vs ∧ vs.length = 41) ∧ Hid (Old w wx)) (fun _ i _ => 41 - (intOf i).toNat)
      case atStart => exact ⟨0, by omega, rfl, HFV0, HP1, HR1, H61, HO1⟩
      case round =>
        obtain ⟨t, hle, rfl, HFV, HPt, HRt, H6t, HOt⟩ := hrel
        clear HFV0 HP1 HR1 H61 HO1
        by_cases hlt : t < 41
        · obtain ⟨r, hr⟩ := get_of_lt (l := rs) (n := t) (by rw [HRs.out.r41]; exact hlt)
          obtain ⟨ks, hks⟩ := get_of_lt (l := a0) (n := t) (by rw [HL0.out]; exact hlt)
          have HDr : Hid (Old wr wr.drew) := (Touch.refl _ wr).drew
          obtain ⟨p2, c2, hr1, hr2, hcl2, hB2⟩ := (HRt.out.old HDr.out) t r hr
          obtain ⟨p, c, hp1, hcl, hI⟩ := (HPt.out.at_.old HDr.out) t ks (by rw [putTo_get (by rw [HL0.out]; exact hlt) (by rw [HVl.out, HL0.out])]; exact hks)
          rw [Nat.zero_add] at hp1
          have hb6 : (bytesOf r).length ≤ 60000 := by
            cases r with
            | none => exact Nat.zero_le _
            | some b => exact (HRs.out.ok t b hr).2
          have HT := Lib.hid (fun w => rtakes_any r p2 c2 (by omega) w)
          have HI := Lib.hid hI
          have hnT := HFw.out t ks r hks hr
          have HX := Lib.hid (moreTo_next hks hr)
          have HXf := Lib.hid (fill_get (free := fr) hks hr)
          obtain ⟨n, hn⟩ : ∃ n, ks.length = n := ⟨_, rfl⟩
          have HN := Lib.hid hn
          obtain ⟨T, hT⟩ : ∃ T, takesR r = T := ⟨_, rfl⟩
          have hTb : T ≤ 750 := by
            rw [← hT]
            cases r with
            | none => exact Nat.zero_le _
            | some b => exact takesN_le hb6
          obtain ⟨mo, hmo⟩ : ∃ mo, T - n = mo := ⟨_, rfl⟩
          rw [hT] at HT HX HXf hnT
          rw [hn] at hp1 hcl HX HXf hnT
          rw [hmo] at HX HXf
          have hw : IntKind.i64.wrap ((T : Int) - (n : Int)) = (mo : Int) := by
            rw [show (T : Int) - (n : Int) = (mo : Int) by omega]
            exact wrap_fits ⟨by omega, by omega⟩
          have hS1 : Hid (wr.drew.cell? ⟨g7, t, none⟩ = some (.slice p n c) ∧ wr.drew.cell? ⟨gr, or + t * 2, none⟩ = some (.bool r.isSome) ∧ wr.drew.cell? ⟨gr, or + t * 2 + 1, none⟩ = some (.slice p2 (bytesOf r).length c2)) := ⟨hp1, hr1, hr2⟩
          have i0 : (0 : Int) ≤ (t : Int) := by omega
          have i1 : (t : Int) < 41 := by omega
          obtain ⟨pf, cf, hvf, hcf, hIf⟩ := HFV.out
          subst hvf
          have HIf := Lib.hid hIf
          have hml : moreTo a0 rs t + mo ≤ fr.length := by rw [← HX.out]; exact HMo.out (t + 1)
          have HML := Lib.hid hml
          clear hr hks hp1 hr1 hr2 hcl2 hB2 hI hb6 hn hT hIf HFV
          generalize r.isSome = rb at *
          generalize (bytesOf r).length = n2 at *
          generalize moreTo a0 rs t = st at *
          obtain ⟨fl, hfl⟩ : ∃ fl, (fr.drop st).length = fl := ⟨_, rfl⟩
          have HFl := Lib.hid hfl
          have hmf : mo ≤ fl := by rw [← hfl, List.length_drop]; omega
          rw [hfl] at hcf ⊢
          clear hfl hml
          go_wp2_with fail
          go_region_held3 (fun w' => w'.cell? ⟨g7, t, none⟩ = some (.slice p n c) ∧ w'.cell? ⟨gr, or + t * 2, none⟩ = some (.bool rb) ∧ w'.cell? ⟨gr, or + t * 2 + 1, none⟩ = some (.slice p2 n2 c2)) (first | exact hS1.out | exact hS2.out)
            (first | (go_at_call 40; with_reducible refine (HT.out _).mono ?_; rintro x w5 ⟨rfl, O5⟩
                      have hO5 := HDr.out.trans O5
                      have hS2 : Hid (w5.cell? ⟨g7, t, none⟩ = some (.slice p n c) ∧ w5.cell? ⟨gr, or + t * 2, none⟩ = some (.bool rb) ∧ w5.cell? ⟨gr, or + t * 2 + 1, none⟩ = some (.slice p2 n2 c2)) := ⟨(O5.cell (p := ⟨g7, t, none⟩) (lt_of_cell? hS1.out.1) (fun q => q)).trans hS1.out.1, (O5.cell (p := ⟨gr, or + t * 2, none⟩) (lt_of_cell? hS1.out.2.1) (fun q => q)).trans hS1.out.2.1, (O5.cell (p := ⟨gr, or + t * 2 + 1, none⟩) (lt_of_cell? hS1.out.2.2) (fun q => q)).trans hS1.out.2.2⟩
                      have HP5 := Lib.hid (HPt.out.old hO5)
                      have HR5 := Lib.hid (HRt.out.old hO5)
                      have H65 : Hid (∃ vs, Blk w5 g6 71 vs ∧ vs.length = 41) := by
                        obtain ⟨vs, h1, h2⟩ := H6t.out
                        exact ⟨vs, h1.touch hO5 (fun q => q), h2⟩
                      have HO5 := Lib.hid (HOt.out.trans hO5)
                      have HI5 := Lib.hid (HI.out.old O5)
                      have HIf5 := Lib.hid (HIf.out.old hO5)
                      clear hO5 O5))
          all_goals
            rename_i hHeld
            clear hHeld
            have hfc : (mo : Int) ≤ (cf : Int) := by omega
            have hm0 : (0 : Int) ≤ (mo : Int) := by omega
            have hcc := hS2.out.1
            clear hS1 hS2
            go_wp2_with fail
            have hcd : w5.drew.cell? ⟨g7, t, none⟩ = some (.slice p n c) := hcc
            have TA : Old w5 (w5.alloc (.cells #[.slice p n c, .slice pf mo cf] 31)).drew := ((Touch.refl _ w5).alloc _).drew
            have KA : Blk (w5.alloc (.cells #[.slice p n c, .slice pf mo cf] 31)).drew w5.heap.size 31 [.slice p n c, .slice pf mo cf] := Blk.new w5 31 [.slice p n c, .slice pf mo cf]
            have hPA : PAt (w5.alloc (.cells #[.slice p n c, .slice pf mo cf] 31)).drew w5.heap.size 0 [ks, (fr.drop st).take mo] := fun i x hx => by
              match i, hx with
              | 0, hx =>
                injection hx with hx
                subst hx
                exact ⟨p, c, by rw [HN.out]; exact KA.cell 0, by rw [HN.out]; exact hcl, HI5.out.old TA⟩
              | 1, hx =>
                injection hx with hx
                subst hx
                have hl : ((fr.drop st).take mo).length = mo := by rw [List.length_take, HFl.out]; omega
                exact ⟨pf, cf, by rw [hl]; exact KA.cell 1, by rw [hl]; omega, (HIf5.out.old TA).take mo⟩
              | i + 2, hx => simp at hx
            have HCon := Lib.hid (concat_any _ w5.heap.size 2 _ hPA rfl (by omega) (fun x hx => by
              simp only [List.mem_cons, List.not_mem_nil, or_false] at hx
              rcases hx with rfl | rfl
              · rw [HN.out]; omega
              · rw [List.length_take, HFl.out]; omega))
            clear hcc TA KA hPA
            go_region_law (first
              | (go_simp; go_at_call 69; with_reducible refine HCon.out.mono ?_; rintro x w7 ⟨v7, rfl, M7, O7⟩
                 have hO7 : Old w5 w7 := (((Touch.refl _ w5).alloc _).drew).trans O7
                 obtain ⟨p7, c7, rfl, hc7, I7, _⟩ := mineI_its M7
                 have HI7 := Lib.hid I7
                 have HC7 := Lib.hid hc7
                 have HP7 := Lib.hid (HP5.out.old hO7)
                 have HR7 := Lib.hid (HR5.out.old hO7)
                 have H67 : Hid (∃ vs, Blk w7 g6 71 vs ∧ vs.length = 41) := by
                   obtain ⟨vs, h1, h2⟩ := H65.out
                   exact ⟨vs, h1.touch hO7 (fun q => q), h2⟩
                 have HO7 := Lib.hid (HO5.out.trans hO7)
                 have HIf7 := Lib.hid (HIf5.out.old hO7)
                 obtain ⟨z, hz, hfz⟩ := HP7.out.cell (i := t) (by rw [putTo_length (by rw [HVl.out, HL0.out]) (by rw [HVl.out]; omega), HL0.out]; exact hlt)
                 clear hO7 M7 O7 I7 hc7))
            all_goals
              have hX : [ks, (fr.drop st).take mo].flatten = ks ++ (fr.drop st).take mo := by simp
              rw [hX] at HI7 HC7
              have hXl : (ks ++ (fr.drop st).take mo).length = ks.length + min mo (fr.length - st) := by simp
              have T8 := Touch.one (w := w7) ⟨g7, t, none⟩ (.slice p7 (ks.length + min mo (fr.length - st)) c7)
              have hne : gr ≠ g7 ∧ g6 ≠ g7 := by have := HB.out; omega
              obtain ⟨ds, hds⟩ := HP7.out.blk
              have HPn : Hid (Pls (w7.setCell ⟨g7, t, none⟩ (.slice p7 (ks.length + min mo (fr.length - st)) c7)) g7 (putTo PL (t + 1) a0)) := by
                show Pls _ _ _
                rw [← putTo_next (by rw [HPL.out]; exact HXf.out) (by rw [HL0.out]; exact hlt)]
                exact HP7.out.set (by rw [← hXl]; exact HC7.out) hXl HI7.out
              have HRn := Lib.hid (HR7.out.touch T8 hne.1 (fun k cs hk => hk.ne hds (by decide)))
              have H6n : Hid (∃ vs, Blk (w7.setCell ⟨g7, t, none⟩ (.slice p7 (ks.length + min mo (fr.length - st)) c7)) g6 71 vs ∧ vs.length = 41) := by
                obtain ⟨vs, h1, h2⟩ := H67.out
                exact ⟨vs, h1.touch T8 hne.2, h2⟩
              have HOn : Hid (Old w (w7.setCell ⟨g7, t, none⟩ (.slice p7 (ks.length + min mo (fr.length - st)) c7))) := HO7.out.setCell (.inr (by have := HB.out; have := HG6.out; show w.heap.size ≤ g7; omega)) _
              have HIn := Lib.hid ((HIf7.out.keep (fun k cs hk => hk.touch T8 (hk.ne hds (by decide)))).slice (c := cf) (q := mo) (by rw [HFl.out]; exact hcf) (by rw [HFl.out]; exact hmf))
              have HDl : Hid (((fr.drop st).drop mo).length = fl - mo) := by show _ = _; rw [List.length_drop, HFl.out]
              rw [List.drop_drop, ← HX.out] at HIn HDl
              clear T8 hne hds hz hfz hX hXl HCon HP7 HR7 H67 HO7 HIf7 HI7 HC7
              generalize w7.setCell ⟨g7, t, none⟩ (.slice p7 (ks.length + min mo (fr.length - st)) c7) = w8 at *
              go_wp2_with fail
              refine ⟨⟨t + 1, by omega, by go_num, ⟨_, cf - mo, by rw [HDl.out], by rw [HDl.out]; omega, HIn.out⟩, HPn, HRn, H6n, HOn⟩, by simp [intOf]; omega⟩
        · obtain rfl : t = 41 := by omega
          rw [show ((41 : Nat) : Int) = 41 from rfl]
          have e0 : putTo PL 41 a0 = PL := by
            unfold putTo
            rw [List.take_of_length_le (by rw [HVl.out]; exact Nat.le_refl _), List.drop_eq_nil_of_le (by rw [HL0.out]; exact Nat.le_refl _), List.append_nil]
          rw [e0] at HPt
          obtain ⟨vs, hb7, hp7⟩ := HPt.out
          obtain ⟨v6, hb6, hl6⟩ := H6t.out
          have HB7 := Lib.hid hb7
          have HB6 := Lib.hid hb6
          have HPv := Lib.hid hp7
          have HL6 := Lib.hid hl6
          have HLv : Hid (vs.length = 41) := by show _ = _; rw [hp7.1, HVl.out]
          have HRg : Hid (wr.rangeAt g7 0 vs) := blk_range (xs := []) hb7
          clear e0 hb7 hp7 hb6 hl6 HPt H6t
          go_wp2_with (first
            | (with_reducible refine wpList_load_places (op := ⟨some 67, _, _, _, _, _⟩) rfl (.tmp 7) rfl g7 0 rfl vs HLv.out HRg.out ?_)
            | ((with_reducible refine wpList_store_cells (op := ⟨none, .store 71 _ _, _, _, _, _⟩) rfl 71 (.tmp 6) (.tmp 67) rfl g6 0 vs rfl rfl (by rw [HLv.out]; exact sizeP) HPv.out.one 71 v6 (by rw [HLv.out, HL6.out]; exact Nat.le_refl _) HB6.out ?_); intro w9 K9 T9))
          have e9 : splice v6 0 vs = vs := by
            unfold splice
            rw [List.drop_eq_nil_of_le (by rw [HLv.out, HL6.out]; exact Nat.le_refl _)]
            simp
          rw [e9] at K9
          have hld := run_loadVar_mid (P := Tryz.prog) w9 g6 0 71 vs _ (blk_range (xs := []) K9) Tryz.underlying71 rfl (by rw [HLv.out]; exact sizeP)
          have HO9 : Old w w9 := HOt.out.own T9 (by rw [HG6.out]; exact Nat.le_refl _)
          have HP9 : PV w9 PL vs := HPv.out.keep (fun k cs hk => hk.touch T9 (hk.ne HB6.out (by decide)))
          refine ⟨rfl, .agg vs.toArray, ?_, vs, rfl, by rw [HPL0.out]; exact HP9, HO9⟩
          rw [results_cell (p := 6) (ty := 71) rfl]
          simp only [Act.put]
          show ((asAddr (Value.pointer (some ⟨g6, 0, none⟩))).run Tryz.prog w9).andThen _ = _
          simp [asAddr, hld]
end Go.Proofs.YtjajenkagcdhlaaGreat
