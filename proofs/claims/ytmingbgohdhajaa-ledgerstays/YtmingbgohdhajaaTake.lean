/- A ledger in memory; the contracts of take, Home, Blank, Lost, homeTrack, heed. -/
import Derived.Test.YtmingbgohdhajaaPost
namespace Go.Proofs.Ytmingbgohdhajaa
open Go.RowKit
set_option maxRecDepth 100000

/-- A place of what is written. -/
def Slot (w : World) (v : Value) : Option (List Nat) → Prop
  | none => v = .slice none 0 0
  | some bs => ∃ h o c, v = .slice (some ⟨h, o, none⟩) 96 c ∧ Trk bs ∧ Byt w (some ⟨h, o, none⟩) bs
theorem Slot.keep {w w' : World} {v : Value} {x : Option (List Nat)} (h : Slot w v x) (m : ∀ g cs, Blk w g 5 cs → Blk w' g 5 cs) : Slot w' v x := by
  cases x with
  | none => exact h
  | some bs =>
    obtain ⟨a, o, c, e, ht, hb⟩ := h
    exact ⟨a, o, c, e, ht, hb.keep m⟩
/-- What is written, in memory. -/
def WriAt (w : World) (g : Nat) (ws : Wri) : Prop := ∃ cs : List Value, Blk w g 34 cs ∧ cs.length = ws.length ∧ ∀ (i : Nat) (x : Option (List Nat)), ws[i]? = some x → ∃ v, cs[i]? = some v ∧ Slot w v x
theorem WriAt.keep {w w' : World} {g : Nat} {ws : Wri} (h : WriAt w g ws) (m : ∀ g cs, Blk w g 5 cs → Blk w' g 5 cs) (m' : ∀ cs, Blk w g 34 cs → Blk w' g 34 cs) : WriAt w' g ws := by
  obtain ⟨cs, hb, hl, hs⟩ := h
  refine ⟨cs, m' cs hb, hl, fun i x hx => ?_⟩
  obtain ⟨v, h1, h2⟩ := hs i x hx
  exact ⟨v, h1, h2.keep m⟩
theorem WriAt.old {w w' : World} {g : Nat} {ws : Wri} (h : WriAt w g ws) (m : Old w w') : WriAt w' g ws := h.keep (fun _ _ hb => hb.touch m (fun q => q)) (fun _ hb => hb.touch m (fun q => q))
theorem WriAt.kept {w w' : World} {g : Nat} {ws : Wri} (h : WriAt w g ws) (m : Kept w w') : WriAt w' g ws := h.keep (fun _ _ hb => m.bytes hb) (fun cs hb => m 34 g cs (by unfold other; decide) hb)
theorem WriAt.blk {w : World} {g : Nat} {ws : Wri} (h : WriAt w g ws) : ∃ cs, Blk w g 34 cs := by
  obtain ⟨cs, hb, _⟩ := h
  exact ⟨cs, hb⟩
theorem WriAt.cell {w : World} {g i : Nat} {ws : Wri} (h : WriAt w g ws) (hi : i < ws.length) : ∃ v, w.cell? ⟨g, i, none⟩ = some v ∧ w.frozen? ⟨g, i, none⟩ = false := by
  obtain ⟨cs, hb, hl, _⟩ := h
  exact ⟨_, (hb.cell i).trans (List.getElem?_eq_getElem (by omega)), hb.frozen i⟩
theorem WriAt.slot {w : World} {g i : Nat} {ws : Wri} {x : Option (List Nat)} (h : WriAt w g ws) (hi : ws[i]? = some x) : ∃ v, w.cell? ⟨g, i, none⟩ = some v ∧ Slot w v x := by
  obtain ⟨cs, hb, hl, hs⟩ := h
  obtain ⟨v, h1, h2⟩ := hs i x hi
  exact ⟨v, (hb.cell i).trans h1, h2⟩
theorem WriAt.set {w : World} {g i : Nat} {ws : Wri} {v : Value} {x : Option (List Nat)} (h : WriAt w g ws) (hi : i < ws.length) (hs : Slot w v x) : WriAt (w.setCell ⟨g, i, none⟩ v) g (ws.set i x) := by
  obtain ⟨cs, hb, hl, hc⟩ := h
  have T := Touch.one (w := w) ⟨g, i, none⟩ v
  have hk : ∀ k ds, Blk w k 5 ds → Blk (w.setCell ⟨g, i, none⟩ v) k 5 ds := fun k ds hd => hd.touch T (hd.ne hb (by decide))
  refine ⟨_, hb.set i v, by rw [List.length_set, List.length_set, hl], fun j y hy => ?_⟩
  by_cases e : i = j
  · subst e
    rw [List.getElem?_set_self hi] at hy
    injection hy with hy
    subst hy
    exact ⟨v, List.getElem?_set_self (by omega), hs.keep hk⟩
  · rw [List.getElem?_set_ne e] at hy
    obtain ⟨u, h1, h2⟩ := hc j y hy
    exact ⟨u, by rw [List.getElem?_set_ne e]; exact h1, h2.keep hk⟩

/-- The cells of a ledger itself. -/
def lhead (d g : Nat) (L : LS) : List Value := [.pointer (some ⟨d, 0, none⟩), .int .i64 (L.leaves : Int), .int .i64 (L.round : Int), .int .i64 (L.posts : Int), .int .i64 (L.laid : Int), .slice (some ⟨g, 0, none⟩) L.ws.length L.ws.length, .bool L.lost]

set_option maxHeartbeats 3200000 in
theorem take_any (l d g : Nat) (L : LS) (a : Option Addr) (e : List Ent) (len cap : Nat) (w : World) (hh : Blk w l 94 (lhead d g L)) (hw : WriAt w g L.ws) (h : Ents w a e) (hlen : e.length = len) (hm : len ≤ 100000)
    (he : ∀ x ∈ e, x.1 < L.ws.length ∧ x.2.length = 96) (_hhm : L.ws.length ≤ 5000) :
    Calls Try.prog 79 #[.pointer (some ⟨l, 0, none⟩), .slice a len cap] w fun x w' => x = .returned (.tuple #[]) ∧ WriAt w' g (took L.ws e) ∧ Touch (fun k => k = g) w w' := by
  have HL := Lib.hid hlen
  have H := Lib.hid h
  have HE := Lib.hid he
  have Hh := Lib.hid hh
  have HW0 : Hid (WriAt w g (took L.ws (e.take 0))) := hw
  have HT0 : Hid (Touch (fun k => k = g) w w) := Touch.refl _ _
  have HGl : Hid (l ≠ g) := by
    obtain ⟨cs, hb⟩ := hw.blk
    exact hh.ne hb (by decide)
  have HGb : Hid (∀ k cs t, Blk w k t cs → t ≠ 34 → k ≠ g) := by
    intro k cs t hk ht
    obtain ⟨ds, hb⟩ := hw.blk
    exact hk.ne hb ht
  clear h hlen he hh hw
  go_enter Try.func79, Try.ntmps79
  go_wp2_with fail
  go_loopw [8] (fun i wx => ∃ t : Nat, t ≤ len ∧ i = .int .i64 t ∧ Hid (WriAt wx g (took L.ws (e.take t))) ∧ Hid (Touch (fun k => k = g) w wx)) (fun i _ => len - (intOf i).toNat)
  case atStart => exact ⟨0, by omega, rfl, HW0, HT0⟩
  case round =>
    obtain ⟨t, hle, rfl, HW, HT⟩ := hrel
    clear HW0 HT0
    by_cases hlt : t < len
    · obtain ⟨x, hx⟩ := get_of_lt (l := e) (n := t) (by rw [HL.out]; exact hlt)
      have En : Ents wr a e := H.out.keep (fun k cs hk => hk.touch HT.out (HGb.out k cs 5 hk (by decide))) (fun k cs hk => hk.touch HT.out (HGb.out k cs 37 hk (by decide)))
      obtain ⟨bb, off, p, c, rfl, hc, hd, hcl, hb⟩ := En.en t x hx
      have hx' := HE.out x (mem_of_get hx)
      have h0 : (0 : Int) ≤ (t : Int) := by omega
      have h1 : (t : Int) < (len : Int) := by omega
      rw [hx'.2] at hd
      have HX := Lib.hid hx
      have HX' := Lib.hid hx'
      have HB := Lib.hid hb
      clear En hx hb hcl hx'
      obtain ⟨k, bs⟩ := x
      simp only at hc hd
      have T1 : Old wr (wr.alloc (.cells #[.int .i64 (k : Int), .slice p 96 c] 37)) := (Touch.refl _ _).alloc _
      have HT1 := Lib.hid (HT.out.trans (Touch.of_old T1))
      have HW1 := Lib.hid (HW.out.old T1)
      have HB1 := Lib.hid (HB.out.old T1)
      have K2 : Hid (Blk _ _ _ _) := Blk.new wr 37 [.int .i64 (k : Int), .slice p 96 c]
      clear T1 HW HT HB
      go_wp2_with fail
      generalize wr.alloc (.cells #[.int .i64 (k : Int), .slice p 96 c] 37) = wa at *
      generalize wr.heap.size = gx at *
      have HD : Hid (Old wa wa.drew) := (Touch.refl _ _).drew
      have HTd := Lib.hid (HT1.out.trans (Touch.of_old HD.out))
      have HWd := Lib.hid (HW1.out.old HD.out)
      have HBd := Lib.hid (HB1.out.old HD.out)
      have HKd := Lib.hid (K2.out.touch HD.out (fun q => q))
      have Hhd := Lib.hid (Hh.out.touch HTd.out HGl.out)
      obtain ⟨gp, op, rfl, _⟩ := HBd.out.has.cell 0 (by have : bs.length = 96 := HX'.out.2; omega)
      have HC := Lib.hid (clone_any ⟨gp, op, none⟩ bs 96 c wa.drew HBd.out.has HX'.out.2 (by omega))
      have hS : Hid (wa.drew.cell? ⟨l, 5, none⟩ = some (.slice (some ⟨g, 0, none⟩) L.ws.length L.ws.length) ∧ wa.drew.cell? ⟨gx, 0, none⟩ = some (.int .i64 (k : Int)) ∧ wa.drew.cell? ⟨gx, 1, none⟩ = some (.slice (some ⟨gp, op, none⟩) 96 c)) := ⟨Hhd.out.cell 5, HKd.out.cell 0, HKd.out.cell 1⟩
      have k0 : (0 : Int) ≤ (k : Int) := by omega
      have k1 : (k : Int) < (L.ws.length : Int) := by have : k < L.ws.length := HX'.out.1; omega
      clear HT1 HW1 HB1 K2
      go_region_held3 (fun w' => w'.cell? ⟨l, 5, none⟩ = some (.slice (some ⟨g, 0, none⟩) L.ws.length L.ws.length) ∧ w'.cell? ⟨gx, 0, none⟩ = some (.int .i64 (k : Int)) ∧ w'.cell? ⟨gx, 1, none⟩ = some (.slice (some ⟨gp, op, none⟩) 96 c)) (first | exact hS.out | exact hS2.out | exact hS3.out _)
        (first | (go_at_call 54; refine HC.out.mono ?_; rintro x w2 ⟨g2, c2, rfl, hg2, G2, O2⟩
                  have HW2 := Lib.hid (HWd.out.old O2)
                  have HT2 := Lib.hid (HTd.out.trans (Touch.of_old O2))
                  have HG2 := Lib.hid G2
                  have hS2 := Lib.hid (And.intro ((Hhd.out.touch O2 (fun q => q)).cell 5) (And.intro ((HKd.out.touch O2 (fun q => q)).cell 0) ((HKd.out.touch O2 (fun q => q)).cell 1)))
                  have hgx : gx ≠ g := by
                    obtain ⟨ds, hb⟩ := HWd.out.blk
                    exact HKd.out.ne hb (by decide)
                  have hS3 := Lib.hid (fun v => And.intro (((Hhd.out.touch O2 (fun q => q)).touch (Touch.one ⟨g, k, none⟩ v) HGl.out).cell 5) (And.intro (((HKd.out.touch O2 (fun q => q)).touch (Touch.one ⟨g, k, none⟩ v) hgx).cell 0) (((HKd.out.touch O2 (fun q => q)).touch (Touch.one ⟨g, k, none⟩ v) hgx).cell 1)))
                  clear hgx
                  obtain ⟨z, hz, hfz⟩ := HW2.out.cell (i := k) (by rw [took_length]; exact HX'.out.1)
                  clear G2 O2 hg2))
      all_goals
        rename_i hHeld
        clear hHeld
        go_wp2_with fail
        refine ⟨⟨t + 1, by omega, by go_num, ?_, HT2.out.setCell (.inl rfl) _⟩, by simp [intOf]; omega⟩
        have := HW2.out.set (i := k) (v := .slice (some ⟨g2, 0, none⟩) 96 c2) (x := some bs) (by rw [took_length]; exact HX'.out.1) ⟨g2, 0, c2, rfl, ⟨HG2.out.byte, HX'.out.2⟩, HG2.out.own.byt⟩
        rw [take_get HX.out, took_snoc]
        exact this
    · obtain rfl : t = len := by omega
      go_wp2_with fail
      go_end0
      refine ⟨rfl, ?_, HT.out⟩
      have := HW.out
      rw [List.take_of_length_le (by rw [HL.out]; exact Nat.le_refl _)] at this
      exact this
end Go.Proofs.Ytmingbgohdhajaa
