/- The reference's ledger in memory; the contracts of its Home, Blank, take, ends. -/
import Derived.Test.YtmingbgohdhajaaGreatRefR
import Derived.Test.YtmingbgohdhajaaGreatTakeJ
namespace Go.Proofs.YtmingbgohdhajaaGreat
open Go.RowKit
set_option maxRecDepth 100000

def rlhead (r m : Nat) (L : LS) : List Value := [.pointer (some ⟨r, 0, none⟩), .int .i64 (L.leaves : Int), .int .i64 (L.round : Int), .int .i64 (L.posts : Int), .int .i64 (L.laid : Int), .map (some m), .bool L.lost]

/-- The reference's ledger L lies at lp, its drum at r, its map at m. -/
structure RL (w0 : World) (lp r m n : Nat) (L : LS) (w : World) : Prop where
  rs : Rs w0 r L.D w
  ok : L.D.Ok
  head : Blk w lp 55 (rlhead r m L)
  map : RMap m n L.ws w
  nl : w0.heap.size ≤ lp
  nm : w0.heap.size ≤ m
  n0 : w0.heap.size ≤ w.heap.size

/-- The blocks of the reference's drums and ledgers. -/
def lmine (w0 w : World) (g : Nat) : Prop := w0.heap.size ≤ g ∧ ((∃ t cs, (t = 59 ∨ t = 109 ∨ t = 55) ∧ Blk w g t cs) ∨ ∃ es clock, w.heap[g]? = some (.map es clock))
theorem Touch.ltrans {w0 a b c : World} (h : Touch (lmine w0 a) a b) (k : Touch (lmine w0 b) b c) : Touch (lmine w0 a) a c :=
  ⟨k.os.trans h.os, k.tape.trans h.tape, k.output.trans h.output, Nat.le_trans h.size k.size, fun i hi hn => by
    have hb := h.block i hi hn
    rw [k.block i (Nat.lt_of_lt_of_le hi h.size) (fun ⟨h1, h2⟩ => hn ⟨h1, by
      rcases h2 with ⟨t, cs, ht, hB⟩ | ⟨es, clock, hB⟩
      · exact .inl ⟨t, cs, ht, by unfold Blk at hB ⊢; rw [← hb]; exact hB⟩
      · exact .inr ⟨es, clock, by rw [← hb]; exact hB⟩⟩)]
    exact hb⟩
theorem Touch.of_rmine {w0 w w' : World} (h : Touch (rmine w0 w) w w') : Touch (lmine w0 w) w w' := h.mono (fun g _ ⟨h1, t, cs, ht, hB⟩ => ⟨h1, .inl ⟨t, cs, by rcases ht with e | e; exact .inl e; exact .inr (.inl e), hB⟩⟩)
theorem bytes_lnot {w0 w : World} {g : Nat} {cs : Array Value} {t : TypeId} {fr : Nat × Nat} (h : w.heap[g]? = some (.cells cs t fr)) (ht : t ≠ 59 ∧ t ≠ 109 ∧ t ≠ 55) : ¬ lmine w0 w g := fun ⟨_, hh⟩ => by
  rcases hh with ⟨t', ds, ht', hb⟩ | ⟨es, clock, hb⟩
  · unfold Blk at hb
    rw [h] at hb
    injection hb with hb
    injection hb with _ h2 _
    subst h2
    rcases ht' with e | e | e
    · exact ht.1 e
    · exact ht.2.1 e
    · exact ht.2.2 e
  · rw [h] at hb; cases hb
theorem Blk.lnot {w0 w : World} {g : Nat} {t : TypeId} {cs : List Value} (h : Blk w g t cs) (ht : t ≠ 59 ∧ t ≠ 109 ∧ t ≠ 55) : ¬ lmine w0 w g := bytes_lnot h ht

theorem RL.old {w0 w w' : World} {lp r m n : Nat} {L : LS} (h : RL w0 lp r m n L w) (o : Old w w') : RL w0 lp r m n L w' :=
  ⟨h.rs.old o, h.ok, h.head.touch o (fun q => q), h.map.old o, h.nl, h.nm, Nat.le_trans h.n0 o.size⟩
theorem RL.mono {w0 w : World} {lp r m n n' : Nat} {L : LS} (h : RL w0 lp r m n L w) (hn : n ≤ n') : RL w0 lp r m n' L w := ⟨h.rs, h.ok, h.head, h.map.more hn, h.nl, h.nm, h.n0⟩
/-- A turn of the drum. -/
theorem RL.turn {w0 w w' : World} {lp r m n : Nat} {L : LS} {D' : DS} (h : RL w0 lp r m n L w) (k : RN w0 r D' w w') : RL w0 lp r m n { L with D := D' } w' := by
  refine ⟨k.1.1, k.1.2, h.head.rstay k.2 (by decide), h.map.touch k.2 (fun ⟨_, t, cs, _, hb⟩ => h.map.ne hb rfl), h.nl, h.nm, Nat.le_trans h.n0 k.2.size⟩
theorem rs_cell {w0 w : World} {r : Nat} {D : DS} (h : Rs w0 r D w) {g : Nat} (hg : ∀ t cs, (t = 59 ∨ t = 9 ∨ t = 109) → Blk w g t cs → False) {w' : World} (T : Touch (fun q => q = g) w w') : Rs w0 r D w' := by
  obtain ⟨vt, va, ha⟩ := h.ex
  exact ⟨h.lo, vt, va, ha.touch T (fun q hq => .inl (fun ⟨_, t, cs, ht, hb⟩ => hg t cs ht (by rw [← show q = g from hq]; exact hb))) h.lo⟩
/-- A change of the ledger itself. -/
theorem RL.set {w0 w w' : World} {lp r m n : Nat} {L L' : LS} (h : RL w0 lp r m n L w) (hD : L'.D = L.D) (hws : L'.ws = L.ws) (hb : Blk w' lp 55 (rlhead r m L')) (T : Touch (fun q => q = lp) w w') : RL w0 lp r m n L' w' := by
  refine ⟨by rw [hD]; exact rs_cell h.rs (fun t cs ht hB => hB.ne h.head (by rcases ht with rfl | rfl | rfl <;> decide) rfl) T, by rw [hD]; exact h.ok, hb, ?_, h.nl, h.nm, Nat.le_trans h.n0 T.size⟩
  rw [hws]
  exact h.map.touch T (fun e => h.map.ne h.head e.symm)
/-- A change of the map. -/
theorem RL.put {w0 w w' : World} {lp r m n n' : Nat} {L L' : LS} (h : RL w0 lp r m n L w) (hD : L'.D = L.D) (hh : rlhead r m L' = rlhead r m L) (hm : RMap m n' L'.ws w') (T : Touch (fun q => q = m) w w') : RL w0 lp r m n' L' w' :=
  ⟨by rw [hD]; exact rs_cell h.rs (fun t cs _ hB => h.map.ne hB rfl) T, by rw [hD]; exact h.ok, by rw [hh]; exact h.head.touch T (h.map.ne h.head), hm, h.nl, h.nm, Nat.le_trans h.n0 T.size⟩
theorem RL.lhead {w0 w : World} {lp r m n : Nat} {L : LS} (h : RL w0 lp r m n L w) : lmine w0 w lp := ⟨h.nl, .inl ⟨55, _, .inr (.inr rfl), h.head⟩⟩
theorem RL.lmap {w0 w : World} {lp r m n : Nat} {L : LS} (h : RL w0 lp r m n L w) : lmine w0 w m := ⟨h.nm, .inr h.map.isMap⟩

/-- What a call leaves of the reference's ledger. -/
def RNL (w0 : World) (lp r : Nat) (L' : LS) (w w' : World) : Prop := (∃ m n, RL w0 lp r m n L' w' ∧ n ≤ L'.laid) ∧ Touch (lmine w0 w) w w'

section
variable {w0 w : World} {lp r m n : Nat} {L : LS}
theorem rlhome_any (h : RL w0 lp r m n L w) (hl : L.D.T.length = 2 + L.leaves + L.ws.length) : Calls Tryz.prog 23 #[.pointer (some ⟨lp, 0, none⟩)] w fun e w' => e = .returned (.int .i64 (L.ws.length : Int)) ∧ Old w w' := by
  obtain ⟨vt, va, ha⟩ := h.rs.ex
  obtain ⟨a, c, rfl⟩ := str_form ha.tr
  have d0 : w.drew.cell? ⟨lp, 0, none⟩ = some (.pointer (some ⟨r, 0, none⟩)) := h.head.cell 0
  have d1 : w.drew.cell? ⟨lp, 1, none⟩ = some (.int .i64 (L.leaves : Int)) := h.head.cell 1
  have d2 : w.drew.cell? ⟨r, 0, none⟩ = some (.slice a L.D.T.length c) := ha.head.cell 0
  have hm := h.ok.many
  rw [hl] at d2 hm
  generalize L.leaves = l at *
  generalize L.ws.length = k at *
  clear h ha hl
  have hw1 : IntKind.i64.wrap (((2 + l + k : Nat) : Int) - 2) = (l : Int) + (k : Int) := by rw [wrap_fits ⟨by omega, by omega⟩]; omega
  have hw2 : IntKind.i64.wrap ((l : Int) + (k : Int) - (l : Int)) = (k : Int) := by rw [wrap_fits ⟨by omega, by omega⟩]; omega
  generalize 2 + l + k = t at *
  go_enter Tryz.func23, Tryz.ntmps23
  go_wp2_with fail
  go_region_held3 (fun w' => w'.cell? ⟨lp, 0, none⟩ = some (.pointer (some ⟨r, 0, none⟩)) ∧ w'.cell? ⟨lp, 1, none⟩ = some (.int .i64 (l : Int)) ∧ w'.cell? ⟨r, 0, none⟩ = some (.slice a t c)) (first | exact ⟨d0, d1, d2⟩) (fail)
  all_goals
    rename_i hHeld
    clear hHeld
    go_wp2_with fail
    go_ret
    exact ⟨rfl, (Touch.refl _ _).drew⟩
theorem rlblank_any (h : RL w0 lp r m n L w) (hl : L.laid ≤ L.leaves) (hm : L.leaves ≤ 5000) : Calls Tryz.prog 28 #[.pointer (some ⟨lp, 0, none⟩)] w fun e w' => e = .returned (.int .i64 ((L.leaves - L.laid : Nat) : Int)) ∧ Old w w' := by
  have d1 : w.drew.cell? ⟨lp, 1, none⟩ = some (.int .i64 (L.leaves : Int)) := h.head.cell 1
  have d4 : w.drew.cell? ⟨lp, 4, none⟩ = some (.int .i64 (L.laid : Int)) := h.head.cell 4
  generalize L.leaves = l at *
  generalize L.laid = k at *
  clear h
  have hw1 : IntKind.i64.wrap ((l : Int) - (k : Int)) = ((l - k : Nat) : Int) := by rw [wrap_fits ⟨by omega, by omega⟩]; omega
  go_enter Tryz.func28, Tryz.ntmps28
  go_wp2_with fail
  go_region_held3 (fun w' => w'.cell? ⟨lp, 1, none⟩ = some (.int .i64 (l : Int)) ∧ w'.cell? ⟨lp, 4, none⟩ = some (.int .i64 (k : Int))) (first | exact ⟨d1, d4⟩) (fail)
  all_goals
    rename_i hHeld
    clear hHeld
    go_wp2_with fail
    go_ret
    exact ⟨rfl, (Touch.refl _ _).drew⟩
theorem ends_yes : Calls Tryz.prog 50 #[.pointer (some ⟨lp, 0, none⟩), .bool true] w fun e w' => e = .returned (.int .i64 0) ∧ w = w' := by
  go_enter Tryz.func50, Tryz.ntmps50
  go_wp2_with fail
  go_ret
  exact ⟨rfl, rfl⟩
theorem ends_no (h : RL w0 lp r m n L w) : Calls Tryz.prog 50 #[.pointer (some ⟨lp, 0, none⟩), .bool false] w fun e w' => e = .returned (.int .i64 4) ∧ RL w0 lp r m n { L with lost := true } w' ∧ Touch (fun q => q = lp) w w' := by
  have hc : w.cell? ⟨lp, 6, none⟩ = some (.bool L.lost) := h.head.cell 6
  have hf := h.head.frozen 6
  have T : Touch (fun q => q = lp) w (w.setCell ⟨lp, 6, none⟩ (.bool true)) := Touch.one ⟨lp, 6, none⟩ _
  have HS : Hid (RL w0 lp r m n { L with lost := true } (w.setCell ⟨lp, 6, none⟩ (.bool true))) := h.set rfl rfl (h.head.set 6 (.bool true)) T
  have HT := Lib.hid T
  generalize L.lost = b at *
  clear h T
  go_enter Tryz.func50, Tryz.ntmps50
  go_wp2_with fail
  go_ret
  exact ⟨rfl, HS.out, HT.out⟩
end

theorem took_take {ws : Wri} {e : List Ent} {t : Nat} {x : Ent} (h : e[t]? = some x) : took ws (e.take (t + 1)) = (took ws (e.take t)).set x.1 (some x.2) := by rw [take_get h, took_snoc]

set_option maxHeartbeats 3200000 in
/-- take: the entries are put into the map. -/
theorem rtake_any {w0 w : World} {lp r m n : Nat} {L : LS} (h : RL w0 lp r m n L w) (hn : n ≤ 10000) (a : Option Addr) (e : List Ent) (k c : Nat) (he : REnts w a e) (ha : ∀ g, a = some ⟨g, 0, none⟩ → g ≠ m) (hk : e.length = k) (hk2 : k ≤ 10000) (hg : ∀ x ∈ e, x.1 < L.ws.length ∧ x.2.length = 96) (hw : L.ws.length ≤ 5000) :
    Calls Tryz.prog 46 #[.pointer (some ⟨lp, 0, none⟩), .slice a k c] w fun x w' => x = .returned (.tuple #[]) ∧ RL w0 lp r m (n + k) { L with ws := took L.ws e } w' ∧ Touch (fun q => q = m) w w' := by
  have HE := Lib.hid he
  have HA := Lib.hid ha
  have HK := Lib.hid hk
  have HG := Lib.hid hg
  have H0 : Hid (RL w0 lp r m (n + 0) { L with ws := took L.ws (e.take 0) } w ∧ Touch (fun q => q = m) w w) := ⟨h, Touch.refl _ _⟩
  clear h he ha hk hg
  go_enter Tryz.func46, Tryz.ntmps46
  go_wp2_with fail
  go_loopw [4] (fun i wx => ∃ t : Nat, t ≤ k ∧ i = .int .i64 t ∧ Hid (RL w0 lp r m (n + t) { L with ws := took L.ws (e.take t) } wx ∧ Touch (fun q => q = m) w wx)) (fun i _ => k - (intOf i).toNat)
  case atStart => exact ⟨0, Nat.zero_le _, rfl, H0⟩
  case round =>
    obtain ⟨t, ht, rfl, HI⟩ := hrel
    clear H0
    by_cases hlt : t < k
    · obtain ⟨x, hx⟩ := get_of_lt (l := e) (n := t) (by rw [HK.out]; exact hlt)
      obtain ⟨g, rfl, cx0, cx1⟩ := (HE.out.touch HI.out.2 HA.out) t x hx
      have hgx := HG.out x (mem_of_get hx)
      have HIo := HI.out.1.old (w' := wr.drew) ((Touch.refl _ _).drew)
      obtain ⟨w2, hput, M2, T2⟩ := HIo.map.put (by omega) (k := x.1) (b := x.2) (by show _ < (took L.ws (e.take t)).length; rw [took_length]; exact hgx.1) (by omega) hgx.2
      have d0 : wr.drew.cell? ⟨g, t * 2, none⟩ = some (.int .i64 (x.1 : Int)) := cx0
      have d1 : wr.drew.cell? ⟨g, t * 2 + 1, none⟩ = some (.string (strOf x.2)) := cx1
      have d2 : wr.drew.cell? ⟨lp, 5, none⟩ = some (.map (some m)) := HIo.head.cell 5
      have hgm := HA.out g rfl
      have hlm : lp ≠ m := HIo.map.ne HIo.head
      have HN : Hid (RL w0 lp r m (n + (t + 1)) { L with ws := took L.ws (e.take (t + 1)) } w2 ∧ Touch (fun q => q = m) w w2) := by
        refine ⟨HIo.put rfl rfl ?_ T2, (HI.out.2.drew).trans T2⟩
        show RMap m (n + t + 1) (took L.ws (e.take (t + 1))) w2
        rw [took_take hx]
        exact M2
      have i0 : (0 : Int) ≤ (t : Int) := by omega
      have i1 : (t : Int) < (k : Int) := by omega
      have f0 : w2.cell? ⟨g, t * 2, none⟩ = some (.int .i64 (x.1 : Int)) := (T2.cell (p := ⟨g, t * 2, none⟩) (lt_of_cell? d0) hgm).trans d0
      have f1 : w2.cell? ⟨g, t * 2 + 1, none⟩ = some (.string (strOf x.2)) := (T2.cell (p := ⟨g, t * 2 + 1, none⟩) (lt_of_cell? d1) hgm).trans d1
      have f2 : w2.cell? ⟨lp, 5, none⟩ = some (.map (some m)) := (T2.cell (p := ⟨lp, 5, none⟩) (lt_of_cell? d2) hlm).trans d2
      clear hx cx0 cx1 hgx HIo M2 T2 hgm hlm HI
      generalize strOf x.2 = s at *
      generalize x.1 = p at *
      go_wp2_with fail
      go_region_held3 (fun w' => w'.cell? ⟨g, t * 2, none⟩ = some (.int .i64 (p : Int)) ∧ w'.cell? ⟨g, t * 2 + 1, none⟩ = some (.string s) ∧ w'.cell? ⟨lp, 5, none⟩ = some (.map (some m))) (first | exact ⟨d0, d1, d2⟩ | exact ⟨f0, f1, f2⟩) (fail)
      all_goals
        rename_i hHeld
        clear hHeld
        go_wp2_with fail
        exact ⟨⟨t + 1, by omega, by go_num, HN⟩, by simp [intOf]; omega⟩
    · obtain rfl : t = k := by omega
      have HF : Hid (RL w0 lp r m (n + t) { L with ws := took L.ws e } wr ∧ Touch (fun q => q = m) w wr) := by have := HI.out; rwa [List.take_of_length_le (by rw [HK.out]; exact Nat.le_refl _)] at this
      have i1 : ¬ (t : Int) < (t : Int) := by omega
      go_wp2_with fail
      go_end0
      exact ⟨rfl, HF.out.1, HF.out.2⟩
end Go.Proofs.YtmingbgohdhajaaGreat
