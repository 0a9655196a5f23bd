/- What lariatlaw5.LedgerStays keeps from act to act: a ledger, its text, and the texts that home may be. -/
import Derived.Test.YtmingbgohdhajaaSail
import Derived.Deep.CutBlock
import Derived.Deep.RegionHeld3
import Derived.Deep.RegionWith
import Derived.Deep.DeepCutAuto
namespace Go.Proofs.Ytmingbgohdhajaa
open Go.RowKit
set_option maxRecDepth 100000

def sVals (ss : List ByteArray) : List Value := ss.map fun s => Value.string s
theorem sVals_length (ss : List ByteArray) : (sVals ss).length = ss.length := by simp [sVals]
/-- A row of texts of one's own, not older than B. -/
def MineS (w : World) (B : Nat) (v : Value) (ss : List ByteArray) : Prop := ∃ g cap cur, v = .slice (some ⟨g, 0, none⟩) ss.length cap ∧ B ≤ g ∧ Blk w g 9 cur ∧ ss.length ≤ cap ∧ cap ≤ maxLen ∧ cur.length = cap ∧ cur.take ss.length = sVals ss
section
variable {w w' : World} {B : Nat} {v : Value} {ss : List ByteArray}
theorem MineS.owns (h : MineS w B v ss) : w.ownsRow B 9 1 v ss.length (sVals ss) := by
  obtain ⟨g, cap, cur, rfl, hB, hb, h1, h2, h3, h4⟩ := h
  exact ⟨by rw [sVals_length]; omega, .inr ⟨g, cap, cur.toArray, rfl, hB, hb, h1, h2, by simp [h3], by simpa using h4⟩⟩
theorem MineS.of_owns (h : w.ownsRow B 9 1 v ss.length (sVals ss)) (hn : ss ≠ []) : MineS w B v ss := by
  obtain ⟨_, ⟨_, h0⟩ | ⟨g, cap, cur, rfl, hB, hb, h1, h2, h3, h4⟩⟩ := h
  · exact absurd (List.eq_nil_of_length_eq_zero h0) hn
  · exact ⟨g, cap, cur.toList, rfl, hB, by unfold Blk; rw [hb], h1, h2, by simpa using h3, by simpa using h4⟩
theorem MineS.keptL (h : MineS w B v ss) (k : KeptL w w') : MineS w' B v ss := by
  obtain ⟨g, cap, cur, rfl, hB, hb, h1⟩ := h
  exact ⟨g, cap, cur, rfl, hB, k 9 g cur (by unfold otherL other; decide) hb, h1⟩
theorem MineS.old (h : MineS w B v ss) (k : Old w w') : MineS w' B v ss := h.keptL (.of_old k)
theorem MineS.one (w : World) (s : ByteArray) (hB : B ≤ w.heap.size) : MineS (w.alloc (.cells #[.string s] 9)) B (.slice (some ⟨w.heap.size, 0, none⟩) 1 1) [s] :=
  ⟨w.heap.size, 1, [.string s], rfl, hB, Blk.new w 9 [.string s], Nat.le_refl _, by decide, rfl, rfl⟩
theorem MineS.form (h : MineS w B v ss) : ∃ g cap, v = .slice (some ⟨g, 0, none⟩) ss.length cap ∧ ∀ i s, ss[i]? = some s → w.cell? ⟨g, i, none⟩ = some (.string s) := by
  obtain ⟨g, cap, cur, rfl, hB, hb, h1, h2, h3, h4⟩ := h
  refine ⟨g, cap, rfl, fun i s hs => ?_⟩
  have hi := lt_of_get hs
  have : cur[i]? = (sVals ss)[i]? := by rw [← h4, List.getElem?_take_of_lt (by omega)]
  rw [hb.cell, this]
  simp [sVals, hs]
theorem MineS.more (h : MineS w B v ss) (hB : B ≤ w.heap.size) (s : ByteArray) (hl : ss.length ≤ 1000000) :
    ∃ v' w', (∀ ty, (Builtin.append_ #[68, 68] ty #[v, .slice (some ⟨w.heap.size, 0, none⟩) 1 1]).run Try.prog (w.alloc (.cells #[.string s] 9)) = .ok v' w') ∧ MineS w' B v' (ss ++ [s]) ∧ ∃ g cs, Blk w g 9 cs ∧ B ≤ g ∧ Touch (fun k => k = g) w w' := by
  have T1 : Old w (w.alloc (.cells #[.string s] 9)) := (Touch.refl _ w).alloc _
  have K1 : Blk (w.alloc (.cells #[.string s] 9)) w.heap.size 9 [.string s] := Blk.new w 9 [.string s]
  have h1 := (h.old T1).owns
  have hB1 : B ≤ (w.alloc (.cells #[.string s] 9)).heap.size := Nat.le_trans hB T1.size
  obtain ⟨g, cap, cur, hv, hgB, hg, _⟩ := h
  generalize w.alloc (.cells #[.string s] 9) = w1 at *
  obtain ⟨i0, hi0, hz0, hz1, hz2⟩ := info_parts info9
  have hone : ∀ u ∈ [Value.string s], u.oneCell' = true := by
    intro u hu
    obtain rfl := List.mem_singleton.1 hu
    rfl
  have key : ∀ ty, ∃ v' w', (Builtin.append_ #[68, 68] ty #[v, .slice (some ⟨w.heap.size, 0, none⟩) 1 1]).run Try.prog w1 = .ok v' w' ∧ w'.ownsRow B 9 1 v' (ss.length + 1) (sVals ss ++ [.string s]) ∧ w1.grownBy w' v.ownBlock := fun ty => by
    obtain ⟨v', w', hap, own, gr, _, _⟩ := run_append_own_at (P := Try.prog) w1 B 68 ty 9 i0 _ 1 16 Try.underlying68 hi0 hz0 hz1 hz2 rfl (by omega) v _ _ h1 ⟨w.heap.size, 0, none⟩ 1 1 [.string s] rfl (World.news_of_block K1) hone (by simp only [maxLen]; omega) (by omega) hB1
    exact ⟨v', w', hap, own, gr⟩
  obtain ⟨v', w', hap, own, gr⟩ := key 68
  refine ⟨v', w', fun ty => hap, .of_owns ?_ (by simp), g, cur, hg, hgB, (Touch.of_old T1).trans (Touch.grown gr (fun k hk => ?_))⟩
  · rw [List.length_append, show sVals (ss ++ [s]) = sVals ss ++ [.string s] by simp [sVals]]
    exact own
  · rw [hv] at hk
    exact (Option.some.inj hk).symm
end

theorem LAt.strs {w0 w w' : World} {lp d g k : Nat} {b : Bl} {L : LS} {cs : List Value} (h : LAt w0 lp d b g L w) (hk : Blk w k 9 cs) (hn : w0.heap.size ≤ k) (T : Touch (fun i => i = k) w w') : LAt w0 lp d b g L w' := by
  have ht : otherL 9 := by unfold otherL other; decide
  exact ⟨h.st.touch hk ht.1 hn T, h.head.touch T (h.head.ne hk (fun q => ht.2.1 q.symm)), h.wri.keep (fun g cs hg => hg.touch T (hg.ne hk (by decide))) (fun cs hg => hg.touch T (hg.ne hk (fun q => ht.2.2 q.symm))), h.nl, h.ng⟩

section
variable {w0 w w' : World} {lp d l h t t' : Nat} {q : Bool} {P P' : Hom → Prop} {N : Hom} {v : Value}
theorem Sail.strs (x : Sail w0 lp d l h t q P N w) {k : Nat} {cs : List Value} (hk : Blk w k 9 cs) (hn : w0.heap.size ≤ k) (T : Touch (fun i => i = k) w w') : Sail w0 lp d l h t q P N w' := by
  obtain ⟨g, b, L, r, H, fs, gs, h1, h2⟩ := x
  exact ⟨g, b, L, r, H, fs, gs, h1.strs hk hn T, h2⟩
theorem Sunk.strs (x : Sunk w0 d l h t P w) {k : Nat} {cs : List Value} (hk : Blk w k 9 cs) (hn : w0.heap.size ≤ k) (T : Touch (fun i => i = k) w w') : Sunk w0 d l h t P w' := by
  obtain ⟨b, D, h1, h2⟩ := x
  exact ⟨b, D, h1.touch hk (by unfold other; decide) hn T, h2⟩
theorem Sunk.old0 (x : Sunk w0 d l h t P w) : Old w0 w := x.wreck.old0

/-- The texts that home may be. -/
def May (w : World) (B : Nat) (v : Value) (P : Hom → Prop) (m : Nat) : Prop := ∃ Ms : List Hom, MineS w B v (Ms.map txt) ∧ (∀ X, P X → X ∈ Ms) ∧ Ms.length ≤ m
theorem May.keptL {B m : Nat} (x : May w B v P m) (k : KeptL w w') : May w' B v P m := by
  obtain ⟨Ms, h1, h2⟩ := x
  exact ⟨Ms, h1.keptL k, h2⟩
theorem May.old {B m : Nat} (x : May w B v P m) (k : Old w w') : May w' B v P m := x.keptL (.of_old k)
theorem May.mono {B m m' : Nat} (x : May w B v P m) (hp : ∀ X, P' X → P X) (hm : m ≤ m') : May w B v P' m' := by
  obtain ⟨Ms, h1, h2, h3⟩ := x
  exact ⟨Ms, h1, fun X hX => h2 X (hp X hX), by omega⟩
def actCs (r : ActR) : List Value := actCells r.what r.n r.torn r.cut r.aa r.ka r.la r.ca r.kl r.kc
/-- A ledger ahead of an act. -/
def Stay (w0 : World) (d l t lp : Nat) (s : ByteArray) (v : Value) (w : World) : Prop := ∃ q P N, Sail w0 lp d l 10 t q P N w ∧ s = txt N ∧ May w w0.heap.size v P (t + 1)
/-- Behind the switch; b: whether it is broken. -/
def Mid (w0 : World) (d l t lp gx : Nat) (r : ActR) (b : Bool) (s : ByteArray) (v : Value) (w : World) : Prop :=
  Blk w gx 59 (actCs r) ∧ ((b = false ∧ Stay w0 d l t lp s v w) ∨ (b = true ∧ ∃ P, Sunk w0 d l 10 t P w ∧ May w w0.heap.size v P (t + 1)))
/-- Ahead of a fall. -/
def Wrk (w0 : World) (d l t gx : Nat) (r : ActR) (v : Value) (w : World) : Prop := Blk w gx 59 (actCs r) ∧ ∃ P, Wreck w0 d l 10 t P w ∧ May w w0.heap.size v P (t + 1)
/-- Behind a fall. -/
def Fll (w0 : World) (d l t gx : Nat) (r : ActR) (v : Value) (q : Bool) (w : World) : Prop := Blk w gx 59 (actCs r) ∧ ∃ P, Fell w0 d l 10 t q P w ∧ May w w0.heap.size v P (t + 1)
variable {s : ByteArray} {gx : Nat} {r : ActR} {b : Bool}
theorem Stay.old (x : Stay w0 d l t lp s v w) (m : Old w w') : Stay w0 d l t lp s v w' := by
  obtain ⟨q, P, N, S, hs, M⟩ := x
  exact ⟨q, P, N, S.old m, hs, M.old m⟩
theorem Stay.old0 (x : Stay w0 d l t lp s v w) : Old w0 w := by
  obtain ⟨q, P, N, S, hs, M⟩ := x
  exact S.old0
theorem Stay.mono (x : Stay w0 d l t lp s v w) (ht : t ≤ t') : Stay w0 d l t' lp s v w := by
  obtain ⟨q, P, N, S, hs, M⟩ := x
  exact ⟨q, P, N, S.mono (fun _ h => h) ht, hs, M.mono (fun _ h => h) (by omega)⟩
theorem stay_fresh (S : Sail w0 lp d l 10 t q (fun X => X = N) N w) (hs : s = txt N) : Stay w0 d l t lp s (.slice (some ⟨w.heap.size, 0, none⟩) 1 1) (w.alloc (.cells #[.string s] 9)) := by
  refine ⟨q, _, N, S.old ((Touch.refl _ _).alloc _), hs, [N], ?_, fun X hX => by rw [hX]; exact List.mem_singleton.2 rfl, by simp⟩
  rw [hs]
  exact MineS.one w (txt N) S.old0.size
theorem Mid.wrk (x : Mid w0 d l t lp gx r b s v w) : Wrk w0 d l t gx r v w := by
  obtain ⟨hg, ⟨_, q, P, N, S, hs, M⟩ | ⟨_, P, S, M⟩⟩ := x
  · exact ⟨hg, P, S.wreck, M⟩
  · exact ⟨hg, P, S.wreck, M⟩
theorem Wrk.old (x : Wrk w0 d l t gx r v w) (m : Old w w') : Wrk w0 d l t gx r v w' := by
  obtain ⟨h1, P, h2, h3⟩ := x
  exact ⟨h1.touch m (fun q => q), P, h2.old m, h3.old m⟩
theorem Wrk.old0 (x : Wrk w0 d l t gx r v w) : Old w0 w := by
  obtain ⟨h1, P, h2, h3⟩ := x
  exact h2.old0
theorem Fll.old (x : Fll w0 d l t gx r v q w) (m : Old w w') : Fll w0 d l t gx r v q w' := by
  obtain ⟨h1, P, h2, h3⟩ := x
  exact ⟨h1.touch m (fun q => q), P, h2.old m, h3.old m⟩
theorem Fll.old0 (x : Fll w0 d l t gx r v q w) : Old w0 w := by
  obtain ⟨h1, P, h2, h3⟩ := x
  exact h2.old0
theorem Fll.mono (x : Fll w0 d l t gx r v q w) (ht : t ≤ t') : Fll w0 d l t' gx r v q w := by
  obtain ⟨h1, P, h2, h3⟩ := x
  exact ⟨h1, P, h2.mono (fun _ h => h) ht, h3.mono (fun _ h => h) (by omega)⟩
theorem kept59 (k : KeptL w w') {cs : List Value} (h : Blk w gx 59 cs) : Blk w' gx 59 cs := k 59 gx cs (by unfold otherL other; decide) h
theorem mid_broken (x : Mid w0 d l t lp gx r b s v w) : Calls Try.prog 43 #[.pointer (some ⟨d, 0, none⟩)] w fun y w' => y = .returned (.bool b) ∧ w = w' := by
  obtain ⟨hg, ⟨rfl, q, P, N, S, hs, M⟩ | ⟨rfl, P, S, M⟩⟩ := x
  · exact sail_broken S
  · exact sunk_broken S
theorem wrk_fall (x : Wrk w0 d l t gx r v w) (ht : t ≤ 200) (a : Option Addr) (ys : List Int) (len cap : Nat) (torn cut : Int) (hI : HasI w a ys) (hlen : ys.length = len) (hlm : len ≤ 1000) :
    Calls Try.prog 20 #[.pointer (some ⟨d, 0, none⟩), .slice a len cap, .int .i64 torn, .int .i64 cut] w fun y w' => y = .returned (.tuple #[]) ∧ Fll w0 d l t gx r v true w' := by
  obtain ⟨hg, P, W, M⟩ := x
  refine (wreck_fall W (by omega) a ys len cap torn cut hI hlen hlm).mono ?_
  rintro y w' ⟨rfl, K, F⟩
  exact ⟨rfl, kept59 K hg, P, F, M.keptL K⟩
theorem fll_break (x : Fll w0 d l t gx r v q w) (n : Int) (hn : n ≤ 1000) : Calls Try.prog 19 #[.pointer (some ⟨d, 0, none⟩), .int .i64 n] w fun y w' => y = .returned (.tuple #[]) ∧ Fll w0 d l t gx r v false w' := by
  obtain ⟨hg, P, W, M⟩ := x
  refine (fell_break W n hn).mono ?_
  rintro y w' ⟨rfl, K, F⟩
  exact ⟨rfl, kept59 K hg, P, F, M.keptL K⟩
theorem fll_open_any (x : Fll w0 d l t gx r v q w) (ht : t ≤ 200) (hl : l ≤ 40) : Calls Try.prog 12 #[.pointer (some ⟨d, 0, none⟩)] w fun y w' => ∃ a b, y = .returned (.tuple #[a, b]) ∧ Wrk w0 d l (t + 1) gx r v w' := by
  obtain ⟨hg, P, W, M⟩ := x
  refine (fell_open_any W ht (by omega)).mono ?_
  rintro y w' ⟨a, b, rfl, F, K⟩
  exact ⟨a, b, rfl, kept59 K hg, P, F, (M.keptL K).mono (fun _ h => h) (by omega)⟩
/-- A ledger that was opened: its text is one of those that may be. -/
def Opn (w0 : World) (d l t lp : Nat) (N : Hom) (v : Value) (w : World) : Prop := Sail w0 lp d l 10 t true (fun X => X = N) N w ∧ ∃ (ss : List ByteArray) (k : Nat), MineS w w0.heap.size v ss ∧ ss[k]? = some (txt N) ∧ ss.length ≤ t + 1
theorem Opn.old {N : Hom} (x : Opn w0 d l t lp N v w) (m : Old w w') : Opn w0 d l t lp N v w' := by
  obtain ⟨h1, ss, k, h2, h3⟩ := x
  exact ⟨h1.old m, ss, k, h2.old m, h3⟩
theorem fll_open (x : Fll w0 d l t gx r v true w) (ht : t ≤ 200) (hl : l ≤ 40) : Calls Try.prog 12 #[.pointer (some ⟨d, 0, none⟩)] w fun y w' => ∃ mp N, y = .returned (.tuple #[.pointer (some ⟨mp, 0, none⟩), .int .i64 0]) ∧ Opn w0 d l (t + 1) mp N v w' := by
  obtain ⟨hg, P, W, Ms, M, hM, hm⟩ := x
  refine (fell_open W ht (by omega)).mono ?_
  rintro y w' ⟨mp, N, rfl, hN, S, K⟩
  obtain ⟨k, hk⟩ := List.getElem?_of_mem (hM N hN)
  exact ⟨mp, N, rfl, S, _, k, M.keptL K, by rw [List.getElem?_map, hk]; rfl, by rw [List.length_map]; omega⟩
theorem opn_open {N : Hom} (x : Opn w0 d l t lp N v w) (ht : t ≤ 200) (hl : l ≤ 40) : Calls Try.prog 12 #[.pointer (some ⟨d, 0, none⟩)] w fun y w' => ∃ mp, y = .returned (.tuple #[.pointer (some ⟨mp, 0, none⟩), .int .i64 0]) ∧ Sail w0 mp d l 10 (t + 1) true (fun X => X = N) N w' := by
  obtain ⟨S, _⟩ := x
  refine (sail_open S ht (by omega)).mono ?_
  rintro y w' ⟨mp, rfl, S, K⟩
  exact ⟨mp, rfl, S⟩
/-- One posting more that may be. -/
theorem May.more {B m : Nat} (x : May w B v P m) (hB : B ≤ w.heap.size) (hm : m ≤ 1000) (Y : Hom) :
    ∃ v' w', (∀ ty, (Builtin.append_ #[68, 68] ty #[v, .slice (some ⟨w.heap.size, 0, none⟩) 1 1]).run Try.prog (w.alloc (.cells #[.string (txt Y)] 9)) = .ok v' w') ∧ May w' B v' (fun X => P X ∨ X = Y) (m + 1) ∧ ∃ g cs, Blk w g 9 cs ∧ B ≤ g ∧ Touch (fun k => k = g) w w' := by
  obtain ⟨Ms, h1, h2, h3⟩ := x
  obtain ⟨v', w', hap, M, hT⟩ := h1.more hB (txt Y) (by rw [List.length_map]; omega)
  refine ⟨v', w', hap, ⟨Ms ++ [Y], by rw [List.map_append]; exact M, fun X hX => ?_, by rw [List.length_append]; simpa using h3⟩, hT⟩
  rcases hX with hX | hX
  · exact List.mem_append_left _ (h2 X hX)
  · rw [hX]; exact List.mem_append_right _ (List.mem_singleton.2 rfl)
theorem tookN_snoc (H : List (List Nat)) (e : List Ent) (x : Ent) : tookH H (e ++ [x]) = (tookH H e).set x.1 x.2 := by simp [tookH]
theorem tookH_len96 {H : Hom} (hH : ∀ b ∈ H, b.length = 96) : ∀ {e : List Ent}, (∀ x ∈ e, Trk x.2) → ∀ b ∈ tookH H e, b.length = 96 := fun {e} => by
  induction e generalizing H with
  | nil => exact fun _ => hH
  | cons x e ih =>
    intro he
    refine ih (H := H.set x.1 x.2) (fun b hb => ?_) (fun y hy => he y (List.mem_cons_of_mem _ hy))
    rcases List.mem_or_eq_of_mem_set hb with h | h
    · exact hH b h
    · rw [h]; exact (he x (List.mem_cons_self ..)).len
end
end Go.Proofs.Ytmingbgohdhajaa
/- The walk of lariatlaw5.LedgerStays. -/
namespace Go.Proofs.Ytmingbgohdhajaa
open Go.RowKit
set_option maxRecDepth 100000

set_option maxHeartbeats 12800000 in
theorem stays_law (a0 : Int) (aA : Option Addr) (len cap : Nat) (w : World) (hA : HasA w aA len) : Calls Try.prog 5 #[.int .i64 a0, .slice aA len cap] w fun e w' => e = .returned (.bool true) ∧ Below w.heap.size w w' := by
  have HA := Lib.hid hA
  clear hA
  go_enter Try.func5, Try.ntmps5
  go_wp2_with fail
  refine (known_any w).mono ?_
  rintro x w1 ⟨rfl, O1⟩
  have HO1 := Lib.hid O1
  clear O1
  go_wp2_with fail
  refine (pick_big a0 10 (by omega) (by omega) w1).mono ?_
  rintro x w' ⟨k0, hk0, rfl, rfl⟩
  obtain ⟨l, hl⟩ : ∃ l, 5 + k0 = l := ⟨_, rfl⟩
  have hl5 : 5 ≤ l := by omega
  have hl14 : l ≤ 14 := by omega
  have el : (5 : Int) + (k0 : Int) = (l : Int) := by omega
  go_wp2_with fail
  have en : (l : Int) + 12 = ((l + 12 : Nat) : Int) := by omega
  try rw [el]
  rw [en]
  refine (sail_found (n := l + 12) (l := l) (h := 10) HO1.out (by omega) hl5 (by omega) (by omega)).mono ?_
  rintro x w2 ⟨lp0, d, rfl, S2, _⟩
  have HS2 := Lib.hid S2
  clear S2 HO1 hl el en hk0
  go_wp2_with fail
  refine (known_any w2).mono ?_
  rintro x w3 ⟨rfl, O3⟩
  have HS3 := Lib.hid (HS2.out.old O3)
  clear O3 HS2
  go_wp2_with fail
  refine (sail_home HS3.out (by omega) (by omega)).mono ?_
  rintro x w4 ⟨rfl, O4⟩
  have H0 := Lib.hid (stay_fresh (HS3.out.old O4) rfl)
  clear O4 HS3
  generalize txt (zeroH 10) = s0 at *
  go_wp2_with fail
  generalize w4.alloc (.cells #[.string s0] 9) = w5 at *
  generalize w4.heap.size = g4 at *
  go_loopw [5, 7, 8, 9] (fun vl vs vm i wx => ∃ (t lp : Nat) (s : ByteArray), t ≤ 40 ∧ t ≤ len ∧ vl = .pointer (some ⟨lp, 0, none⟩) ∧ vs = .string s ∧ i = .int .i64 t ∧ Hid (Stay w d l (4 * t) lp s vm wx)) (fun _ _ _ i _ => 40 - (intOf i).toNat)
  case atStart => exact ⟨0, lp0, s0, by omega, by omega, rfl, rfl, rfl, H0⟩
  case round =>
    obtain ⟨t, lp, s, ht40, htl, rfl, rfl, rfl, HL⟩ := hrel
    clear H0
    by_cases hin : t < len ∧ t < 40
    · have i0 : (0 : Int) ≤ (t : Int) := by omega
      have i1 : (t : Int) < (len : Int) := by omega
      have i2 : (t : Int) < 40 := by omega
      obtain ⟨ba, oa, r, rfl, hx⟩ := HA.out t hin.1
      have hx2 := hx.old HL.out.old0
      have c0 := hx2.c0
      have c1 := hx2.c1
      have c2 := hx2.c2
      have c3 := hx2.c3
      have c4 := hx2.c4
      have c5 := hx2.c5
      have HX := Lib.hid hx
      clear hx hx2
      go_upto_region 13 with fail
      have HM0 : Hid (Stay w d l (4 * t) lp s _ (wr.alloc (.cells #[.int .i64 r.what, .int .i64 r.n, .int .i64 r.torn, .int .i64 r.cut, .slice r.aa r.la r.ca, .slice r.ka r.kl r.kc] 59)) ∧ Blk (wr.alloc (.cells #[.int .i64 r.what, .int .i64 r.n, .int .i64 r.torn, .int .i64 r.cut, .slice r.aa r.la r.ca, .slice r.ka r.kl r.kc] 59)) wr.heap.size 59 (actCs r)) := ⟨HL.out.old ((Touch.refl _ _).alloc _), Blk.new wr 59 (actCs r)⟩
      clear HL c0 c1 c2 c3 c4 c5
      generalize wr.alloc (.cells #[.int .i64 r.what, .int .i64 r.n, .int .i64 r.torn, .int .i64 r.cut, .slice r.aa r.la r.ca, .slice r.ka r.kl r.kc] 59) = w6 at *
      generalize wr.heap.size = gx at *
      have cx0 : w6.cell? ⟨gx, 0, none⟩ = some (.int .i64 r.what) := HM0.out.2.cell 0
      have cx1 : w6.cell? ⟨gx, 1, none⟩ = some (.int .i64 r.n) := HM0.out.2.cell 1
      obtain ⟨q1, P1, N1, S1, hs1, M1⟩ := HM0.out.1
      have HG := Lib.hid HM0.out.2
      have HS := Lib.hid S1
      have Hs := Lib.hid hs1
      have HMy := Lib.hid M1
      clear S1 hs1 M1 HM0
      go_upto_block 2 with (first | (go_at_call 32; refine (pick_big r.what 11 (by omega) (by omega) _).mono ?_; rintro x w' ⟨q, hq, rfl, rfl⟩))
      go_cut [7, 8] (fun vs vm wx => ∃ (b : Bool) (s' : ByteArray), vs = .string s' ∧ Hid (Mid w d l (4 * t + 1) lp gx r b s' vm wx))
      case first =>
        have hq' : q = 6 ∨ q = 7 ∨ q = 8 ∨ q = 9 ∨ q = 10 ∨ (((q : Int) == 6) = false ∧ ((q : Int) == 7) = false ∧ ((q : Int) == 8) = false ∧ ((q : Int) == 9) = false ∧ ((q : Int) == 10) = false) := by
          simp only [beq_eq_false_iff_ne, ne_eq]
          omega
        rcases hq' with rfl | rfl | rfl | rfl | rfl | ⟨hq6, hq7, hq8, hq9, hq10⟩
        · as_aux_lemma =>
            clear hq cx0 cx1
            go_wp2_with fail
            refine (sail_settle HS.out (by omega)).mono ?_
            rintro x w7 ⟨K7, ⟨rfl, S7⟩ | ⟨rfl, _, S7⟩⟩
            · have HE : Hid (Mid w d l (4 * t + 1) lp gx r false s (.slice (some ⟨w7.heap.size, 0, none⟩) 1 1) (w7.alloc (.cells #[.string s] 9))) := ⟨(kept59 K7 HG.out).touch ((Touch.refl (fun _ => False) _).alloc _) (fun q => q), .inl ⟨rfl, stay_fresh S7 Hs.out⟩⟩
              clear S7 K7 HS Hs HMy HG
              go_wp2_with fail
              go_meet
              exact ⟨false, s, rfl, HE⟩
            · have HE : Hid (Mid w d l (4 * t + 1) lp gx r true s _ w7) := ⟨kept59 K7 HG.out, .inr ⟨rfl, P1, S7, (HMy.out.keptL K7).mono (fun _ h => h) (by omega)⟩⟩
              clear S7 K7 HS Hs HMy HG
              go_wp2_with fail
              go_meet
              exact ⟨true, s, rfl, HE⟩
        · as_aux_lemma =>
            clear hq cx0 cx1
            go_wp2_with fail
            refine (sail_balance HS.out (by omega) (by omega)).mono ?_
            rintro x w7 ⟨K7, ⟨rfl, S7⟩ | ⟨rfl, _, S7⟩⟩
            · have HE : Hid (Mid w d l (4 * t + 1) lp gx r false s (.slice (some ⟨w7.heap.size, 0, none⟩) 1 1) (w7.alloc (.cells #[.string s] 9))) := ⟨(kept59 K7 HG.out).touch ((Touch.refl (fun _ => False) _).alloc _) (fun q => q), .inl ⟨rfl, stay_fresh S7 Hs.out⟩⟩
              clear S7 K7 HS Hs HMy HG
              go_wp2_with fail
              go_meet
              exact ⟨false, s, rfl, HE⟩
            · have HE : Hid (Mid w d l (4 * t + 1) lp gx r true s _ w7) := ⟨kept59 K7 HG.out, .inr ⟨rfl, P1, S7, (HMy.out.keptL K7).mono (fun _ h => h) (by omega)⟩⟩
              clear S7 K7 HS Hs HMy HG
              go_wp2_with fail
              go_meet
              exact ⟨true, s, rfl, HE⟩
        · as_aux_lemma =>
            clear hq cx0
            go_wp2_with fail
            refine (pick_big r.n 20 (by omega) (by omega) _).mono ?_
            rintro x w' ⟨k7, hk7, rfl, rfl⟩
            go_wp2_with fail
            refine (sail_break HS.out (k7 : Int) (by omega)).mono ?_
            rintro x w7 ⟨rfl, K7, S7⟩
            have HE : Hid (Mid w d l (4 * t + 1) lp gx r false s _ w7) := ⟨kept59 K7 HG.out, .inl ⟨rfl, false, P1, N1, S7.mono (fun _ h => h) (by omega), Hs.out, (HMy.out.keptL K7).mono (fun _ h => h) (by omega)⟩⟩
            clear S7 K7 HS Hs HMy HG cx1
            go_wp2_with fail
            go_meet
            exact ⟨false, s, rfl, HE⟩
        · as_aux_lemma =>
            clear hq cx0
            go_wp2_with fail
            refine (pick_big r.n 20 (by omega) (by omega) _).mono ?_
            rintro x w' ⟨k7, hk7, rfl, rfl⟩
            go_wp2_with fail
            refine (sail_break HS.out (k7 : Int) (by omega)).mono ?_
            rintro x w7 ⟨rfl, K7, S7⟩
            have HE : Hid (Mid w d l (4 * t + 1) lp gx r false s _ w7) := ⟨kept59 K7 HG.out, .inl ⟨rfl, false, P1, N1, S7.mono (fun _ h => h) (by omega), Hs.out, (HMy.out.keptL K7).mono (fun _ h => h) (by omega)⟩⟩
            clear S7 K7 HS Hs HMy HG cx1
            go_wp2_with fail
            go_meet
            exact ⟨false, s, rfl, HE⟩
        · as_aux_lemma =>
            have HE : Hid (Mid w d l (4 * t + 1) lp gx r false s _ _) := ⟨HG.out, .inl ⟨rfl, _, P1, N1, HS.out.mono (fun _ h => h) (by omega), Hs.out, HMy.out.mono (fun _ h => h) (by omega)⟩⟩
            clear hq cx0 cx1 HS Hs HMy HG
            go_wp2_with fail
            go_meet
            exact ⟨false, s, rfl, HE⟩
        · as_aux_lemma =>
            have HD0 : Hid (Old w6 w6.drew) := (Touch.refl _ _).drew
            have HSd := Lib.hid (HS.out.old HD0.out)
            have HC : Hid (∀ w', Old w6 w' → w'.cell? ⟨gx, 0, none⟩ = some (.int .i64 r.what) ∧ w'.cell? ⟨gx, 1, none⟩ = some (.int .i64 r.n) ∧ w'.cell? ⟨gx, 2, none⟩ = some (.int .i64 r.torn) ∧ w'.cell? ⟨gx, 3, none⟩ = some (.int .i64 r.cut) ∧ w'.cell? ⟨gx, 4, none⟩ = some (.slice r.aa r.la r.ca) ∧ w'.cell? ⟨gx, 5, none⟩ = some (.slice r.ka r.kl r.kc)) := fun w' m => ⟨(HG.out.touch m (fun q => q)).cell 0, (HG.out.touch m (fun q => q)).cell 1, (HG.out.touch m (fun q => q)).cell 2, (HG.out.touch m (fun q => q)).cell 3, (HG.out.touch m (fun q => q)).cell 4, (HG.out.touch m (fun q => q)).cell 5⟩
            have HI := Lib.hid (HX.out.ats.old HSd.out.old0)
            go_wp2_with fail
            go_region_held3 (fun w' => w'.cell? ⟨gx, 0, none⟩ = some (.int .i64 r.what) ∧ w'.cell? ⟨gx, 1, none⟩ = some (.int .i64 r.n) ∧ w'.cell? ⟨gx, 2, none⟩ = some (.int .i64 r.torn) ∧ w'.cell? ⟨gx, 3, none⟩ = some (.int .i64 r.cut) ∧ w'.cell? ⟨gx, 4, none⟩ = some (.slice r.aa r.la r.ca) ∧ w'.cell? ⟨gx, 5, none⟩ = some (.slice r.ka r.kl r.kc)) (first | exact HC.out _ HD0.out | exact HC.out _ HO7.out) (first
              | (go_at_call 40; refine (sail_size HSd.out).mono ?_; rintro x w' ⟨rfl, rfl⟩)
              | (go_at_call 27; refine (entries_any r.what r.n r.torn r.cut r.aa r.ka r.la r.ca r.kl r.kc r.ys 10 4 _ HI.out HX.out.alen (by have := HX.out.small; omega) (by omega) (by omega) (by omega)).mono ?_; rintro x w7 ⟨va, vb, e, rfl, M7, E7, R7, O7⟩
                 have HO7 : Hid (Old w6 w7) := HD0.out.trans O7
                 have HM7 := Lib.hid M7
                 have HE7 := Lib.hid E7
                 clear M7 E7 R7 O7))
            all_goals
              rename_i hHeld
              clear hHeld HC HI HSd HD0 cx0 cx1
              obtain ⟨ae, ce, rfl, hce, En7⟩ := HE7.out.form
              have HEn7 := Lib.hid En7
              obtain ⟨el, hel⟩ : ∃ el, e.length = el := ⟨_, rfl⟩
              have Hel := Lib.hid hel
              have hel4 : el ≤ 4 := by rw [← hel]; exact HM7.out.few
              rw [hel] at hce ⊢
              have H0 : Hid (s = txt (tookH N1 (e.take 0)) ∧ Sail w lp d l 10 (4 * t) q1 P1 N1 w7 ∧ May w7 w.heap.size _ P1 (4 * t + 1) ∧ Ents w7 ae e ∧ Blk w7 gx 59 (actCs r)) := ⟨Hs.out, HS.out.old HO7.out, HMy.out.old HO7.out, En7, HG.out.touch HO7.out (fun q => q)⟩
              clear En7 hel HE7 HO7 HS HMy HG HEn7
              have HNl := Lib.hid H0.out.2.1.len
              have HNt := Lib.hid H0.out.2.1.trk
              go_wp2_with fail
              go_loopw [14, 79] (fun vn i wx => ∃ (k : Nat) (sk : ByteArray), k ≤ el ∧ vn = .string sk ∧ i = .int .i64 k ∧ Hid (sk = txt (tookH N1 (e.take k)) ∧ Sail w lp d l 10 (4 * t) q1 P1 N1 wx ∧ May wx w.heap.size _ P1 (4 * t + 1) ∧ Ents wx ae e ∧ Blk wx gx 59 (actCs r))) (fun _ i _ => el - (intOf i).toNat)
              case atStart => exact ⟨0, s, by omega, rfl, rfl, H0⟩
              case round =>
                obtain ⟨k, sk, hk, rfl, rfl, HC⟩ := hrel
                clear H0
                by_cases hlt : k < el
                · have j0 : (0 : Int) ≤ (k : Int) := by omega
                  have j1 : (k : Int) < (el : Int) := by omega
                  obtain ⟨y, hy⟩ := get_of_lt (l := e) (n := k) (by rw [Hel.out]; exact hlt)
                  obtain ⟨bb, off, p, c, rfl, hc0, hc1, hcl, hb⟩ := HC.out.2.2.2.1.en k y hy
                  have hyt := (HM7.out.ent y (mem_of_get hy)).2
                  have hyl : y.1 ≤ 10 := (HM7.out.ent y (mem_of_get hy)).1
                  rw [hyt.len] at hc1
                  have h96 : ∀ b ∈ tookH N1 (e.take k), b.length = 96 := tookH_len96 (fun b hb => (HNt.out b hb).len) (fun x hx => (HM7.out.ent x (List.mem_of_mem_take hx)).2)
                  have hl10 : (tookH N1 (e.take k)).length = 10 := by rw [tookH_length]; exact HNl.out
                  have hsz : sk.size = 960 := by rw [HC.out.1, txt_size h96, hl10]
                  have HT : Hid (tookH N1 (e.take (k + 1)) = (tookH N1 (e.take k)).set y.1 y.2) := by
                    have := tookN_snoc N1 (e.take k) y
                    rw [← take_get hy] at this
                    exact this
                  have hw : IntKind.i64.wrap ((y.1 : Int) * 96) = ((y.1 * 96 : Nat) : Int) := by rw [wrap_fits ⟨by omega, by omega⟩]; omega
                  by_cases hin : y.1 < 10
                  · have HTx := Lib.hid (txt_set h96 (k := y.1) (by rw [hl10]; exact hin) y.2 hyt.len)
                    rw [hl10, ← HC.out.1] at HTx
                    have HDr : Hid (Old wr wr.drew) := (Touch.refl _ _).drew
                    have hs9 := str_any wr.drew p y.2 96 c (hb.old HDr.out).has hyt.len
                    have hyz : (strOf y.2).size = 96 := by rw [strOf_size]; exact hyt.len
                    have HR : Hid (Sail w lp d l 10 (4 * t) q1 P1 N1 wr.drew ∧ May wr.drew w.heap.size _ P1 (4 * t + 1) ∧ Ents wr.drew (some ⟨bb, off, none⟩) e ∧ Blk wr.drew gx 59 (actCs r)) := ⟨HC.out.2.1.old HDr.out, HC.out.2.2.1.old HDr.out, HC.out.2.2.2.1.old HDr.out, HC.out.2.2.2.2.touch HDr.out (fun q => q)⟩
                    have hS : Hid (wr.drew.cell? ⟨bb, off + k * 2 + 1, none⟩ = some (.slice p 96 c) ∧ (convert 34 9 (.slice p 96 c)).run Try.prog wr.drew = .ok (.string (strOf y.2)) wr.drew) := ⟨hc1, hs9⟩
                    clear h96 hl10 hy hcl hb hyt HC hs9
                    generalize strOf y.2 = sP at *
                    obtain ⟨y1, y2⟩ := y
                    dsimp only at *
                    obtain ⟨n9, hn9⟩ : ∃ n9 : Nat, y1 * 96 = n9 := ⟨_, rfl⟩
                    rw [hn9] at hw HTx
                    have m0 : (0 : Int) ≤ (n9 : Int) := by omega
                    have m1 : (n9 : Int) < 960 := by omega
                    have m2 : (n9 : Int) + 96 ≤ 960 := by omega
                    have m3 : (0 : Int) ≤ (n9 : Int) + 96 := by omega
                    have m4 : (n9 : Int) ≤ 960 := by omega
                    have m5 : ((n9 : Int) + 96).toNat = n9 + 96 := by omega
                    have hwn : IntKind.i64.wrap ((n9 : Int) + 96) = (n9 : Int) + 96 := wrap_fits ⟨by omega, by omega⟩
                    obtain ⟨sA, hsA⟩ : ∃ sA, sk.extract 0 n9 = sA := ⟨_, rfl⟩
                    obtain ⟨sB, hsB⟩ : ∃ sB, sk.extract (n9 + 96) 960 = sB := ⟨_, rfl⟩
                    obtain ⟨sC, hsC⟩ : ∃ sC, sA ++ sP = sC := ⟨_, rfl⟩
                    obtain ⟨sD, hsD⟩ : ∃ sD, sC ++ sB = sD := ⟨_, rfl⟩
                    have hz1 : ¬ 9223372036854775807 < sA.size + sP.size := by rw [← hsA, ByteArray.size_extract, hyz, hsz]; omega
                    have hz2 : ¬ 9223372036854775807 < sC.size + sB.size := by rw [← hsC, ← hsB, ← hsA, ByteArray.size_append, ByteArray.size_extract, ByteArray.size_extract, hyz, hsz]; omega
                    have HN : Hid (sD = txt (tookH N1 (e.take (k + 1))) ∧ Sail w lp d l 10 (4 * t) q1 P1 N1 wr.drew ∧ May wr.drew w.heap.size _ P1 (4 * t + 1) ∧ Ents wr.drew (some ⟨bb, off, none⟩) e ∧ Blk wr.drew gx 59 (actCs r)) := ⟨by rw [HT.out, ← hsD, ← hsC, ← hsA, ← hsB]; exact HTx.out, HR.out⟩
                    clear HTx HR HT hyz hn9
                    go_wp2_with fail
                    go_region_held3 (fun w' => w'.cell? ⟨bb, off + k * 2 + 1, none⟩ = some (.slice p 96 c) ∧ (convert 34 9 (.slice p 96 c)).run Try.prog w' = .ok (.string sP) w') (first | exact hS.out) (fail)
                    all_goals
                      rename_i hHeld
                      clear hHeld
                      go_wp2_with fail
                      exact ⟨⟨k + 1, sD, by omega, rfl, by go_num, HN⟩, by simp [intOf]; omega⟩
                  · have HN : Hid (sk = txt (tookH N1 (e.take (k + 1))) ∧ Sail w lp d l 10 (4 * t) q1 P1 N1 wr ∧ May wr w.heap.size _ P1 (4 * t + 1) ∧ Ents wr (some ⟨bb, off, none⟩) e ∧ Blk wr gx 59 (actCs r)) := ⟨by rw [HT.out, List.set_eq_of_length_le (by omega)]; exact HC.out.1, HC.out.2⟩
                    clear h96 hl10 hy hcl hb hyt HC HT hc1
                    obtain ⟨y1, y2⟩ := y
                    dsimp only at *
                    obtain rfl : y1 = 10 := by omega
                    clear hw hin hyl
                    go_wp2_with fail
                    exact ⟨⟨k + 1, sk, by omega, rfl, by go_num, HN⟩, by simp [intOf]; omega⟩
                · obtain rfl : k = el := by omega
                  have Hsk : Hid (sk = txt (tookH N1 e)) := by
                    have := HC.out.1
                    rw [List.take_of_length_le (by rw [Hel.out]; exact Nat.le_refl _)] at this
                    exact this
                  have HR := Lib.hid HC.out.2
                  clear HC
                  go_wp2_with fail
                  refine (sail_write HR.out.1 (by omega) (by omega) ae e k ce HR.out.2.2.1 Hel.out (by omega) (fun x hx => (HM7.out.ent x hx).2)).mono ?_
                  rintro x w8 ⟨E, rfl, K8, hE⟩
                  have HMy8 := Lib.hid (HR.out.2.1.keptL K8)
                  have HG8 := Lib.hid (kept59 K8 HR.out.2.2.2)
                  clear K8 HR
                  rcases hE with ⟨rfl, _, S8⟩ | ⟨rfl, _, S8⟩ | ⟨rfl, _, S8⟩ | ⟨rfl, _, _, S8⟩
                  · have HE : Hid (Mid w d l (4 * t + 1) lp gx r false s _ w8) := ⟨HG8.out, .inl ⟨rfl, q1, P1, N1, S8, Hs.out, HMy8.out.mono (fun _ h => h) (by omega)⟩⟩
                    clear S8 HMy8 HG8 Hs Hsk
                    go_wp2_with fail
                    go_meet
                    exact ⟨false, s, rfl, HE⟩
                  · have HE : Hid (Mid w d l (4 * t + 1) lp gx r false s _ w8) := ⟨HG8.out, .inl ⟨rfl, q1, P1, N1, S8, Hs.out, HMy8.out.mono (fun _ h => h) (by omega)⟩⟩
                    clear S8 HMy8 HG8 Hs Hsk
                    go_wp2_with fail
                    go_meet
                    exact ⟨false, s, rfl, HE⟩
                  · obtain ⟨v', w9, hap, M9, g9, cs9, B9, hB9, T9⟩ := HMy8.out.more S8.old0.size (by omega) (tookH N1 e)
                    rw [← Hsk.out] at hap
                    have HE : Hid (Mid w d l (4 * t + 1) lp gx r false sk v' w9) := ⟨HG8.out.touch T9 (HG8.out.ne B9 (by decide)), .inl ⟨rfl, q1, _, _, S8.strs B9 hB9 T9, Hsk.out, M9⟩⟩
                    clear S8 HMy8 HG8 Hs Hsk M9 B9 hB9 T9
                    go_wp2_with (first | (at_builtin; refine wpList_append_run rfl _ _ 68 68 rfl _ _ rfl rfl _ _ (hap _) ?_))
                    go_meet
                    exact ⟨false, sk, rfl, HE⟩
                  · obtain ⟨v', w9, hap, M9, g9, cs9, B9, hB9, T9⟩ := HMy8.out.more S8.old0.size (by omega) (tookH N1 e)
                    rw [← Hsk.out] at hap
                    have HE : Hid (Mid w d l (4 * t + 1) lp gx r true s v' w9) := ⟨HG8.out.touch T9 (HG8.out.ne B9 (by decide)), .inr ⟨rfl, _, S8.strs B9 hB9 T9, M9⟩⟩
                    clear S8 HMy8 HG8 Hs Hsk M9 B9 hB9 T9
                    go_wp2_with (first | (at_builtin; refine wpList_append_run rfl _ _ 68 68 rfl _ _ rfl rfl _ _ (hap _) ?_))
                    go_meet
                    exact ⟨true, s, rfl, HE⟩
      case rest =>
        as_aux_lemma =>
          obtain ⟨b, s', rfl, HE⟩ := hcut
          clear HG HS Hs HMy cx0 cx1
          by_cases hc : b = false ∧ ((q : Int) == 10) = false
          · obtain ⟨rfl, hq10⟩ := hc
            have hq11 : ((q : Int) != 10) = true := by simp [bne, hq10]
            go_wp2_with fail
            refine (mid_broken HE.out).mono ?_
            rintro x w' ⟨rfl, rfl⟩
            go_wp2_with fail
            refine ⟨⟨t + 1, lp, s', by omega, by omega, rfl, rfl, by go_num, ?_⟩, by simp [intOf]; omega⟩
            obtain ⟨_, ⟨_, S⟩ | ⟨q, _⟩⟩ := HE.out
            · exact S.mono (by omega)
            · cases q
          · go_upto_region 39 with fail
            go_cut [8, 154] (fun vm v wx => v = .bool false ∧ Hid (Wrk w d l (4 * t + 1) gx r vm wx))
            case first =>
              cases b with
              | true =>
                clear hc
                go_wp2_with fail
                refine (mid_broken HE.out).mono ?_
                rintro x w' ⟨rfl, rfl⟩
                go_wp2_with fail
                go_meet
                exact ⟨rfl, HE.out.wrk⟩
              | false =>
                obtain rfl : q = 10 := by
                  have h1 : ¬ ((q : Int) == 10) = false := fun h => hc ⟨rfl, h⟩
                  simp only [beq_eq_false_iff_ne, ne_eq, Decidable.not_not] at h1
                  omega
                clear hc
                go_wp2_with fail
                refine (mid_broken HE.out).mono ?_
                rintro x w' ⟨rfl, rfl⟩
                go_wp2_with fail
                go_meet
                exact ⟨rfl, HE.out.wrk⟩
            case rest =>
              obtain ⟨rfl, HW⟩ := hcut
              clear hc HE
              go_wp2_with fail
              have HWd := Lib.hid (HW.out.old ((Touch.refl (fun _ => False) wc).drew))
              have HC : Hid (∀ w', Blk w' gx 59 (actCs r) → Old w w' → w'.cell? ⟨gx, 5, none⟩ = some (.slice r.ka r.kl r.kc) ∧ w'.cell? ⟨gx, 2, none⟩ = some (.int .i64 r.torn) ∧ w'.cell? ⟨gx, 3, none⟩ = some (.int .i64 r.cut) ∧ HasI w' r.ka r.ks) := fun w' hb m => ⟨hb.cell 5, hb.cell 2, hb.cell 3, HX.out.keep.old m⟩
              clear HW
              go_region_held3 (fun w' => w'.cell? ⟨gx, 5, none⟩ = some (.slice r.ka r.kl r.kc) ∧ w'.cell? ⟨gx, 2, none⟩ = some (.int .i64 r.torn) ∧ w'.cell? ⟨gx, 3, none⟩ = some (.int .i64 r.cut) ∧ HasI w' r.ka r.ks) (first | exact HC.out _ HWd.out.1 HWd.out.old0 | exact HC.out _ HW7.out.1 HW7.out.old0 | exact HC.out _ HF8.out.1 HF8.out.old0) (first
                | (go_at_call 44; refine (few_any r.ka r.ks r.kl r.kc 16 _ (HC.out _ HWd.out.1 HWd.out.old0).2.2.2 HX.out.klen (by omega) (by omega)).mono ?_; rintro x w7 ⟨bk, mk, ck, yk, rfl, hmk, hmk20, I7, O7⟩
                   have HW7 := Lib.hid (HWd.out.old O7)
                   have HI7 := Lib.hid I7
                   have HM7 := Lib.hid hmk
                   clear O7 I7 hmk)
                | (go_at_call 20; refine (wrk_fall HW7.out (by omega) bk yk mk ck _ _ HI7.out HM7.out (by omega)).mono ?_; rintro x w8 ⟨rfl, F8⟩
                   have HF8 := Lib.hid F8
                   clear F8))
              all_goals
                rename_i hHeld
                clear hHeld HWd HW7 HI7 HM7
                have hc1 : w8.cell? ⟨gx, 1, none⟩ = some (.int .i64 r.n) := HF8.out.1.cell 1
                go_upto_if 169 with fail
                go_cut [8] (fun vm wx => Hid (Fll w d l (4 * t + 2) gx r vm true wx))
                case first =>
                  go_wp2_with fail
                  all_goals first
                    | (go_meet
                       exact HF8.out.mono (by omega))
                    | (refine (pick_big _ 25 (by omega) (by omega) _).mono ?_
                       rintro x w' ⟨k9, hk9, rfl, rfl⟩
                       go_wp2_with fail
                       refine (fll_break HF8.out (k9 : Int) (by omega)).mono ?_
                       rintro x w9 ⟨rfl, F9⟩
                       have HF9 := Lib.hid F9
                       clear F9 HF8 hc1
                       go_wp2_with fail
                       refine (fll_open_any HF9.out (by omega) (by omega)).mono ?_
                       rintro x w10 ⟨va, vb, rfl, W10⟩
                       have HW10 := Lib.hid (W10.old ((Touch.refl (fun _ => False) w10).drew))
                       clear W10 HF9
                       go_wp2_with fail
                       go_region_held3 (fun w' => w'.cell? ⟨gx, 5, none⟩ = some (.slice r.ka r.kl r.kc) ∧ w'.cell? ⟨gx, 2, none⟩ = some (.int .i64 r.torn) ∧ w'.cell? ⟨gx, 3, none⟩ = some (.int .i64 r.cut) ∧ HasI w' r.ka r.ks) (first | exact HC.out _ HW10.out.1 HW10.out.old0 | exact HC.out _ HW11.out.1 HW11.out.old0 | exact HC.out _ HF12.out.1 HF12.out.old0) (first
                         | (go_at_call 44; refine (few_any r.ka r.ks r.kl r.kc 16 _ (HC.out _ HW10.out.1 HW10.out.old0).2.2.2 HX.out.klen (by omega) (by omega)).mono ?_; rintro x w11 ⟨bk2, mk2, ck2, yk2, rfl, hmk2, hmk220, I11, O11⟩
                            have HW11 := Lib.hid (HW10.out.old O11)
                            have HI11 := Lib.hid I11
                            have HM11 := Lib.hid hmk2
                            clear O11 I11 hmk2)
                         | (go_at_call 20; refine (wrk_fall HW11.out (by omega) bk2 yk2 mk2 ck2 _ _ HI11.out HM11.out (by omega)).mono ?_; rintro x w12 ⟨rfl, F12⟩
                            have HF12 := Lib.hid F12
                            clear F12))
                       all_goals
                         rename_i hHeld
                         clear hHeld
                         go_wp2_with fail
                         go_meet
                         exact HF12)
                case rest =>
                  have HF := Lib.hid hcut.out
                  clear hcut HF8 hc1 HC
                  go_wp2_with fail
                  refine (fll_open HF.out (by omega) (by omega)).mono ?_
                  rintro x w13 ⟨mp, N, rfl, O13⟩
                  have HO13 := Lib.hid O13
                  clear O13 HF
                  go_wp2_with fail
                  refine (sail_home HO13.out.1 (by omega) (by omega)).mono ?_
                  rintro x w14 ⟨rfl, O14⟩
                  obtain ⟨S14, ss, k0, M14, hk0, hl14⟩ := HO13.out.old O14
                  obtain ⟨gm, cm, rfl, hcell⟩ := M14.form
                  have HO14 : Hid (Opn w d l (4 * t + 3) mp N _ w14) := HO13.out.old O14
                  have hk0n := lt_of_get hk0
                  obtain ⟨n, hn⟩ : ∃ n, ss.length = n := ⟨_, rfl⟩
                  have HN := Lib.hid hn
                  rw [hn] at hk0n hl14 HO14 ⊢
                  have Hcell := Lib.hid hcell
                  have Hk0 := Lib.hid hk0
                  obtain ⟨sN, hsN⟩ : ∃ sN, txt N = sN := ⟨_, rfl⟩
                  have HsN := Lib.hid hsN
                  rw [hsN] at Hk0 ⊢
                  clear S14 M14 hcell hk0 hn hsN O14 HO13
                  go_wp2_with fail
                  go_loopw [21, 204] (fun vb i wx => ∃ (k : Nat) (b : Bool), k ≤ n ∧ vb = .bool b ∧ i = .int .i64 k ∧ wx = w14 ∧ Hid (k0 < k → b = true)) (fun _ i _ => n - (intOf i).toNat)
                  case atStart => exact ⟨0, false, by omega, rfl, rfl, rfl, fun h => absurd h (Nat.not_lt_zero _)⟩
                  case round =>
                    obtain ⟨k, b, hk, rfl, rfl, hwx, Hb⟩ := hrel
                    subst hwx
                    by_cases hlt : k < n
                    · have j0 : (0 : Int) ≤ (k : Int) := by omega
                      have j1 : (k : Int) < (n : Int) := by omega
                      obtain ⟨sk, hsk⟩ := get_of_lt (l := ss) (n := k) (by rw [HN.out]; exact hlt)
                      have hck := Hcell.out k sk hsk
                      have Hsk : Hid (k0 = k → sk = sN) := fun e => by
                        have h1 := Hk0.out
                        rw [e, hsk] at h1
                        exact Option.some.inj h1
                      clear hsk
                      cases b with
                      | true =>
                        go_wp2_with fail
                        exact ⟨⟨k + 1, true, by omega, rfl, by go_num, trivial, fun _ => rfl⟩, by simp [intOf]; omega⟩
                      | false =>
                        go_wp2_with fail
                        refine ⟨⟨k + 1, _, by omega, rfl, by go_num, trivial, fun h => ?_⟩, by simp [intOf]; omega⟩
                        have : k0 = k := by
                          rcases Nat.lt_or_ge k0 k with h2 | h2
                          · cases Hb.out h2
                          · omega
                        simp [Hsk.out this]
                    · obtain rfl : b = true := Hb.out (by omega)
                      obtain rfl : k = n := by omega
                      clear Hb Hcell Hk0 HN
                      go_wp2_with fail
                      refine (opn_open HO14.out (by omega) (by omega)).mono ?_
                      rintro x w15 ⟨op, rfl, S15⟩
                      have HS15 := Lib.hid S15
                      clear S15 HO14
                      go_wp2_with fail
                      refine (sail_home HS15.out (by omega) (by omega)).mono ?_
                      rintro x w16 ⟨rfl, O16⟩
                      have HF := Lib.hid (stay_fresh (HS15.out.old O16) HsN.out.symm)
                      clear O16 HS15
                      rw [HsN.out]
                      go_wp2_with fail
                      refine ⟨⟨t + 1, op, sN, by omega, by omega, rfl, rfl, by go_num, ?_⟩, by simp [intOf]; omega⟩
                      exact HF.out.mono (by omega)
    · have HO := Lib.hid HL.out.old0
      clear HL
      by_cases hlt : (t : Int) < (len : Int)
      · have i2 : ¬ (t : Int) < 40 := by omega
        go_wp2_with fail
        go_ret
        exact ⟨rfl, HO.out.below (Nat.le_refl _) (fun _ _ h => h)⟩
      · go_wp2_with fail
        go_ret
        exact ⟨rfl, HO.out.below (Nat.le_refl _) (fun _ _ h => h)⟩
end Go.Proofs.Ytmingbgohdhajaa
