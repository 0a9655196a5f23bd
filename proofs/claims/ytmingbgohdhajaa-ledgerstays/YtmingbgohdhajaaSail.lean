/- lariatlaw5.home: all home tracks, as one text. -/
import Derived.Test.YtmingbgohdhajaaAct
import Derived.Test.YtmingbgohdhajaaLeavesW
import Derived.Test.YtmingbgohdhajaaEntRow
import Derived.Test.YtmingbgohdhajaaCalm
namespace Go.Proofs.Ytmingbgohdhajaa
open Go.RowKit
set_option maxRecDepth 100000

theorem strOf_data (xs : List Nat) : (strOf xs).data.toList = xs.map fun (x : Nat) => UInt8.ofNat x := by
  unfold strOf
  rw [strOfNums_data, List.map_map]
  apply List.map_congr_left
  intro x _
  simp
theorem strOf_size (xs : List Nat) : (strOf xs).size = xs.length := by
  have := congrArg List.length (strOf_data xs)
  simpa using this
theorem strOf_append (xs ys : List Nat) : strOf xs ++ strOf ys = strOf (xs ++ ys) := by
  apply ByteArray.ext
  apply Array.ext'
  rw [strOf_data, ByteArray.data_append, Array.toList_append, strOf_data, strOf_data, List.map_append]
theorem strOf_take (xs : List Nat) (n : Nat) : (strOf xs).extract 0 n = strOf (xs.take n) := by
  apply ByteArray.ext
  apply Array.ext'
  rw [strOf_data, ByteArray.data_extract, Array.toList_extract, strOf_data]
  simp [List.extract, List.map_take]
theorem strOf_drop (xs : List Nat) (n m : Nat) (h : xs.length = m) : (strOf xs).extract n m = strOf (xs.drop n) := by
  apply ByteArray.ext
  apply Array.ext'
  rw [strOf_data, ByteArray.data_extract, Array.toList_extract, strOf_data]
  simp only [List.extract, List.map_drop]
  exact List.take_of_length_le (by simp [h])
/-- All home tracks as one text. -/
def txt (H : List (List Nat)) : ByteArray := strOf H.flatten
theorem txt_snoc (H : List (List Nat)) (b : List Nat) : txt H ++ strOf b = txt (H ++ [b]) := by unfold txt; rw [strOf_append]; simp
theorem txt_nil : txt [] = ⟨#[]⟩ := rfl
theorem txt_size {H : List (List Nat)} (h : ∀ b ∈ H, b.length = 96) : (txt H).size = H.length * 96 := by
  unfold txt
  rw [strOf_size, flatten_length 96 _ h]
/-- One track of the text anew. -/
theorem txt_set {H : List (List Nat)} (h : ∀ b ∈ H, b.length = 96) {k : Nat} (hk : k < H.length) (b : List Nat) (_hb : b.length = 96) : (txt H).extract 0 (k * 96) ++ strOf b ++ (txt H).extract (k * 96 + 96) (H.length * 96) = txt (H.set k b) := by
  unfold txt
  rw [strOf_take, strOf_drop _ _ _ (flatten_length 96 _ h), strOf_append, strOf_append]
  congr 1
  induction H generalizing k with
  | nil => simp at hk
  | cons a H ih =>
    have ha := h a (by simp)
    cases k with
    | zero =>
      simp only [List.flatten_cons, List.set_cons_zero, Nat.zero_mul, List.take_zero, Nat.zero_add, List.nil_append]
      rw [List.drop_append_of_le_length (by omega), List.drop_of_length_le (by omega)]
      rfl
    | succ k =>
      simp only [List.flatten_cons, List.set_cons_succ]
      have := ih (fun b hb => h b (by simp [hb])) (k := k) (by simpa using hk)
      rw [← this, List.take_append, List.drop_append, List.take_of_length_le (by omega), List.drop_of_length_le (by omega), ha, show (k + 1) * 96 - 96 = k * 96 by omega, show (k + 1) * 96 + 96 - 96 = k * 96 + 96 by omega]
      simp

set_option maxHeartbeats 3200000 in
/-- home, of a ledger whose looks answer H in every world that keeps the old one. -/
theorem home_txt (lp : Nat) (H : List (List Nat)) (w : World) (hm : H.length ≤ 5000) (hb : ∀ b ∈ H, b.length = 96) (h1 : ∀ w', Old w w' → Calls Try.prog 40 #[.pointer (some ⟨lp, 0, none⟩)] w' fun x w'' => x = .returned (.int .i64 (H.length : Int)) ∧ w' = w'')
    (h2 : ∀ w', Old w w' → ∀ (k : Nat) bs, H[k]? = some bs → Calls Try.prog 16 #[.pointer (some ⟨lp, 0, none⟩), .int .i64 k] w' (LookedL bs w')) :
    Calls Try.prog 42 #[.pointer (some ⟨lp, 0, none⟩)] w fun x w' => x = .returned (.string (txt H)) ∧ Old w w' := by
  have H1 := Lib.hid h1
  have H2 := Lib.hid h2
  have HB := Lib.hid hb
  have H0 : Hid (Old w w) := Touch.refl _ _
  obtain ⟨n, hn⟩ : ∃ n, H.length = n := ⟨_, rfl⟩
  have HN := Lib.hid hn
  rw [hn] at hm H1
  clear h1 h2 hn hb
  go_enter Try.func42, Try.ntmps42
  go_wp2_with fail
  go_loopw [3, 4] (fun s i wx => ∃ t : Nat, t ≤ n ∧ s = .string (txt (H.take t)) ∧ i = .int .i64 t ∧ Hid (Old w wx)) (fun _ i _ => n - (intOf i).toNat)
  case atStart => exact ⟨0, by omega, rfl, rfl, H0⟩
  case round =>
    obtain ⟨t, ht, rfl, rfl, HO⟩ := hrel
    clear H0
    by_cases hlt : t < n
    · have i0 : (0 : Int) ≤ (t : Int) := by omega
      have i1 : (t : Int) < (n : Int) := by omega
      obtain ⟨bs, hbs⟩ := get_of_lt (l := H) (n := t) (by rw [HN.out]; exact hlt)
      have HLk := Lib.hid (H2.out wr HO.out t bs hbs)
      have HS : Hid (txt (H.take t) ++ strOf bs = txt (H.take (t + 1))) := by rw [txt_snoc, ← take_get hbs]; rfl
      have hz : ¬ 9223372036854775807 < (txt (H.take t)).size + (strOf bs).size := by
        have := HB.out bs (mem_of_get hbs)
        rw [txt_size (fun b hb => HB.out b (List.mem_of_mem_take hb)), strOf_size, List.length_take]
        omega
      clear hbs
      generalize txt (H.take t) = s0 at *
      generalize hs1 : txt (H.take (t + 1)) = s1 at *
      go_wp2_with fail
      refine (H1.out wr HO.out).mono ?_
      rintro x w' ⟨rfl, rfl⟩
      go_wp2_with fail
      refine HLk.out.mono ?_
      rintro x w7 ⟨h7, o7, c7, rfl, hl7, B7, O7⟩
      have hs : (convert 34 9 (.slice (some ⟨h7, o7, none⟩) 96 c7)).run Try.prog w7 = .ok (.string (strOf bs)) w7 := str_any w7 _ bs 96 c7 B7.has hl7
      have HO7 : Hid (Old w w7) := HO.out.trans O7
      clear B7 O7 HLk hl7 HO
      generalize strOf bs = sb at *
      go_wp2_with fail
      refine ⟨⟨t + 1, by omega, ?_, by go_num, HO7⟩, by simp [intOf]; omega⟩
      rw [hs1, ← HS.out]
    · obtain rfl : t = n := by omega
      rw [List.take_of_length_le (by rw [HN.out]; exact Nat.le_refl _)]
      go_wp2_with fail
      refine (H1.out wr HO.out).mono ?_
      rintro x w' ⟨rfl, rfl⟩
      generalize hs0 : txt H = s0
      go_wp2_with fail
      go_ret
      exact ⟨by rw [hs0]; rfl, HO.out⟩
end Go.Proofs.Ytmingbgohdhajaa
/- lariatlaw5.few: some numbers, each brought within bounds. -/
namespace Go.Proofs.Ytmingbgohdhajaa
open Go.RowKit
set_option maxRecDepth 100000

def nums (ys : List Int) : List Value := ys.map fun y => Value.int .i64 y
/-- A row of numbers of one's own, not older than B, or nil. -/
def MineI (w : World) (B : Nat) (v : Value) (ys : List Int) : Prop := w.ownsRow B 3 1 v ys.length (nums ys)
theorem MineI.nil (w : World) (B : Nat) : MineI w B (.slice none 0 0) [] := World.ownsRow_nil _ _ _ _
theorem MineI.form {w : World} {B : Nat} {v : Value} {ys : List Int} (h : MineI w B v ys) : ∃ a c, v = .slice a ys.length c ∧ HasI w a ys := by
  obtain ⟨hl, ⟨rfl, h0⟩ | ⟨g, cap, cur, rfl, hb, hg, h1, h2, h3, h4⟩⟩ := h
  · obtain rfl : ys = [] := List.eq_nil_of_length_eq_zero h0
    exact ⟨none, 0, rfl, HasI.nil _ _⟩
  · have hB : Blk w g 3 cur.toList := by unfold Blk; rw [hg]
    refine ⟨some ⟨g, 0, none⟩, cap, rfl, ⟨fun i hi => ⟨g, 0, rfl, ?_⟩⟩⟩
    have : cur.toList[i]? = (nums ys)[i]? := by rw [← h4, List.getElem?_take_of_lt (by omega)]
    rw [Nat.zero_add, hB.cell, this]
    unfold nums
    rw [List.getElem?_map, List.getElem?_eq_getElem hi, List.getD_eq_getElem?_getD, List.getElem?_eq_getElem hi]
    rfl
theorem MineI.old {w w' : World} {B : Nat} {v : Value} {ys : List Int} (h : MineI w B v ys) (m : Old w w') : MineI w' B v ys := owns_touch h m (fun _ _ q => q)
theorem MineI.lt {w : World} {B : Nat} {v : Value} {ys : List Int} (h : MineI w B v ys) : ∀ k, blk v k → B ≤ k ∧ k < w.heap.size := fun k hk => World.ownsRow.lt h k hk
theorem MineI.more {w : World} {B : Nat} {v : Value} {ys : List Int} (h : MineI w B v ys) (hB : B ≤ w.heap.size) (y : Int) (hl : ys.length ≤ 1000000) :
    ∃ v' w', (∀ ty, (Builtin.append_ #[47, 47] ty #[v, .slice (some ⟨w.heap.size, 0, none⟩) 1 1]).run Try.prog (w.alloc (.cells #[.int .i64 y] 3)) = .ok v' w') ∧ MineI w' B v' (ys ++ [y]) ∧ Touch (blk v) w w' := by
  have T1 : Old w (w.alloc (.cells #[.int .i64 y] 3)) := (Touch.refl _ w).alloc _
  have K1 : Blk (w.alloc (.cells #[.int .i64 y] 3)) w.heap.size 3 [.int .i64 y] := Blk.new w 3 [.int .i64 y]
  have h1 := h.old T1
  have hB1 : B ≤ (w.alloc (.cells #[.int .i64 y] 3)).heap.size := Nat.le_trans hB T1.size
  generalize w.alloc (.cells #[.int .i64 y] 3) = w1 at *
  obtain ⟨i0, hi0, hz0, hz1, hz2⟩ := info_parts info3
  have hone : ∀ u ∈ [Value.int .i64 y], u.oneCell' = true := by
    intro u hu
    obtain rfl := List.mem_singleton.1 hu
    rfl
  have key : ∀ ty, ∃ v' w', (Builtin.append_ #[47, 47] ty #[v, .slice (some ⟨w.heap.size, 0, none⟩) 1 1]).run Try.prog w1 = .ok v' w' ∧ w'.ownsRow B 3 1 v' (ys.length + 1) (nums ys ++ [.int .i64 y]) ∧ w1.grownBy w' v.ownBlock := fun ty => by
    obtain ⟨v', w', hap, own, gr, _, _⟩ := run_append_own_at (P := Try.prog) w1 B 47 ty 3 i0 _ 1 8 Try.underlying47 hi0 hz0 hz1 hz2 rfl (by omega) v _ _ h1 ⟨w.heap.size, 0, none⟩ 1 1 [.int .i64 y] rfl (World.news_of_block K1) hone (by simp only [maxLen]; omega) (by omega) hB1
    exact ⟨v', w', hap, own, gr⟩
  obtain ⟨v', w', hap, own, gr⟩ := key 47
  refine ⟨v', w', fun ty => hap, ?_, (Touch.of_old T1).trans (Touch.grown gr (fun k hk => hk))⟩
  unfold MineI
  rw [List.length_append, show nums (ys ++ [y]) = nums ys ++ [.int .i64 y] by simp [nums]]
  exact own
theorem mineI_old {w wx w' : World} {v : Value} (o : Old w wx) (hv : ∀ k, blk v k → w.heap.size ≤ k) (T : Touch (blk v) wx w') : Old w w' :=
  ⟨T.os.trans o.os, T.tape.trans o.tape, T.output.trans o.output, Nat.le_trans o.size T.size, fun k hk hn => (T.block k (Nat.lt_of_lt_of_le hk o.size) (fun q => by have := hv k q; omega)).trans (o.block k hk hn)⟩

/-- What few answers. -/
def Fews (w : World) (x : Ending) (w' : World) : Prop := ∃ b m c ys, x = .returned (.slice b m c) ∧ ys.length = m ∧ m ≤ 20 ∧ HasI w' b ys ∧ Old w w'
set_option maxHeartbeats 3200000 in
theorem few_any (a : Option Addr) (ks : List Int) (len cap : Nat) (n : Int) (w : World) (h : HasI w a ks) (hl : ks.length = len) (hn0 : 0 < n) (hn : n ≤ 5000) :
    Calls Try.prog 44 #[.slice a len cap, .int .i64 n] w (Fews w) := by
  have H := Lib.hid h
  have HL := Lib.hid hl
  have H0 : Hid (MineI w w.heap.size (.slice none 0 0) [] ∧ Old w w) := ⟨MineI.nil _ _, Touch.refl _ _⟩
  clear h hl
  go_enter Try.func44, Try.ntmps44
  go_wp2_with fail
  go_loopw [5, 6] (fun v i wx => ∃ (t : Nat) (ys : List Int), t ≤ len ∧ t ≤ 20 ∧ ys.length = t ∧ i = .int .i64 t ∧ Hid (MineI wx w.heap.size v ys ∧ Old w wx)) (fun _ i _ => 20 - (intOf i).toNat)
  case atStart => exact ⟨0, [], by omega, by omega, rfl, rfl, H0⟩
  case round =>
    obtain ⟨t, ys, ht1, ht2, hys, rfl, HC⟩ := hrel
    clear H0
    by_cases hin : t < len ∧ t < 20
    · have i0 : (0 : Int) ≤ (t : Int) := by omega
      have i1 : (t : Int) < (len : Int) := by omega
      have i2 : (t : Int) < 20 := by omega
      obtain ⟨b, off, rfl, hc⟩ := (H.out.old HC.out.2).cell t (by rw [HL.out]; exact hin.1)
      generalize ks.getD t 0 = y at *
      go_wp2_with fail
      refine (pick_big y n hn0 hn wr).mono ?_
      rintro x w' ⟨k, hk, rfl, rfl⟩
      obtain ⟨v', w2, hap, M2, T2⟩ := HC.out.1.more HC.out.2.size (k : Int) (by omega)
      have HN : Hid (MineI w2 w.heap.size v' (ys ++ [(k : Int)]) ∧ Old w w2) := ⟨M2, mineI_old HC.out.2 (fun k hk => (HC.out.1.lt k hk).1) T2⟩
      clear M2 T2 HC hc
      go_wp2_with (first | (at_builtin; refine wpList_append_run rfl _ _ 47 47 rfl _ _ rfl rfl _ _ (hap _) ?_))
      exact ⟨⟨t + 1, _, by omega, by omega, by simp [hys], by go_num, HN⟩, by simp [intOf]; omega⟩
    · obtain ⟨bb, c, rfl, hb⟩ := HC.out.1.form
      rw [hys]
      have HN : Hid (Fews w (.returned (.slice bb t c)) wr) := ⟨bb, t, c, ys, rfl, hys, ht2, hb, HC.out.2⟩
      clear HC hb
      by_cases hlt : (t : Int) < (len : Int)
      · have i2 : ¬ (t : Int) < 20 := by omega
        go_wp2_with fail
        go_ret
        exact HN.out
      · go_wp2_with fail
        go_ret
        exact HN.out
end Go.Proofs.Ytmingbgohdhajaa
/- A law's ledger on a drum that may break, and falls: what each call answers. -/
namespace Go.Proofs.Ytmingbgohdhajaa
open Go.RowKit
set_option maxRecDepth 100000

theorem RecE.htrk {T : List (List Nat)} {l r : Nat} {H : List (List Nat)} {es : List (List Ent)} (R : RecE T l r H es) : ∀ b ∈ H, Trk b := fun b hb => by
  obtain ⟨k, hk⟩ := List.getElem?_of_mem hb
  have hl := lt_of_get hk
  have hlen := R.len
  rw [R.home k hl] at hk
  injection hk with hk
  rw [← hk]
  unfold homeOf
  cases hw : (wrote H es).getD k none with
  | some x =>
    simp only
    refine tookAll_trk (none_trk H.length) R.etrk k x ?_
    rw [List.getD_eq_getElem?_getD] at hw
    cases hq : (wrote H es)[k]? with
    | none => rw [hq] at hw; cases hw
    | some y => rw [hq] at hw; exact congrArg some hw
  | none =>
    simp only
    obtain ⟨y, hy⟩ := get_of_lt (l := T) (n := 2 + l + k) (by omega)
    rw [getD_of hy]
    exact R.trk y (mem_of_get hy)

abbrev Hom := List (List Nat)
/-- Whatever falls of it: home is one of P. -/
def Wreck (w0 : World) (d l h t : Nat) (P : Hom → Prop) (w : World) : Prop := ∃ b D, St w0 d b D w ∧ CrashTA D.ta l (2 + t) P ∧ D.T.length = 2 + l + h ∧ D.turns ≤ 200 + t * 100
/-- A drum that is broken. -/
def Sunk (w0 : World) (d l h t : Nat) (P : Hom → Prop) (w : World) : Prop := ∃ b D, St w0 d b D w ∧ D.down = true ∧ CrashTA D.ta l (2 + t) P ∧ D.T.length = 2 + l + h ∧ D.turns ≤ 200 + t * 100
/-- A drum behind a fall; q: no break is set. -/
def Fell (w0 : World) (d l h t : Nat) (q : Bool) (P : Hom → Prop) (w : World) : Prop := ∃ b D r H es, St w0 d b D w ∧ D.down = false ∧ D.A = [] ∧ (q = true → D.left = none) ∧ RecE D.seen l r H es ∧ P H ∧ H.length = h ∧ r ≤ 2 + t ∧ D.turns ≤ 200 + t * 100
/-- A ledger that runs: home is N; whatever falls, it is one of P. -/
def Sail (w0 : World) (lp d l h t : Nat) (q : Bool) (P : Hom → Prop) (N : Hom) (w : World) : Prop := ∃ g b L r H fs gs, LAt w0 lp d b g L w ∧ L.D.down = false ∧ RunL L.calm l r H fs gs ∧ (q = true → L.D.left = none) ∧ (∀ X, Some1 H gs X → P X) ∧ tookHs H gs = N ∧ N.length = h ∧ r ≤ 2 + t ∧ fs.length + gs.length ≤ t ∧ L.D.turns ≤ 200 + t * 100

section
variable {w0 w w' : World} {lp d l h t t' : Nat} {q : Bool} {P P' : Hom → Prop} {N : Hom}
theorem Sunk.wreck (x : Sunk w0 d l h t P w) : Wreck w0 d l h t P w := by
  obtain ⟨b, D, h1, _, h2⟩ := x
  exact ⟨b, D, h1, h2⟩
theorem Wreck.mono (x : Wreck w0 d l h t P w) (hp : ∀ X, P X → P' X) (ht : t ≤ t') : Wreck w0 d l h t' P' w := by
  obtain ⟨b, D, h1, h2, h3, h4⟩ := x
  exact ⟨b, D, h1, h2.mono hp (by omega), h3, by omega⟩
theorem Sunk.mono (x : Sunk w0 d l h t P w) (hp : ∀ X, P X → P' X) (ht : t ≤ t') : Sunk w0 d l h t' P' w := by
  obtain ⟨b, D, h1, h0, h2, h3, h4⟩ := x
  exact ⟨b, D, h1, h0, h2.mono hp (by omega), h3, by omega⟩
theorem Fell.mono (x : Fell w0 d l h t q P w) (hp : ∀ X, P X → P' X) (ht : t ≤ t') : Fell w0 d l h t' q P' w := by
  obtain ⟨b, D, r, H, es, h1, h2, h3, h4, h5, h6, h7, h8, h9⟩ := x
  exact ⟨b, D, r, H, es, h1, h2, h3, h4, h5, hp _ h6, h7, by omega, by omega⟩
theorem Sail.mono (x : Sail w0 lp d l h t q P N w) (hp : ∀ X, P X → P' X) (ht : t ≤ t') : Sail w0 lp d l h t' q P' N w := by
  obtain ⟨g, b, L, r, H, fs, gs, h1, h2, h3, h4, h5, h6, h7, h8, h9, h10⟩ := x
  exact ⟨g, b, L, r, H, fs, gs, h1, h2, h3, h4, fun X hX => hp X (h5 X hX), h6, h7, by omega, by omega, by omega⟩
theorem Sail.wreck (x : Sail w0 lp d l h t q P N w) : Wreck w0 d l h t P w := by
  obtain ⟨g, b, L, r, H, fs, gs, h1, h2, h3, h4, h5, h6, h7, h8, h9, h10⟩ := x
  refine ⟨b, L.D, h1.st, h3.crash.mono h5 h8, ?_, h10⟩
  have := h3.recE.len
  rw [DS.seen_length] at this
  rw [this, h6, h7]
theorem Fell.old (x : Fell w0 d l h t q P w) (m : Old w w') : Fell w0 d l h t q P w' := by
  obtain ⟨b, D, r, H, es, h1, h2⟩ := x
  exact ⟨b, D, r, H, es, h1.step m, h2⟩
theorem Wreck.old (x : Wreck w0 d l h t P w) (m : Old w w') : Wreck w0 d l h t P w' := by
  obtain ⟨b, D, h1, h2⟩ := x
  exact ⟨b, D, h1.step m, h2⟩
theorem Sunk.old (x : Sunk w0 d l h t P w) (m : Old w w') : Sunk w0 d l h t P w' := by
  obtain ⟨b, D, h1, h2⟩ := x
  exact ⟨b, D, h1.step m, h2⟩
theorem Sail.old (x : Sail w0 lp d l h t q P N w) (m : Old w w') : Sail w0 lp d l h t q P N w' := by
  obtain ⟨g, b, L, r, H, fs, gs, h1, h2⟩ := x
  exact ⟨g, b, L, r, H, fs, gs, h1.step m, h2⟩
theorem Sail.old0 (x : Sail w0 lp d l h t q P N w) : Old w0 w := by
  obtain ⟨g, b, L, r, H, fs, gs, h1, h2⟩ := x
  exact h1.st.old
theorem Wreck.old0 (x : Wreck w0 d l h t P w) : Old w0 w := by
  obtain ⟨b, D, h1, h2⟩ := x
  exact h1.old
theorem Fell.old0 (x : Fell w0 d l h t q P w) : Old w0 w := by
  obtain ⟨b, D, r, H, es, h1, h2⟩ := x
  exact h1.old
theorem Sail.len (x : Sail w0 lp d l h t q P N w) : N.length = h := by
  obtain ⟨g, b, L, r, H, fs, gs, h1, h2, h3, h4, h5, h6, h7, _⟩ := x
  exact h7
theorem Sail.trk (x : Sail w0 lp d l h t q P N w) : ∀ b ∈ N, Trk b := by
  obtain ⟨g, b, L, r, H, fs, gs, h1, h2, h3, h4, h5, h6, h7, _⟩ := x
  have := h3.recE.htrk
  rwa [h6] at this
theorem Sail.now (x : Sail w0 lp d l h t q P N w) : P N := by
  obtain ⟨g, b, L, r, H, fs, gs, h1, h2, h3, h4, h5, h6, h7, _⟩ := x
  rw [← h6]
  exact h5 _ (some1_all H gs)
theorem calm_ok {L : LS} (h : L.calm.Ok) : L.Ok := ⟨h.leaves, h.home, h.len, h.laid, h.round, h.posts⟩

theorem sail_settle (x : Sail w0 lp d l h t q P N w) (ht : t ≤ 200) : Calls Try.prog 22 #[.pointer (some ⟨lp, 0, none⟩)] w fun y w' => KeptL w w' ∧ ((y = .returned (.int .i64 0) ∧ Sail w0 lp d l h (t + 1) q (fun X => X = N) N w') ∨ (y = .returned (.int .i64 4) ∧ q = false ∧ Sunk w0 d l h (t + 1) P w')) := by
  obtain ⟨g, b, L, r, H, fs, gs, A, hd, R, hq, hP, hN, hh, hr, hc, hx⟩ := x
  refine (lsettle_any A (by omega)).mono ?_
  rintro y w' ⟨rfl, M⟩
  obtain ⟨b', A'⟩ := M.1
  have htu := settle_turns L
  refine ⟨M.2.1, ?_⟩
  rcases settle_break hd R with ⟨e1, e2, e3⟩ | ⟨e1, e2, e3, e4⟩
  · refine .inl ⟨by rw [e1]; rfl, g, b', L.settle, r, _, _, [], A', e2, e3, fun hqq => ?_, fun X ⟨j, hj, hX⟩ => ?_, hN, hh, by omega, by rw [List.length_append, List.length_nil]; omega, by omega⟩
    · have e : L.settle = { L with D := L.D.step .settle } := (settle_live (L := L) (by
        have h0 : L.calm = L := by unfold LS.calm DS.calm; rw [← hq hqq]
        have := R.live
        rwa [h0] at this)).2.2
      rw [e]
      exact ((⟨hq hqq, hd⟩ : Quiet L.D).step .settle).left
    · have : j = 0 := Nat.le_zero.1 hj
      subst this
      rw [hX]
      exact hN
  · refine .inr ⟨by rw [e1]; rfl, ?_, b', L.settle.D, A'.st, e3, e4.mono hP (by omega), ?_, by omega⟩
    · cases q with
      | false => rfl
      | true => exact absurd (hq rfl) e2
    · have h1 := R.recE.len
      rw [DS.seen_length] at h1
      have h2 : L.settle.D.T.length = L.D.T.length := by
        unfold LS.settle
        split
        · rfl
        · rw [show ({ L with D := L.D.step .settle } : LS).heed.D = L.D.step .settle by unfold LS.heed; split <;> rfl]
          exact DS.run_len L.D [.settle]
      rw [h2, h1, hN, hh]
theorem quiet_of {L : LS} {r : Nat} {H : Hom} {fs gs : List (List Ent)} (R : RunL L.calm l r H fs gs) (h : L.D.left = none) : RunL L l r H fs gs := by
  have h0 : L.calm = L := by unfold LS.calm DS.calm; rw [← h]
  rwa [h0] at R
theorem heed_D (L : LS) : L.heed.D = L.D := by unfold LS.heed; split <;> rfl
theorem balance_len (L : LS) : L.balance.D.T.length = L.D.T.length := by
  unfold LS.balance
  split
  · rfl
  · rw [heed_D]
    unfold LS.balanced
    split
    · exact DS.run_len L.D [.settle]
    · rw [next_len]; exact DS.run_len L.D [.settle]
theorem write_len (L : LS) (e : List Ent) : (L.write e).D.T.length = L.D.T.length := by
  have hb : L.balanced.D.T.length = L.D.T.length := by
    unfold LS.balanced
    split
    · exact DS.run_len L.D [.settle]
    · rw [next_len]; exact DS.run_len L.D [.settle]
  unfold LS.write
  split
  · split
    · rfl
    · split
      · rfl
      · rw [heed_D]
        unfold LS.post
        split
        · split
          · exact hb
          · rw [layP_D, DS.run_len, hb]
        · rw [layP_D, DS.run_len]
  · rfl
theorem sail_balance (x : Sail w0 lp d l h t q P N w) (ht : t ≤ 200) (hl : 2 + l + h ≤ 60) : Calls Try.prog 18 #[.pointer (some ⟨lp, 0, none⟩)] w fun y w' => KeptL w w' ∧ ((y = .returned (.int .i64 0) ∧ Sail w0 lp d l h (t + 1) q (fun X => X = N) N w') ∨ (y = .returned (.int .i64 4) ∧ q = false ∧ Sunk w0 d l h (t + 1) P w')) := by
  obtain ⟨g, b, L, r, H, fs, gs, A, hd, R, hq, hP, hN, hh, hr, hc, hx⟩ := x
  have hok := calm_ok (R.live.ok (by rw [List.length_append]; omega))
  refine (lbalance_any A hok (by omega)).mono ?_
  rintro y w' ⟨rfl, M⟩
  obtain ⟨b', A'⟩ := M.1
  have htu := balance_turns L
  have hws : L.ws.length = h := by have h1 : L.ws.length = (tookHs H gs).length := R.live.hlen; rw [h1, hN, hh]
  have hlost : L.lost = false := R.live.lost
  rw [hws] at htu
  have eE : L.balanceE = L.balanced.D.bad := by unfold LS.balanceE; rw [hlost]; rfl
  have eB : L.balance = L.balanced.heed := by unfold LS.balance; rw [hlost]; rfl
  refine ⟨M.2.1, ?_⟩
  rcases balanced_break hd R (by omega) with ⟨e2, e3⟩ | ⟨e2, e3, e4⟩
  · have eh : L.balance = L.balanced := by rw [eB]; unfold LS.heed; rw [e2]; rfl
    rw [← eh] at e2 e3
    refine .inl ⟨by rw [eE, ← eh, bad_up e2]; rfl, g, b', L.balance, r + 1, _, [], [], A', e2, e3, fun hqq => ?_, fun X ⟨j, hj, hX⟩ => ?_, hN, hh, by omega, by simp, by omega⟩
    · exact (balance_live (quiet_of R (hq hqq)).live (by omega)).2.1.quiet.left
    · have : j = 0 := Nat.le_zero.1 hj
      subst this
      rw [hX]
      exact hN
  · refine .inr ⟨by rw [eE, bad_down e3]; rfl, ?_, b', L.balance.D, A'.st, by rw [eB, heed_D]; exact e3, by rw [eB, heed_D]; exact e4.mono hP (by omega), ?_, by omega⟩
    · cases q with
      | false => rfl
      | true => exact absurd (hq rfl) e2
    · have h1 := R.recE.len
      rw [DS.seen_length] at h1
      rw [balance_len, h1, hN, hh]
/-- What Write answers. -/
def Writes (w0 : World) (lp d l h t : Nat) (q : Bool) (P : Hom → Prop) (N : Hom) (e : List Ent) (E : Nat) (w' : World) : Prop :=
  (E = 1 ∧ ¬ Goes e h ∧ Sail w0 lp d l h (t + 1) q P N w') ∨ (E = 5 ∧ l < leavesOf e.length ∧ Sail w0 lp d l h (t + 1) q P N w') ∨ (E = 0 ∧ Goes e h ∧ Sail w0 lp d l h (t + 1) q (fun X => P X ∨ X = tookH N e) (tookH N e) w') ∨ (E = 4 ∧ q = false ∧ Goes e h ∧ Sunk w0 d l h (t + 1) (fun X => P X ∨ X = tookH N e) w')
theorem sail_write (x : Sail w0 lp d l h t q P N w) (ht : t ≤ 200) (hl : 2 + l + h ≤ 60) (a : Option Addr) (e : List Ent) (len cap : Nat) (En : Ents w a e) (hlen : e.length = len) (hlm : len ≤ 10) (hT : ∀ x ∈ e, Trk x.2) :
    Calls Try.prog 14 #[.pointer (some ⟨lp, 0, none⟩), .slice a len cap] w fun y w' => ∃ E : Nat, y = .returned (.int .i64 (E : Int)) ∧ KeptL w w' ∧ Writes w0 lp d l h t q P N e E w' := by
  obtain ⟨g, b, L, r, H, fs, gs, A, hd, R, hq, hP, hN, hh, hr, hc, hx⟩ := x
  have hok := calm_ok (R.live.ok (by rw [List.length_append]; omega))
  have hws : L.ws.length = h := by have h1 : L.ws.length = (tookHs H gs).length := R.live.hlen; rw [h1, hN, hh]
  have hHl : H.length = h := by rw [← hh, ← hN, tookHs_length]
  have a1 : L.round = r := R.live.round
  have a2 : L.posts = (fs ++ gs).length := R.live.count
  have hwt := write_turns L e
  rw [hws, hlen] at hwt
  have hle := leavesOf_le len
  refine (write_any A hok (by rw [a1]; omega) (by rw [a2, List.length_append]; omega) (by omega) a e len cap En hlen (by omega)).mono ?_
  rintro y w' ⟨rfl, M⟩
  obtain ⟨b', A'⟩ := M.1
  refine ⟨_, rfl, M.2.1, ?_⟩
  rcases write_break hd R (by omega) hT with ⟨e1, e2, e9⟩ | ⟨e1, e2, e9⟩ | ⟨e1, hg, e2, r', H', fs', gs', k1, k2, k3, k4, k5⟩ | ⟨e1, hg, e2, e3, e4⟩
  · rw [e2] at A'
    exact .inl ⟨e1, by rw [← hHl]; exact e9, g, b', L, r, H, fs, gs, A', hd, R, hq, hP, hN, hh, by omega, by omega, by omega⟩
  · rw [e2] at A'
    exact .inr (.inl ⟨e1, e9, g, b', L, r, H, fs, gs, A', hd, R, hq, hP, hN, hh, by omega, by omega, by omega⟩)
  · rw [hN] at k3 k5
    refine .inr (.inr (.inl ⟨e1, by rw [← hHl]; exact hg, g, b', L.write e, r', H', fs', gs', A', e2, k2, fun hqq => ?_, fun X hX => ?_, k3, by rw [tookH_length, hh], by omega, by omega, by omega⟩))
    · rcases write_live (quiet_of R (hq hqq)).live (e := e) (by omega) hT with ⟨q1, q2, _⟩ | ⟨q1, q2, _⟩ | ⟨q1, q2, _, _, _, _, q5⟩
      · rw [q2]; exact hq hqq
      · rw [q2]; exact hq hqq
      · exact q5.quiet.left
    · rcases k5 X hX with c | c
      · exact .inl (hP X c)
      · exact .inr c
  · rw [hN] at e4
    refine .inr (.inr (.inr ⟨e1, ?_, by rw [← hHl]; exact hg, b', (L.write e).D, A'.st, e3, e4.mono (fun X hX => ?_) (by omega), ?_, by omega⟩))
    · cases q with
      | false => rfl
      | true => exact absurd (hq rfl) e2
    · rcases hX with c | c
      · exact .inl (hP X c)
      · exact .inr c
    · have h1 := R.recE.len
      rw [DS.seen_length] at h1
      rw [write_len, h1, hN, hh]
/-- One entry, no break being set. -/
theorem sail_write1 (x : Sail w0 lp d l h t true P N w) (ht : t ≤ 200) (hl : 2 + l + h ≤ 60) (h5 : 5 ≤ l) (a : Option Addr) (k : Nat) (bs : List Nat) (cap : Nat) (En : Ents w a [(k, bs)]) (hk : k < h) (hT : Trk bs) :
    Calls Try.prog 14 #[.pointer (some ⟨lp, 0, none⟩), .slice a 1 cap] w fun y w' => y = .returned (.int .i64 0) ∧ KeptL w w' ∧ Sail w0 lp d l h (t + 1) true (fun X => P X ∨ X = N.set k bs) (N.set k bs) w' := by
  refine (sail_write x ht hl a [(k, bs)] 1 cap En rfl (by omega) (fun y hy => by obtain rfl := List.mem_singleton.1 hy; exact hT)).mono ?_
  rintro y w' ⟨E, rfl, K, ⟨_, hg, _⟩ | ⟨_, hg, _⟩ | ⟨rfl, _, S⟩ | ⟨_, hq, _⟩⟩
  · refine absurd ⟨?_, ?_, by simp⟩ hg
    · intro y hy; obtain rfl := List.mem_singleton.1 hy; exact ⟨hk, hT.len⟩
    · simp
  · have : leavesOf ([(k, bs)] : List Ent).length = 2 := by show leavesOf 1 = 2; decide
    omega
  · exact ⟨rfl, K, S⟩
  · cases hq
theorem sail_break (x : Sail w0 lp d l h t q P N w) (n : Int) (hn : n ≤ 1000) : Calls Try.prog 19 #[.pointer (some ⟨d, 0, none⟩), .int .i64 n] w fun y w' => y = .returned (.tuple #[]) ∧ KeptL w w' ∧ Sail w0 lp d l h t false P N w' := by
  obtain ⟨g, b, L, r, H, fs, gs, A, hd, R, hq, hP, hN, hh, hr, hc, hx⟩ := x
  refine (break_st A.st n hn).mono ?_
  rintro y w' ⟨rfl, M⟩
  obtain ⟨b', A'⟩ := A.next M
  exact ⟨rfl, .of_kept M.2.1, g, b', _, r, H, fs, gs, A', hd, R, (fun q => by cases q), hP, hN, hh, hr, hc, hx⟩
theorem fell_break (x : Fell w0 d l h t q P w) (n : Int) (hn : n ≤ 1000) : Calls Try.prog 19 #[.pointer (some ⟨d, 0, none⟩), .int .i64 n] w fun y w' => y = .returned (.tuple #[]) ∧ KeptL w w' ∧ Fell w0 d l h t false P w' := by
  obtain ⟨b, D, r, H, es, S, hd, hA, hq, R, hP, hh, hr, hx⟩ := x
  refine (break_st S n hn).mono ?_
  rintro y w' ⟨rfl, M⟩
  obtain ⟨b', S'⟩ := M.1
  exact ⟨rfl, .of_kept M.2.1, b', _, r, H, es, S', hd, hA, (fun q => by cases q), R, hP, hh, hr, hx⟩
theorem wreck_fall (x : Wreck w0 d l h t P w) (ht : t ≤ 300) (a : Option Addr) (ys : List Int) (len cap : Nat) (torn cut : Int) (hI : HasI w a ys) (hlen : ys.length = len) (hlm : len ≤ 1000) :
    Calls Try.prog 20 #[.pointer (some ⟨d, 0, none⟩), .slice a len cap, .int .i64 torn, .int .i64 cut] w fun y w' => y = .returned (.tuple #[]) ∧ KeptL w w' ∧ Fell w0 d l h t true P w' := by
  obtain ⟨b, D, S, C, hl, hx⟩ := x
  refine (fall_st S (by omega) a ys len cap torn cut hI hlen (by omega)).mono ?_
  rintro y w' ⟨rfl, M⟩
  obtain ⟨b', S'⟩ := M.1
  obtain ⟨r, H, es, R, hP, hr⟩ := C (partOf ys torn cut) (partOf_le ys torn cut)
  have hR : RecE (D.fall (partOf ys torn cut)).seen l r H es := R
  refine ⟨rfl, .of_kept M.2.1, b', _, r, H, es, S', rfl, rfl, fun _ => rfl, hR, hP, ?_, hr, hx⟩
  have h1 := R.len
  rw [falls_length] at h1
  have h2 : D.T.length = 2 + l + h := hl
  have h3 : D.ta.1.length = 2 + l + h := hl
  omega
theorem sail_broken (x : Sail w0 lp d l h t q P N w) : Calls Try.prog 43 #[.pointer (some ⟨d, 0, none⟩)] w fun y w' => y = .returned (.bool false) ∧ w = w' := by
  obtain ⟨g, b, L, r, H, fs, gs, A, hd, _⟩ := x
  refine (broken_any d b L.D _ w A.st.dr.at_).mono ?_
  rintro y w' ⟨rfl, rfl⟩
  exact ⟨by rw [hd], rfl⟩
theorem sunk_broken (x : Sunk w0 d l h t P w) : Calls Try.prog 43 #[.pointer (some ⟨d, 0, none⟩)] w fun y w' => y = .returned (.bool true) ∧ w = w' := by
  obtain ⟨b, D, S, hd, _⟩ := x
  refine (broken_any d b D _ w S.dr.at_).mono ?_
  rintro y w' ⟨rfl, rfl⟩
  exact ⟨by rw [hd], rfl⟩
/-- Open, no break being set. -/
theorem fell_open (x : Fell w0 d l h t true P w) (ht : t ≤ 200) (hl : 2 + l + h ≤ 60) : Calls Try.prog 12 #[.pointer (some ⟨d, 0, none⟩)] w fun y w' => ∃ mp N, y = .returned (.tuple #[.pointer (some ⟨mp, 0, none⟩), .int .i64 0]) ∧ P N ∧ Sail w0 mp d l h (t + 1) true (fun X => X = N) N w' ∧ KeptL w w' := by
  obtain ⟨b, D, r, H, es, S, hd, hA, hq, R, hP, hh, hr, hx⟩ := x
  obtain ⟨hk, ⟨e1, e2, e3, e4⟩ | ⟨e1, e2, _⟩⟩ := open_break hd hA R (by omega)
  · have htn := openL_turns (D := D) (k := r % 2)
    have hTl : D.T.length = 2 + l + H.length := by rw [← DS.seen_length]; exact R.len
    have hlv := open_live ⟨hq rfl, hd⟩ R (by omega)
    refine (open_any S (by omega)).mono ?_
    rintro y w' ⟨K, _, ⟨b', _, hne, _⟩ | ⟨k, mp, g', b', hk', _, _, rfl, A'⟩⟩
    · exact absurd e1 hne
    · obtain rfl : r % 2 = k := by rw [hk] at hk'; injection hk'
      refine ⟨mp, H, rfl, hP, ⟨g', b', _, r + 1, H, [], [], A', e3, e4, fun _ => hlv.2.2.2.1.quiet.left, fun X ⟨j, hj, hX⟩ => ?_, rfl, hh, by omega, by simp, by omega⟩, K⟩
      have : j = 0 := Nat.le_zero.1 hj
      subst this
      exact hX
  · exact absurd (hq rfl) e2
/-- Open, while it may break: whatever it answers. -/
theorem fell_open_any (x : Fell w0 d l h t q P w) (ht : t ≤ 200) (hl : 2 + l + h ≤ 60) : Calls Try.prog 12 #[.pointer (some ⟨d, 0, none⟩)] w fun y w' => ∃ a b, y = .returned (.tuple #[a, b]) ∧ Wreck w0 d l h (t + 1) P w' ∧ KeptL w w' := by
  obtain ⟨b, D, r, H, es, S, hd, hA, hq, R, hP, hh, hr, hx⟩ := x
  have htn := openL_turns (D := D) (k := r % 2)
  have hTl : D.T.length = 2 + l + H.length := by rw [← DS.seen_length]; exact R.len
  have hlen : (openL D (r % 2)).D.T.length = D.T.length := by
    show (LS.counted D (r % 2)).reads.next.D.T.length = _
    rw [next_len]
    rfl
  refine (open_any S (by omega)).mono ?_
  obtain ⟨hk, ⟨e1, e2, e3, e4⟩ | ⟨e1, e2, e3, e4⟩⟩ := open_break hd hA R (by omega)
  · rintro y w' ⟨K, _, ⟨b', _, hne, _⟩ | ⟨k, mp, g', b', hk', _, _, rfl, A'⟩⟩
    · exact absurd e1 hne
    · obtain rfl : r % 2 = k := by rw [hk] at hk'; injection hk'
      refine ⟨_, _, rfl, ⟨b', _, A'.st, e4.crash.mono (fun X ⟨j, hj, hX⟩ => ?_) (by omega), by rw [hlen, hTl, hh], by omega⟩, K⟩
      have : j = 0 := Nat.le_zero.1 hj
      subst this
      rw [hX]
      exact hP
  · rintro y w' ⟨K, _, ⟨b', rfl, hne, S'⟩ | ⟨k, mp, g', b', hk', h0, _, rfl, A'⟩⟩
    · have eD : openD D = (openL D (r % 2)).D := by unfold openD; rw [hd, hk]; rfl
      refine ⟨_, _, rfl, ⟨b', _, S', e4.mono (fun X hX => by rw [hX]; exact hP) (by omega), by rw [eD, hlen, hTl, hh], by rw [eD]; omega⟩, K⟩
    · rw [e1] at h0; cases h0
/-- Opened again. -/
theorem sail_open (x : Sail w0 lp d l h t true P N w) (ht : t ≤ 200) (hl : 2 + l + h ≤ 60) : Calls Try.prog 12 #[.pointer (some ⟨d, 0, none⟩)] w fun y w' => ∃ mp, y = .returned (.tuple #[.pointer (some ⟨mp, 0, none⟩), .int .i64 0]) ∧ Sail w0 mp d l h (t + 1) true (fun X => X = N) N w' ∧ KeptL w w' := by
  obtain ⟨g, b, L, r, H, fs, gs, A, hd, R, hq, hP, hN, hh, hr, hc, hx⟩ := x
  have R' := quiet_of R (hq rfl)
  have hRe : RecE L.D.seen l r N (fs ++ gs) := by have := R'.live.live.is; rwa [hN] at this
  obtain ⟨e1, e2, e3, e4, e5⟩ := open_live R'.live.quiet hRe (by omega)
  have hTl : L.D.T.length = 2 + l + N.length := by rw [← DS.seen_length]; exact hRe.len
  have htn := openL_turns (D := L.D) (k := r % 2)
  refine (open_any A.st (by omega)).mono ?_
  rintro y w' ⟨K, _, ⟨b', _, hne, _⟩ | ⟨k, mp, g', b', hk, _, _, rfl, A'⟩⟩
  · exact absurd e2 hne
  · obtain rfl : r % 2 = k := by rw [e1] at hk; injection hk
    have h0 : (openL L.D (r % 2)).calm = openL L.D (r % 2) := by unfold LS.calm DS.calm; rw [← e4.quiet.left]
    refine ⟨mp, rfl, ⟨g', b', _, r + 1, N, [], [], A', e4.quiet.down, by rw [h0]; exact RunL.fresh e4 e5, fun _ => e4.quiet.left, fun X ⟨j, hj, hX⟩ => ?_, rfl, hh, by omega, by simp, by omega⟩, K⟩
    have : j = 0 := Nat.le_zero.1 hj
    subst this
    exact hX
theorem sail_size (x : Sail w0 lp d l h t q P N w) : Calls Try.prog 40 #[.pointer (some ⟨lp, 0, none⟩)] w fun y w' => y = .returned (.int .i64 (h : Int)) ∧ w = w' := by
  obtain ⟨g, b, L, r, H, fs, gs, A, hd, R, hq, hP, hN, hh, hr, hc, hx⟩ := x
  have hws : L.ws.length = h := by have h1 : L.ws.length = (tookHs H gs).length := R.live.hlen; rw [h1, hN, hh]
  refine (home_any A.head).mono ?_
  rintro y w' ⟨rfl, rfl⟩
  exact ⟨by rw [hws], rfl⟩
theorem sail_home (x : Sail w0 lp d l h t q P N w) (ht : t ≤ 300) (hl : 2 + l + h ≤ 60) : Calls Try.prog 42 #[.pointer (some ⟨lp, 0, none⟩)] w fun y w' => y = .returned (.string (txt N)) ∧ Old w w' := by
  refine home_txt lp N w (by have := x.len; omega) (fun b hb => (x.trk b hb).len) (fun w' m => ?_) (fun w' m k bs hk => ?_)
  · have := sail_size (x.old m)
    rw [← x.len] at this
    exact this
  · obtain ⟨g, b, L, r, H, fs, gs, A, hd, R, hq, hP, hN, hh, hr, hc, hx⟩ := x.old m
    have hok := calm_ok (R.live.ok (by rw [List.length_append]; omega))
    have hws : L.ws.length = h := by have h1 : L.ws.length = (tookHs H gs).length := R.live.hlen; rw [h1, hN, hh]
    have hkl := lt_of_get hk
    have e1 := R.live.home (k := k) (by rw [hN]; exact hkl)
    rw [hN, hk] at e1
    injection e1 with e1
    rw [e1]
    exact look_home A hok R.live.lost hd k (by rw [hws, ← hh]; exact hkl)
theorem sail_found (o : Old w0 w) {n : Nat} (hn : n = 2 + l + h) (hl : 5 ≤ l) (hh : 3 ≤ h) (hm : n ≤ 60) : Calls Try.prog 10 #[.int .i64 n, .int .i64 l] w fun x w' => ∃ lp d, x = .returned (.tuple #[.pointer (some ⟨lp, 0, none⟩), .pointer (some ⟨d, 0, none⟩)]) ∧ Sail w0 lp d l h 0 true (fun X => X = zeroH h) (zeroH h) w' ∧ KeptL w w' := by
  obtain ⟨F, Lv, hA⟩ := newL_live hn hl hh (by omega)
  have ht := newL_turns (n := n) (l := l) (by omega) (by omega)
  refine (foundL_any o n l F).mono ?_
  rintro x w' ⟨lp, d, g, b, rfl, A, K⟩
  have h0 : (newL n l).calm = newL n l := by unfold LS.calm DS.calm; rw [← Lv.quiet.left]
  refine ⟨lp, d, rfl, ⟨g, b, _, 2, zeroH h, [], [], A, Lv.quiet.down, by rw [h0]; exact RunL.fresh Lv hA, fun _ => Lv.quiet.left, fun X ⟨j, hj, hX⟩ => ?_, rfl, by simp [zeroH], Nat.le_refl _, Nat.zero_le _, by omega⟩, K⟩
  have : j = 0 := Nat.le_zero.1 hj
  subst this
  exact hX
end
end Go.Proofs.Ytmingbgohdhajaa
