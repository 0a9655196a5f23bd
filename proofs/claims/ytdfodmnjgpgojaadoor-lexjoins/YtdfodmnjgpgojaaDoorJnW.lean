/- The law LexJoins's walk. -/
import Derived.Test.YtdfodmnjgpgojaaDoorJns
import Derived.Test.YtdfodmnjgpgojaaDoorKn
import Derived.Test.YtdfodmnjgpgojaaDoorFd
import Derived.Deep.DeepCutAuto
namespace Go.Proofs.YtdfodmnjgpgojaaDoor
open Go.RowKit Go.PlainAid
set_option maxRecDepth 100000

/-- The slice whose cells begin at a has n truths. -/
def HasBl (w : World) (a : Option Addr) (n : Nat) : Prop := ∀ i, i < n → ∃ (g o : Nat) (x : Bool), a = some ⟨g, o, none⟩ ∧ w.cell? ⟨g, o + i, none⟩ = some (.bool x)
theorem HasBl.old {w w' : World} {a : Option Addr} {n : Nat} (h : HasBl w a n) (m : Old w w') : HasBl w' a n := fun i hi => by
  obtain ⟨g, o, x, e, hc⟩ := h i hi
  exact ⟨g, o, x, e, (m.cell (lt_of_cell? hc) (fun q => q)).trans hc⟩
theorem own_blk {w : World} {base n g size : Nat} {e t : TypeId} {v : Value} {xs cs : List Value} (h : w.ownsRow base e size v n xs) (hg : Blk w g t cs) (hne : e ≠ t) : v.ownBlock ≠ some g := by
  rcases h.2 with ⟨rfl, _⟩ | ⟨g', cap, cur, rfl, _, hh, _⟩
  · simp [Value.ownBlock]
  · intro he
    have : g' = g := by simpa [Value.ownBlock] using he
    subst this
    unfold Blk at hg
    rw [hh] at hg
    injection hg with hg
    injection hg with _ ht
    exact hne ht
/-- What the law has: its words, those that it wants. -/
structure Jn (w : World) (g : Nat) (W : List ByteArray) (v : Value) (wx : World) : Prop where
  old : Old w wx
  tab : Blk wx g 35 (strCells wordTab)
  row : wx.ownsRow w.heap.size 9 1 v W.length (strCells W)
theorem Jn.move {w wx wy : World} {g : Nat} {W : List ByteArray} {v : Value} (h : Jn w g W v wx) (O : Old wx wy) : Jn w g W v wy := ⟨h.old.trans O, h.tab.touch O (fun q => q), owns_touch h.row O (fun _ _ q => q)⟩
theorem Jn.more {w wx : World} {g : Nat} {W : List ByteArray} {v : Value} (h : Jn w g W v wx) (T : ByteArray) (hl : W.length ≤ 1000) :
    ∃ v' w', (∀ ty, (Builtin.append_ #[36, 36] ty #[v, .slice (some ⟨wx.heap.size, 0, none⟩) 1 1]).run Tryd.prog (wx.alloc (.cells #[.string T] 9)) = .ok v' w') ∧ Jn w g (W ++ [T]) v' w' := by
  have hi : (Tryd.prog.info? 9).map (fun i => (i.zero, i.size, i.bytes)) = some (some (.string ⟨#[]⟩), 1, 16) := by kernel_rfl
  obtain ⟨v', w', h1, h2, h3⟩ := own_more Tryd.underlying36 hi rfl (by decide) h.row h.old.size [.string T] rfl (fun u hu => by
    obtain rfl := List.mem_singleton.1 hu
    rfl) (by omega) (by simp only [maxLen]; omega)
  have hlt := fun k (hk : blk v k) => World.ownsRow.lt h.row k hk
  refine ⟨v', w', h1, Touch.above h.old (Nat.le_refl _) (fun k hk => (hlt k hk).1) h3, h.tab.touch h3 (own_blk h.row h.tab (by decide)), ?_⟩
  rw [List.length_append, show strCells (W ++ [T]) = strCells W ++ [.string T] by simp [strCells]]
  exact h2
theorem Jn.form {w wx : World} {g : Nat} {W : List ByteArray} {v : Value} (h : Jn w g W v wx) : ∃ p c, v = .slice p W.length c ∧ W.length ≤ c ∧ ∀ i, i < W.length → ∃ g2, p = some ⟨g2, 0, none⟩ ∧ wx.cell? ⟨g2, i, none⟩ = some (.string (W.getD i ByteArray.empty)) := by
  obtain ⟨hl, ⟨rfl, h0⟩ | ⟨g2, cap, cur, rfl, hb, hg, h1, h2, h3, h4⟩⟩ := h.row
  · exact ⟨none, 0, by rw [h0], by omega, fun i hi => by omega⟩
  · have hB : Blk wx g2 9 cur.toList := by unfold Blk; rw [hg]
    refine ⟨some ⟨g2, 0, none⟩, cap, rfl, h1, fun i hi => ⟨g2, rfl, ?_⟩⟩
    rw [hB.cell, ← strCells_get W i hi, ← h4, List.getElem?_take_of_lt (by omega)]

/-- The words' block, ahead of the words. -/
def noWords : List Value := strCells (List.replicate 26 ⟨#[]⟩)
theorem infoW : (Tryd.prog.info? 35).map (fun i => (i.zero, i.size, i.bytes)) = some (some (.agg noWords.toArray), 26, 416) := by kernel_rfl
theorem allocW (w : World) : (Instr.alloc 35 true (.tuple #[])).run Tryd.prog w = .ok (.pointer (some ⟨w.heap.size, 0, none⟩)) (w.alloc (.cells noWords.toArray 35)) := by
  obtain ⟨i, hi, hz, _, _⟩ := info_parts infoW
  simp [Instr.alloc, zeroValue, typeInfo, hi, hz, newVar, newRow, Value.cells]
theorem sizeW : (Tryd.prog.info? 35).map (·.size) = some 26 := by kernel_rfl
theorem str_one (l : List ByteArray) : ∀ v ∈ strCells l, v.oneCell' = true := fun v hv => by
  obtain ⟨x, _, rfl⟩ := List.mem_map.1 hv
  rfl
section
variable {ops : Array Oper} {rest : List Oper} {op : Oper} {a : Act} {w : World} {Q : Exit → Act → World → Prop}
theorem wpList_alloc_words (hgd : op.guard = none) (ho : op.op = .alloc 35)
    (h : wpList Tryd.prog ops Q rest (a.put op.dst (.pointer (some ⟨w.heap.size, 0, none⟩))) (w.alloc (.cells noWords.toArray 35))) : wpList Tryd.prog ops Q (op :: rest) a w :=
  wpList_plain hgd fun K hK => by
    unfold Oper.wp execOp
    simp only [ho, Sem.run_bind, Sem.run_pure, Result.andThen_ok, allocW]
    exact hK _ _ h
theorem wpList_store_words (hgd : op.guard = none) (p y : Operand) (ho : op.op = .store 35 p y) (g : Nat) (hx : a.eval p = .pointer (some ⟨g, 0, none⟩)) (hy : a.eval y = .agg (strCells wordTab).toArray) (K : Blk w g 35 noWords)
    (h : ∀ w', Blk w' g 35 (strCells wordTab) → Touch (fun k => k = g) w w' → wpList Tryd.prog ops Q rest (a.put op.dst undef) w') : wpList Tryd.prog ops Q (op :: rest) a w := by
  have hl : (strCells wordTab).length = 26 := rfl
  have hz : noWords.length = 26 := rfl
  refine wpList_store_mid hgd 35 p y ho g 0 (strCells wordTab).toArray hx hy (fun j hj => ⟨?_, K.frozen _⟩) (by rw [sizeW, List.size_toArray, hl]) (all_oneCell_toArray (str_one wordTab)) ?_
  · rw [List.size_toArray, hl] at hj
    rw [K.cell, List.getElem?_eq_getElem (by rw [hz]; omega)]
    rfl
  · refine h _ ?_ (setCells_touch _ _ _ _)
    have := Blk.setCells (strCells wordTab) 0 noWords w K (by rw [hl, hz]; decide)
    have e : splice noWords 0 (strCells wordTab) = strCells wordTab := by
      unfold splice
      rw [List.drop_eq_nil_of_le (by rw [hl, hz]; decide)]
      simp
    rw [e] at this
    exact this
end

set_option maxHeartbeats 25600000 in
theorem joins_law (a : Option Addr) (ys : List Int) (n c : Nat) (b : Option Addr) (nb cb : Nat) (w : World) (hI : HasI w a ys) (hy : ys.length = n) (hB : HasBl w b nb) (hT : Tbl w 3 sgTab) :
    Calls Tryd.prog 6 #[.slice a n c, .slice b nb cb] w fun e w' => e = .returned (.bool true) ∧ Below w.heap.size w w' := by
  have HT := Lib.hid hT
  have HI := Lib.hid hI
  have HY := Lib.hid hy
  have HBl := Lib.hid hB
  clear hT hI hy hB
  go_enter Tryd.func6, Tryd.ntmps6
  go_upto_region 3 with (first
    | (go_at_call 7; refine (known_any _ HT.out).mono ?_; rintro e w1 ⟨rfl, O⟩
       have HO := Lib.hid O
       clear O))
  go_wp2_with (first
    | (with_reducible refine wpList_alloc_words (op := ⟨some 5, _, _, _, _, _⟩) rfl rfl ?_)
    | ((with_reducible refine wpList_store_words (op := ⟨none, .store 35 _ _, _, _, _, _⟩) rfl (.tmp 5) (.tmp 17) rfl _ rfl rfl (Blk.new _ 35 noWords) ?_); intro w2 K2 T2
       have HJ0 : Hid (Jn w w1.heap.size [] (.slice none 0 0) w2) := ⟨(HO.out.alloc _).own T2 HO.out.size, K2, World.ownsRow_nil _ _ _ _⟩
       clear K2 T2))
  have HA0 : Hid (Ahead ⟨#[]⟩ []) := ahead_none
  clear HO
  generalize w1.heap.size = g at *
  generalize Value.agg #[.string ⟨#[40]⟩, .string ⟨#[41]⟩, .string ⟨#[91]⟩, .string ⟨#[93]⟩, .string ⟨#[43]⟩, .string ⟨#[45]⟩, .string ⟨#[42]⟩, .string ⟨#[60]⟩, .string ⟨#[60, 61]⟩, .string ⟨#[62]⟩, .string ⟨#[62, 61]⟩, .string ⟨#[61, 61]⟩, .string ⟨#[33, 61]⟩, .string ⟨#[38, 38]⟩, .string ⟨#[124, 124]⟩, .string ⟨#[33]⟩, .string ⟨#[64]⟩, .string ⟨#[45, 62]⟩, .string ⟨#[59]⟩, .string ⟨#[61]⟩, .string ⟨#[88]⟩, .string ⟨#[85]⟩, .string ⟨#[120]⟩, .string ⟨#[97, 98, 95, 49]⟩, .string ⟨#[55]⟩, .string ⟨#[49, 50, 51]⟩] = WA
  as_aux_lemma =>
    go_loopw [6, 7, 8, 9, 10] (fun sv wv iv _ _ wx => ∃ (i : Nat) (S : ByteArray) (W : List ByteArray), i ≤ 50 ∧ iv = .int .i64 (i : Int) ∧ sv = .string S ∧ Hid (W.length = i) ∧ Hid (S.size ≤ 6 * i) ∧ Hid (Ahead S W) ∧ Hid (Jn w g W wv wx)) (fun _ _ iv _ _ _ => 50 - (intOf iv).toNat)
    case atStart => exact ⟨0, ⟨#[]⟩, [], by omega, rfl, rfl, rfl, Nat.le_refl _, HA0, HJ0⟩
    case round =>
      obtain ⟨i, S, W, hi, rfl, rfl, HL, HS, HA, HJ⟩ := hrel
      clear HA0 HJ0
      obtain ⟨go, hgo⟩ : ∃ go, decide (i < n ∧ i < 50) = go := ⟨_, rfl⟩
      go_upto_region 7 with fail
      go_cut [25] (fun v wx => v = .bool go ∧ wr = wx)
      case first => as_aux_lemma =>
        by_cases h1 : i < n
        · have i1 : (i : Int) < (n : Int) := by omega
          by_cases h2 : i < 50
          · have i2 : (i : Int) < 50 := by omega
            have e : go = true := by rw [← hgo]; exact decide_eq_true ⟨h1, h2⟩
            subst e
            clear hgo
            go_wp2_with fail
            go_meet
            exact ⟨rfl, rfl⟩
          · have i2 : ¬ (i : Int) < 50 := by omega
            have e : go = false := by rw [← hgo]; exact decide_eq_false (fun q => h2 q.2)
            subst e
            clear hgo
            go_wp2_with fail
            go_meet
            exact ⟨rfl, rfl⟩
        · have i1 : ¬ (i : Int) < (n : Int) := by omega
          have e : go = false := by rw [← hgo]; exact decide_eq_false (fun q => h1 q.1)
          subst e
          clear hgo
          go_wp2_with fail
          go_meet
          exact ⟨rfl, rfl⟩
      case rest =>
        obtain ⟨rfl, rfl⟩ := hcut
        cases go with
        | true =>
          obtain ⟨h1, h2⟩ := of_decide_eq_true hgo
          clear hgo
          have i1 : (i : Int) < (n : Int) := by omega
          obtain ⟨bk, o, rfl, hc⟩ := (HI.out.old HJ.out.old).cell i (by rw [HY.out]; exact h1)
          generalize ys.getD i 0 = y at *
          have HP : Hid (∀ w, Calls Tryd.prog 13 #[.int .i64 y, .int .i64 26] w fun e w' => e = .returned (.int .i64 (pickN y 26 : Int)) ∧ w = w') := fun w => pick_at _ _ (by omega) (by omega) w
          have hk0 : (pickN y 26 : Int) < 26 := pickN_lt (by omega)
          generalize pickN y 26 = k at *
          have hk : k < 26 := by omega
          go_upto_region 10 with (first
            | (with_reducible refine (HP.out _).mono ?_; rintro e w' ⟨rfl, rfl⟩))
          go_cut [10] (fun v wx => ∃ l : Bool, v = .bool l ∧ (l = true → k < 4 ∨ k = 20 ∨ k = 21) ∧ wr = wx)
          case first => as_aux_lemma =>
            by_cases hnb : i < nb
            · have hnb' : (i : Int) < (nb : Int) := by omega
              obtain ⟨g3, o3, x, rfl, hx⟩ := (HBl.out.old HJ.out.old) i hnb
              cases x with
              | false =>
                go_wp2_with fail
                go_meet
                exact ⟨false, rfl, fun e => (by cases e), rfl⟩
              | true =>
                by_cases k4 : k < 4
                · have k4' : (k : Int) < 4 := by omega
                  go_wp2_with fail
                  go_meet
                  exact ⟨true, rfl, fun _ => .inl k4, rfl⟩
                · have k4' : ¬ (k : Int) < 4 := by omega
                  cases k20 : ((k : Int) == 20) with
                  | true =>
                    have HK : Hid (k = 20) := by
                      have := eq_of_beq k20
                      show _ = _
                      omega
                    go_wp2_with fail
                    go_meet
                    exact ⟨true, rfl, fun _ => .inr (.inl HK.out), rfl⟩
                  | false =>
                    cases k21 : ((k : Int) == 21) with
                    | true =>
                      have HK : Hid (k = 21) := by
                        have := eq_of_beq k21
                        show _ = _
                        omega
                      go_wp2_with fail
                      go_meet
                      exact ⟨true, rfl, fun _ => .inr (.inr HK.out), rfl⟩
                    | false =>
                      go_wp2_with fail
                      go_meet
                      exact ⟨false, rfl, fun e => (by cases e), rfl⟩
            · have hnb' : ¬ (i : Int) < (nb : Int) := by omega
              go_wp2_with fail
              go_meet
              exact ⟨false, rfl, fun e => (by cases e), rfl⟩
          case rest =>
            obtain ⟨l, rfl, hl, rfl⟩ := hcut
            have hcl := HJ.out.tab.cell k
            rw [strCells_get wordTab k (by show k < 26; exact hk)] at hcl
            have hws := word_size k hk
            have HAl := fun h => HA.out.loose (k := k) h
            have HAs := fun h => HA.out.sp.loose (k := k) h
            have HAt := HA.out.sp.tight (k := k) hk
            obtain ⟨T, hT⟩ : ∃ T, wordTab.getD k ByteArray.empty = T := ⟨_, rfl⟩
            rw [hT] at hcl hws HAl HAs HAt
            have HAl := Lib.hid HAl
            have HAs := Lib.hid HAs
            have HAt := Lib.hid HAt
            obtain ⟨v', w', hap, hj⟩ := HJ.out.more T (by rw [HL.out]; omega)
            have HJn := Lib.hid hj
            have HLn : Hid ((W ++ [T]).length = i + 1) := by show _ = _; rw [List.length_append, HL.out]; rfl
            obtain ⟨z, hz⟩ : ∃ z, S.size = z := ⟨_, rfl⟩
            have hzs : z ≤ 6 * i := by rw [← hz]; exact HS.out
            obtain ⟨t, ht⟩ : ∃ t, T.size = t := ⟨_, rfl⟩
            rw [ht] at hws
            have k26 : (k : Int) < 26 := by omega
            clear hj hT HP HS
            by_cases hs : k < 4 ∨ k = 20 ∨ k = 21
            · have n22 : ¬ (22 : Int) ≤ (k : Int) := by omega
              cases l with
              | true =>
                rcases (by omega : (¬ (4 : Int) ≤ (k : Int)) ∨ ((4 : Int) ≤ (k : Int) ∧ ¬ (k : Int) < 20)) with n4 | ⟨n4, n20⟩
                all_goals (as_aux_lemma =>
                  have HAn : Hid (Ahead (S ++ T) (W ++ [T])) := HAl.out hs
                  have HSn : Hid ((S ++ T).size ≤ 6 * (i + 1)) := by
                    show _ ≤ _
                    simp only [ByteArray.size_append]
                    omega
                  go_wp2_with (first | (at_builtin; refine wpList_append_run rfl _ _ 36 36 rfl _ _ rfl rfl _ _ (hap _) ?_))
                  exact ⟨⟨i + 1, S ++ T, W ++ [T], by omega, by rw [Int.natCast_add]; rfl, rfl, HLn, HSn, HAn, HJn⟩, by simp only [intOf]; omega⟩)
              | false =>
                rcases (by omega : (¬ (4 : Int) ≤ (k : Int)) ∨ ((4 : Int) ≤ (k : Int) ∧ ¬ (k : Int) < 20)) with n4 | ⟨n4, n20⟩
                all_goals (as_aux_lemma =>
                  have HAn : Hid (Ahead (S ++ spB ++ T) (W ++ [T])) := HAs.out hs
                  have HSn : Hid ((S ++ spB ++ T).size ≤ 6 * (i + 1)) := by
                    show _ ≤ _
                    simp only [ByteArray.size_append, show spB.size = 1 from rfl]
                    omega
                  go_wp2_with (first | (at_builtin; refine wpList_append_run rfl _ _ 36 36 rfl _ _ rfl rfl _ _ (hap _) ?_))
                  exact ⟨⟨i + 1, S ++ spB ++ T, W ++ [T], by omega, by rw [Int.natCast_add]; rfl, rfl, HLn, HSn, HAn, HJn⟩, by simp only [intOf]; omega⟩)
            · have hlf : l = false := by
                cases hlv : l with
                | false => rfl
                | true => exact absurd (hl hlv) hs
              subst hlf
              rcases (by omega : ((22 : Int) ≤ (k : Int)) ∨ (¬ (22 : Int) ≤ (k : Int) ∧ (4 : Int) ≤ (k : Int) ∧ (k : Int) < 20)) with n22 | ⟨n22, n4, n20⟩
              all_goals (as_aux_lemma =>
                have HAn : Hid (Ahead (S ++ spB ++ T ++ spB) (W ++ [T])) := HAt.out
                have HSn : Hid ((S ++ spB ++ T ++ spB).size ≤ 6 * (i + 1)) := by
                  show _ ≤ _
                  simp only [ByteArray.size_append, show spB.size = 1 from rfl]
                  omega
                go_wp2_with (first | (at_builtin; refine wpList_append_run rfl _ _ 36 36 rfl _ _ rfl rfl _ _ (hap _) ?_))
                exact ⟨⟨i + 1, S ++ spB ++ T ++ spB, W ++ [T], by omega, by rw [Int.natCast_add]; rfl, rfl, HLn, HSn, HAn, HJn⟩, by simp only [intOf]; omega⟩)
        | false => as_aux_lemma =>
          clear hgo
          obtain ⟨wo, hwo⟩ : ∃ wo, wo = wr := ⟨wr, rfl⟩
          subst hwo
          have hst := HA.out.done (by have := HS.out; omega)
          have hmx : maxLen = 9223372036854775807 := by decide
          have HSm : Hid (S.size ≤ maxLen) := by
            have := HS.out
            show _ ≤ _
            omega
          obtain ⟨toks, htk, hL, hE, hA⟩ := hst
          have hlen : (lexL S).length = i + 1 := by
            rw [hL, List.length_append]
            have := congrArg List.length htk
            rw [List.length_map, HL.out] at this
            rw [this]
            rfl
          have HXt : Hid (∀ j, j < i → ∃ t : Tok, (lexL S)[j]? = some t ∧ t.text = W.getD j ByteArray.empty) := fun j hj => by
            have hjl : j < toks.length := by
              have := congrArg List.length htk
              rw [List.length_map, HL.out] at this
              omega
            refine ⟨toks[j], by rw [hL, List.getElem?_append_left hjl, List.getElem?_eq_getElem hjl], ?_⟩
            rw [← htk, List.getD_eq_getElem?_getD, List.getElem?_map, List.getElem?_eq_getElem hjl]
            rfl
          have HXe : Hid (∃ t : Tok, (lexL S)[i]? = some t ∧ t.kind = 5) := by
            refine ⟨tokEnd S, ?_, rfl⟩
            have := congrArg List.length htk
            rw [List.length_map, HL.out] at this
            rw [hL, List.getElem?_append_right (by omega), this, Nat.sub_self]
            rfl
          have HLen := Lib.hid hlen
          have HE := Lib.hid hE
          have HAz := Lib.hid hA
          obtain ⟨p, cw, rfl, hcw, hcells⟩ := HJ.out.form
          rw [HL.out] at hcw hcells ⊢
          have HC := Lib.hid hcells
          have HO : Hid (Old wo wo) := Touch.refl _ _
          clear htk hL hE hA hlen hcells HA HS
          go_upto_region 20 with (first
            | (go_at_call 8; refine (lex_any S HSm.out _ (HT.out.old HJ.out.old (fun q => q))).mono ?_; rintro e w3 ⟨p3, c3, rfl, hc3, hT3, O⟩
               have HO := Lib.hid O
               have HT3 := Lib.hid hT3
               rw [HE.out, HAz.out]
               rw [HLen.out] at hc3 ⊢
               clear O hT3)
            | (go_at_call 7; refine (known_any _ (HT.out.old (HJ.out.old.trans HO.out) (fun q => q))).mono ?_; rintro e w4 ⟨rfl, O⟩
               have HT3 := Lib.hid (HT3.out.old O)
               have HO := Lib.hid (HO.out.trans O)
               clear O))
          go_wp2_with fail
          go_loopw [14, 108] (fun _ iv wx => ∃ j : Nat, j ≤ i ∧ iv = .int .i64 (j : Int) ∧ Hid (HasT wx p3 (lexL S) ∧ Old wo wx)) (fun _ iv _ => i - (intOf iv).toNat)
          case atStart => exact ⟨0, Nat.zero_le _, rfl, HT3.out, HO.out⟩
          case round =>
            obtain ⟨j, hj, rfl, HW⟩ := hrel
            clear HT3 HO
            by_cases q : j < i
            · have q' : (j : Int) < (i : Int) := by omega
              have q2 : (j : Int) < (i : Int) + 1 := by omega
              obtain ⟨t, ht, htx⟩ := HXt.out j q
              obtain ⟨g3, rfl, c0, c1, _, _⟩ := HW.out.1.cell j t ht
              obtain ⟨g4, rfl, d0⟩ := HC.out j q
              have d0 := (HW.out.2.cell (p := ⟨g4, j, none⟩) (lt_of_cell? d0) (fun q => q)).trans d0
              rw [← htx] at d0
              generalize t.text = X at *
              go_upto_region 23 with fail
              have a1 : ∀ nd, (wr.drewN nd).cell? ⟨g3, j * 4 + 1, none⟩ = some (.string X) := fun nd => c1
              have b1 : ∀ nd, (wr.drewN nd).cell? ⟨g4, j, none⟩ = some (.string X) := fun nd => d0
              clear c0 c1 d0
              go_quiet (fail)
              go_wp2_with fail
              exact ⟨⟨j + 1, by omega, by rw [Int.natCast_add]; rfl, HW.out.1.old ((Touch.refl _ _).drewN _), HW.out.2.drewN _⟩, by simp only [intOf]; omega⟩
            · have q' : ¬ (j : Int) < (i : Int) := by omega
              obtain rfl : i = j := by omega
              obtain ⟨t, ht, htk⟩ := HXe.out
              obtain ⟨g3, rfl, c0, _, _, _⟩ := HW.out.1.cell i t ht
              rw [htk] at c0
              have q2 : (i : Int) < (i : Int) + 1 := by omega
              go_wp2_with fail
              go_ret
              exact ⟨rfl, (HJ.out.old.trans HW.out.2).below (Nat.le_refl _) (fun _ _ q => q)⟩
end Go.Proofs.YtdfodmnjgpgojaaDoor
