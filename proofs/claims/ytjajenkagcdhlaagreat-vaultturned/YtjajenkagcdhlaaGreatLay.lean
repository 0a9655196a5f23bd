/- The contract of a drum's Lay. -/
import Derived.Test.YtjajenkagcdhlaaGreatNew
import Derived.Deep.RegionLaw
import Derived.Deep.AppendLies
namespace Go.Proofs.YtjajenkagcdhlaaGreat
open Go.RowKit
set_option maxRecDepth 100000

theorem build107 (k : Nat) (w : World) : (Instr.build 107 #[(0, .int .i64 (k : Int))]).run Tryz.prog w = .ok (.agg (lain (k, zeros 96)).toArray) w := by
  have : (Instr.build 107 #[(0, .int .i64 (k : Int))]).run Tryz.prog w = .ok (.agg (.int .i64 (k : Int) :: cells (zeros 96)).toArray) w := by kernel_rfl
  exact this

section
variable {ops : Array Oper} {rest : List Oper} {op : Oper} {a : Act} {w : World} {Q : Exit → Act → World → Prop}
theorem wpList_build_lain (hgd : op.guard = none) (p : Operand) (ho : op.op = .build 107 #[(0, p)]) (k : Nat) (hx : a.eval p = .int .i64 (k : Int))
    (h : wpList Tryz.prog ops Q rest (a.put op.dst (.agg (lain (k, zeros 96)).toArray)) w) : wpList Tryz.prog ops Q (op :: rest) a w :=
  wpList_plain hgd fun K hK => by
    unfold Oper.wp execOp
    simp only [ho, Sem.run_bind, Sem.run_pure, Result.andThen_ok, List.map_toArray, List.map_cons, List.map_nil, hx, build107]
    exact hK _ _ h
end

theorem fill_all (cs : List Value) (Z : Array Value) (hl : Z.size = cs.length) : cs.toArray.zipIdx.foldl (fun (x : Array Value) (p : Value × Nat) => x.setIfInBounds (0 * 97 + p.2) p.1) Z = cs.toArray := by
  have key : ∀ (n : Nat) (r pre : List Value), n = pre.length → ∀ Y : Array Value, Y.toList.take pre.length = pre → Y.size = pre.length + r.length →
      ((r.zipIdx n).foldl (fun (x : Array Value) (p : Value × Nat) => x.setIfInBounds p.2 p.1) Y) = (pre ++ r).toArray := by
    intro n r
    induction r generalizing n with
    | nil =>
      intro pre hn Y h1 h2
      apply Array.ext'
      simp only [List.zipIdx_nil, List.foldl_nil, List.append_nil]
      rw [← h1, List.take_of_length_le (by simp at h2 ⊢; omega)]
    | cons v r ih =>
      intro pre hn Y h1 h2
      simp only [List.zipIdx_cons, List.foldl_cons]
      have := ih (n + 1) (pre ++ [v]) (by simp [hn]) (Y.setIfInBounds n v) (by
        apply List.ext_getElem?
        intro i
        have hi : ∀ j, j < pre.length → Y.toList[j]? = pre[j]? := fun j hj => by
          have := congrArg (fun l => l[j]?) h1
          simpa [List.getElem?_take_of_lt hj] using this
        simp only [List.length_append, List.length_cons, List.length_nil, Array.toList_setIfInBounds]
        rcases Nat.lt_trichotomy i pre.length with h | h | h
        · rw [List.getElem?_take_of_lt (by omega), List.getElem?_set_ne (by omega), List.getElem?_append_left h]
          exact hi i h
        · subst h
          rw [List.getElem?_take_of_lt (by omega), hn, List.getElem?_set_self (by simp at h2 ⊢; omega)]
          simp
        · rw [List.getElem?_eq_none (by simp; omega), List.getElem?_eq_none (by simp; omega)]) (by simp at h2 ⊢; omega)
      rw [this]
      simp
  have := key 0 cs [] rfl Z (by simp) (by simpa using hl)
  simp only [Nat.zero_mul, Nat.zero_add]
  rw [← Array.foldl_toList]
  simpa [Array.toList_zipIdx] using this
theorem buildSlice90 (cs : List Value) (hl : cs.length = 97) (w : World) : (Instr.buildSlice 90 1 #[(0, .agg cs.toArray)]).run Tryz.prog w = .ok (.slice (some ⟨w.heap.size, 0, none⟩) 1 1) (w.alloc (.cells cs.toArray 107)) := by
  obtain ⟨i, hi, hz, hs, _⟩ := info_parts info107
  have hf : Instr.fill (fun i => some (i * 97, 97)) ((Array.range 97).map (noLain.toArray[· % noLain.toArray.size]!)) [(0, .agg cs.toArray)] = some cs.toArray := by
    have h1 : (Value.agg cs.toArray).cells.size = 97 := by simp [Value.cells, hl]
    have h2 : ((Array.range 97).map (noLain.toArray[· % noLain.toArray.size]!)).size = 97 := by simp
    unfold Instr.fill
    simp only [h1, h2]
    rw [if_neg (by decide)]
    unfold Instr.fill
    exact congrArg some (fill_all cs _ (by rw [h2, hl]))
  generalize cs.toArray = C at *
  generalize hN : noLain.toArray = N at *
  simp [Instr.buildSlice, run_underlying Tryz.underlying90, sizeOf, typeInfo, hi, hs, zeroValue, hz, newRow, Value.cells]
  simp only [hf]
  rfl

section
variable {ops : Array Oper} {o : Oper} {a : Act} {w : World} {K : Act → World → Prop} {Q : Exit → Act → World → Prop} {E : Prop}
theorem step_wanted (hg : o.guard = none) (h : Oper.wp Tryz.prog o a w K Q) : if Region.wanted o (yielded ops a.tmps) = true then Oper.wp Tryz.prog o a w K Q else E := by
  rw [if_pos (by simp [Region.wanted, hg])]
  exact h
theorem step_load (hg : o.guard = none) (t : TypeId) (p : Operand) (ho : o.op = .load t p) (ad : Addr) (hp : a.eval p = .pointer (some ad)) (v : Value) (hr : (loadVar t ad).run Tryz.prog w = .ok v w) (h : K (a.put o.dst v) w) : if Region.wanted o (yielded ops a.tmps) = true then Oper.wp Tryz.prog o a w K Q else E := by
  refine step_wanted hg ?_
  unfold Oper.wp execOp
  simp only [ho, hp, Instr.loadAt, Instr.sureAddr, Sem.run_bind, Sem.run_pure, Result.andThen_ok, hr]
  exact h
theorem step_buildSlice (hg : o.guard = none) (t : TypeId) (p : Operand) (ho : o.op = .buildSlice t 1 #[(0, p)]) (u : Value) (hp : a.eval p = u) (v : Value) (w' : World) (hr : (Instr.buildSlice t 1 #[(0, u)]).run Tryz.prog w = .ok v w') (h : K (a.put o.dst v) w') : if Region.wanted o (yielded ops a.tmps) = true then Oper.wp Tryz.prog o a w K Q else E := by
  refine step_wanted hg ?_
  unfold Oper.wp execOp
  simp only [ho, hp, Sem.run_bind, Sem.run_pure, Result.andThen_ok, List.map_toArray, List.map_cons, List.map_nil, hr]
  exact h
theorem step_append (hg : o.guard = none) (s x : Operand) (t tx : TypeId) (ho : o.op = .call { callee := .builtin .append, args := #[s, x], argTypes := #[t, tx] }) (v u : Value) (hs : a.eval s = v) (hx : a.eval x = u) (v' : Value) (w' : World)
    (hr : (Builtin.append_ #[t, tx] o.type #[v, u]).run Tryz.prog w = .ok v' w') (h : K (a.put o.dst v') w') : if Region.wanted o (yielded ops a.tmps) = true then Oper.wp Tryz.prog o a w K Q else E := by
  refine step_wanted hg ?_
  unfold Oper.wp execOp
  simp only [ho, resolve, invoke, builtin, Sem.run_bind, Sem.run_pure, Result.andThen_ok, List.map_toArray, List.map_cons, List.map_nil, hs, hx, hr]
  exact h
end
theorem step_store {ops : Array Oper} {o : Oper} {a : Act} {w : World} {K : Act → World → Prop} {Q : Exit → Act → World → Prop} {E : Prop} (hg : o.guard = none) (t : TypeId) (p y : Operand) (ho : o.op = .store t p y) (ad : Addr) (hp : a.eval p = .pointer (some ad)) (v : Value) (hy : a.eval y = v) (w' : World) (hr : (storeVar t ad v).run Tryz.prog w = .ok () w') (h : K (a.put o.dst undef) w') : if Region.wanted o (yielded ops a.tmps) = true then Oper.wp Tryz.prog o a w K Q else E := by
  refine step_wanted hg ?_
  unfold Oper.wp execOp
  simp only [ho, hp, hy, Instr.storeAt, Instr.sureAddr, Sem.run_bind, Sem.run_pure, Result.andThen_ok, hr]
  exact h
theorem store_one {t : TypeId} {w : World} {ad : Addr} {v u : Value} (hs : (Tryz.prog.info? t).map (·.size) = some 1) (hv : v.cells = #[v]) (hc : w.cell? ad = some u) (hf : w.frozen? ad = false) (h1 : v.oneCell' = true) : (storeVar t ad v).run Tryz.prog w = .ok () (w.setCell ad v) := by
  cases hq : Tryz.prog.info? t with
  | none => simp [hq] at hs
  | some i =>
    have hi : i.size = 1 := by simpa [hq] using hs
    have hst : (store ad v).run Tryz.prog w = .ok () (w.setCell ad v) := by
      rw [run_store Tryz.prog w ad v _ h1, hc]
      simp [hf]
    simp [storeVar, sizeOf, typeInfo, hq, hi, hv, storeCells, hst, Addr.add]
theorem load_one {t : TypeId} {w : World} {ad : Addr} {v : Value} (ha : ∀ w, (isAgg t).run Tryz.prog w = .ok false w) (hc : w.cell? ad = some v) : (loadVar t ad).run Tryz.prog w = .ok v w := by
  simp [loadVar, ha, hc]

/-- What is seen of a track that is laid. -/
theorem At.see_set {d : Nat} {b : Bl} {D : DS} {V : List (List Nat)} {w : World} (A : At d b D V w) (hV : ∀ b ∈ V, Trk b) {k : Nat} (hk : k < V.length) {xs : List Nat} (hx : Trk xs) :
    At d b D (V.set k xs) (w.setCells b.v (k * 96) (cells xs)) := by
  have T : Touch (fun k => k = b.v) w (w.setCells b.v (k * 96) (cells xs)) := setCells_touch _ _ _ _
  refine ⟨A.head.touch T A.dv, A.set.touch T A.sv, ?_, A.sv, A.flag.touch T (A.flag.ne A.see (by decide)), owns_touch A.own T (fun k hk e => own_blk A.own A.see (by decide) (by rw [hk, e])), A.well.touch T (fun k hk e => well_blk A.well A.see (by decide) (by rw [hk, e]))⟩
  have := Blk.setCells (cells xs) (k * 96) _ w A.see (by rw [cells_length, hx.len, rows_length hV]; omega)
  rwa [rows_set hV hx hk] at this
theorem At.set_set {d : Nat} {b : Bl} {D : DS} {V : List (List Nat)} {w : World} (A : At d b D V w) (hT : ∀ b ∈ D.T, Trk b) {k : Nat} (hk : k < D.T.length) {xs : List Nat} (hx : Trk xs) :
    At d b { D with T := D.T.set k xs } V (w.setCells b.s (k * 96) (cells xs)) := by
  have T : Touch (fun k => k = b.s) w (w.setCells b.s (k * 96) (cells xs)) := setCells_touch _ _ _ _
  refine ⟨?_, ?_, A.see.touch T A.sv.symm, A.sv, A.flag.touch T (A.flag.ne A.set (by decide)), owns_touch A.own T (fun k hk e => own_blk A.own A.set (by decide) (by rw [hk, e])), A.well.touch T (fun k hk e => well_blk A.well A.set (by decide) (by rw [hk, e]))⟩
  · have := A.head.touch T A.ds
    simpa using this
  · have := Blk.setCells (cells xs) (k * 96) _ w A.set (by rw [cells_length, hx.len, rows_length hT]; omega)
    rwa [rows_set hT hx hk] at this

theorem lay_arg (d : Nat) (k : Int) (b : Bl) (D : DS) (V : List (List Nat)) (w : World) (a : Option Addr) (len cap : Nat) (h : At d b D V w) (hk : k < 0 ∨ (D.T.length : Int) ≤ k) :
    Calls Tryz.prog 29 #[.pointer (some ⟨d, 0, none⟩), .int .i64 k, .slice a len cap] w fun e w' => e = .returned (.int .i64 1) ∧ w = w' := by
  have H := Lib.hid (has_no d k b D V w h hk)
  clear h hk
  go_enter Tryz.func29, Tryz.ntmps29
  go_wp2_with fail
  refine H.out.mono ?_
  rintro e w' ⟨rfl, rfl⟩
  go_wp2_with fail
  go_ret
  exact ⟨rfl, rfl⟩
theorem lay_len (d k : Nat) (b : Bl) (D : DS) (V : List (List Nat)) (w : World) (a : Option Addr) (len cap : Nat) (h : At d b D V w) (hk : k < D.T.length) (hl : len ≠ 96) :
    Calls Tryz.prog 29 #[.pointer (some ⟨d, 0, none⟩), .int .i64 k, .slice a len cap] w fun e w' => e = .returned (.int .i64 1) ∧ w = w' := by
  have H := Lib.hid (has_yes d k b D V w h hk)
  have hn : ¬ (len : Int) = 96 := by omega
  clear h hk hl
  go_enter Tryz.func29, Tryz.ntmps29
  go_wp2_with fail
  refine H.out.mono ?_
  rintro e w' ⟨rfl, rfl⟩
  go_wp2_with fail
  go_ret
  exact ⟨rfl, rfl⟩

theorem turned_seen (D : DS) : D.turned.seen = D.seen := by unfold DS.seen; rw [DS.turned_T, DS.turned_A]

set_option linter.unusedSimpArgs false in
set_option maxRecDepth 100000 in
set_option maxHeartbeats 1600000 in
theorem lay_any (d k : Nat) (b : Bl) (D : DS) (w : World) (a : Option Addr) (xs : List Nat) (cap : Nat) (h : Dr d b D w) (ht : D.turns ≤ 99999) (hk : k < D.T.length) (hH : Has w a xs) (hl : xs.length = 96) (hn : ∀ g o, a = some ⟨g, o, none⟩ → ¬ foot d b g) :
    Calls Tryz.prog 29 #[.pointer (some ⟨d, 0, none⟩), .int .i64 k, .slice a 96 cap] w fun e w' => e = .returned (.int .i64 D.err) ∧ Done d b (D.lay k xs) w w' := by
  have H1 := Lib.hid (has_yes d k b D D.seen w h.at_ hk)
  have H2 := Lib.hid (turn_any d b D D.seen w h.at_ h.ok (by omega))
  have H := Lib.hid h
  have HH := Lib.hid hH
  have HL := Lib.hid hl
  have HN := Lib.hid hn
  have HK := Lib.hid hk
  have HK' := Lib.hid hk
  have HT := Lib.hid ht
  clear h hH hl hn hk ht
  cases hg : D.goes with
  | false =>
    have HG := Lib.hid hg
    clear hg
    go_enter Tryz.func29, Tryz.ntmps29
    go_wp2_with fail
    refine H1.out.mono ?_
    rintro e w' ⟨rfl, rfl⟩
    go_wp2_with fail
    refine H2.out.mono ?_
    rintro e w1 ⟨rfl, A1, T1⟩
    rw [HG.out]
    have HA := Lib.hid A1
    have HT1 := Lib.hid T1
    clear A1 T1
    go_wp2_with fail
    go_ret
    refine ⟨?_, b, ⟨?_, ?_⟩, HT1.out, fun _ hk => .inl hk⟩
    · unfold DS.err; rw [HG.out]; rfl
    · unfold DS.lay; rw [HG.out]; exact H.out.ok.turned
    · unfold DS.lay; rw [HG.out]; simp only [Bool.false_eq_true, if_false]; rw [turned_seen]; exact HA.out
  | true =>
    have HG := Lib.hid hg
    clear hg
    go_enter Tryz.func29, Tryz.ntmps29
    go_wp2_with fail
    refine H1.out.mono ?_
    rintro e w' ⟨rfl, rfl⟩
    go_wp2_with fail
    refine H2.out.mono ?_
    rintro e w1 ⟨rfl, A1, T1⟩
    rw [HG.out]
    have HA := Lib.hid A1
    have HT1 := Lib.hid T1
    have HH1 := Lib.hid (HH.out.touch T1 HN.out)
    clear A1 T1 H1 H2
    go_wp2_with (first
      | (with_reducible refine wpList_build_lain (op := ⟨some 21, _, _, _, _, _⟩) rfl (.tmp 20) rfl k rfl ?_)
      | (with_reducible refine wpList_alloc_lain (op := ⟨some 7, _, _, _, _, _⟩) rfl rfl ?_)
      | ((with_reducible refine wpList_store_lain (op := ⟨none, .store 107 _ _, _, _, _, _⟩) rfl (.tmp 7) (.tmp 21) rfl _ (k, zeros 96) trk_zeros rfl rfl noLain noLain_length (Blk.new _ 107 noLain) ?_); intro w2 K2 T2
         obtain ⟨w3, hcp, K3, T3⟩ := copy_at w2 w1.heap.size 107 _ 1 xs a 96 96 96 cap K2 ((HH1.out.old ((Touch.refl (fun _ => False) w1).alloc (.cells noLain.toArray 107))).touch T2 (fun g o e q => by obtain ⟨b', off', e', hc⟩ := HH1.out.cell 0 (by rw [HL.out]; omega); rw [e'] at e; cases e; have := lt_of_cell? hc; simp at this; omega)) HL.out (by rw [lain_length trk_zeros]; omega)
         have HT3 : Hid (Old w1 w3) := (((Touch.refl (fun _ => False) w1).alloc (.cells noLain.toArray 107)).own T2 (Nat.le_refl _)).own T3 (Nat.le_refl _)
         have HK3 := Lib.hid K3
         clear K2 T2 K3 T3))
    have hXT : Trk xs := ⟨HH.out.byte, HL.out⟩
    have hVT := DS.seen_trk H.out.ok
    have HT3' := Lib.hid (HT3.out.drew)
    have A3 := HA.out.touch HT3'.out (fun _ _ q => q)
    have hsp : splice (lain (k, zeros 96)) 1 (cells (xs.take 96)) = lain (k, xs) := by
      rw [List.take_of_length_le (by rw [HL.out]; exact Nat.le_refl _)]
      unfold splice lain
      rw [List.drop_eq_nil_of_le (by simp [cells_length, zeros_length, HL.out])]
      simp
    rw [hsp] at HK3
    have K3 : Blk w3.drew w1.heap.size 107 (lain (k, xs)) := HK3.out
    have hr : w3.drew.rangeAt w1.heap.size 1 (cells xs) := blk_range (xs := [.int .i64 (k : Int)]) K3
    have hth : w3.drew.there b.v (k * 96) 96 := rows_there hVT A3.see (by rw [DS.seen_length]; exact HK.out)
    have hc1 : w3.drew.cell? ⟨d, 1, none⟩ = some (.slice (some ⟨b.v, 0, none⟩) D.T.length D.T.length) := by have := A3.head.cell 1; rw [DS.turned_T] at this; exact this
    have A4 := A3.see_set hVT (k := k) (by rw [DS.seen_length]; exact HK.out) hXT
    have hgv : w1.heap.size ≠ b.v := by have := HA.out.see.lt; omega
    have T4 : Touch (fun k => k = b.v) w3.drew (w3.drew.setCells b.v (k * 96) (cells xs)) := setCells_touch _ _ _ _
    have HK4 := Lib.hid (K3.touch T4 hgv)
    have HA4 := Lib.hid A4
    have HT4 := Lib.hid T4
    have hc1' : (w3.drew.setCells b.v (k * 96) (cells xs)).cell? ⟨d, 1, none⟩ = some (.slice (some ⟨b.v, 0, none⟩) D.T.length D.T.length) := by have := A4.head.cell 1; rw [DS.turned_T] at this; exact this
    have hr' : (w3.drew.setCells b.v (k * 96) (cells xs)).rangeAt w1.heap.size 1 (cells xs) := blk_range (xs := [.int .i64 (k : Int)]) HK4.out
    have hth' : (w3.drew.setCells b.v (k * 96) (cells xs)).there b.v (k * 96) 96 := World.there_setCells hth _ _ _
    have hS0 := Lib.hid (And.intro hc1 (And.intro hr hth))
    have hS1 := Lib.hid (And.intro hc1' (And.intro hr' hth'))
    have hcl : (cells xs).length = 96 := by rw [cells_length, HL.out]
    have hone := cells_one xs
    have hlt := HK.out
    clear A4 T4 A3 hsp HK3 K3 hr hth hc1 hr' hth' hc1' HT3 hVT hXT
    generalize D.T.length = n at HK hlt hS0 hS1 ⊢
    have hk0 : (0 : Int) ≤ (k : Int) := by omega
    have hk1 : (k : Int) < (n : Int) := by omega
    have hu := Tryz.underlying105
    generalize hcs : cells xs = cs at *
    have hi : (Tryz.prog.info? 105).map (·.size) = some cs.length := by rw [size105, hcl]
    have HCS := Lib.hid hcs
    clear hcs
    generalize w1.heap.size = g at *
    go_region_held3 (fun w' => w'.cell? ⟨d, 1, none⟩ = some (.slice (some ⟨b.v, 0, none⟩) n n) ∧ w'.rangeAt g 1 cs ∧ w'.there b.v (k * 96) 96) (first | exact hS0.out | exact hS1.out) (fail)
    rename_i hHeld
    clear hHeld hS0 hS1 hu hi hcl hone hk0 hk1 hcp
    generalize w3.drew.setCells b.v (k * 96) cs = w4 at *
    have A5 := HA4.out.touch (Touch.refl (fun _ => False) w4).drew (fun _ _ q => q)
    have hXT : Trk xs := ⟨HH.out.byte, HL.out⟩
    have K5 : Blk w4.drew g 107 (lain (k, xs)) := HK4.out
    have hl97 := lain_length (x := (k, xs)) hXT
    have hc2 : w4.drew.cell? ⟨d, 2, none⟩ = some b.afl := A5.head.cell 2
    have hld : (loadVar 107 ⟨g, 0, none⟩).run Tryz.prog w4.drew = .ok (.agg (lain (k, xs)).toArray) w4.drew := run_loadVar_mid _ _ _ _ (lain (k, xs)) _ (blk_range (xs := []) K5) Tryz.underlying107 rfl (by rw [size107, hl97])
    have hbs := buildSlice90 (lain (k, xs)) hl97 w4.drew
    have T5 : Old w4.drew (w4.drew.alloc (.cells (lain (k, xs)).toArray 107)) := (Touch.refl _ _).alloc _
    have A6 := A5.touch T5 (fun _ _ q => q)
    have hc2' : (w4.drew.alloc (.cells (lain (k, xs)).toArray 107)).cell? ⟨d, 2, none⟩ = some b.afl := A6.head.cell 2
    have K6 := Blk.new w4.drew 107 (lain (k, xs))
    obtain ⟨i0, hi0, hz0, hz1, hz2⟩ := info_parts info107
    have hAl : D.turned.A.length ≤ 99999 := by rw [DS.turned_A]; exact Nat.le_trans H.out.ok.long HT.out
    obtain ⟨v7, w7, hap, own7, gr7, _, blk7⟩ := run_append_own_at (P := Tryz.prog) _ 0 90 90 107 i0 _ 97 104 Tryz.underlying90 hi0 hz0 hz1 hz2 noLain_length (by omega) b.afl _ _ A6.own ⟨w4.drew.heap.size, 0, none⟩ 1 1 (lain (k, xs)) (by rw [hl97]) (World.news_of_block K6) (lain_one _) (by simp only [maxLen]; omega) (by omega) (Nat.zero_le _)
    obtain ⟨a7, c7, rfl⟩ := lains_form own7
    have T7 : Touch (fun k => b.afl.ownBlock = some k) _ w7 := Touch.grown gr7 (fun k hk => hk)
    have hnd : ¬ b.afl.ownBlock = some d := own_blk A6.own A6.head (by decide)
    have B7 := A6.head.touch T7 hnd
    have hc7 : w7.cell? ⟨d, 2, none⟩ = some b.afl := B7.cell 2
    have hf7 : w7.frozen? ⟨d, 2, none⟩ = false := B7.frozen 2
    have T8 : Touch (fun k => k = d) w7 (w7.setCell ⟨d, 2, none⟩ (.slice a7 (D.turned.A.length + 1) c7)) := Touch.one ⟨d, 2, none⟩ _
    have hlain : D.lay k xs = { D.turned with A := D.turned.A ++ [(k, xs)] } := by unfold DS.lay; rw [HG.out, DS.turned_A]; rfl
    have own8 := owns_touch own7 T8 (fun k hk e => own_blk own7 B7 (by decide) (by rw [hk, e]))
    have hblk : ∀ q, (Value.slice a7 (D.turned.A.length + 1) c7).ownBlock = some q → foot d b q ∨ w.heap.size ≤ q := fun q hk => by
      rcases blk7 with h | h
      · rw [hk] at h; exact .inl (.inr (.inr (.inr (.inr (.inl h.symm)))))
      · rw [hk] at h
        have h1 := HT1.out.size
        have h2 := HT3'.out.size
        have h3 := HT4.out.size
        have h4 := T5.size
        have h5 : q = (w4.drew.alloc (.cells (lain (k, xs)).toArray 107)).heap.size := by injection h
        have h6 : w4.drew.heap.size = w4.heap.size := rfl
        right; omega
    have HE : Hid (Done d b (D.lay k xs) w (w7.setCell ⟨d, 2, none⟩ (.slice a7 (D.turned.A.length + 1) c7))) := by
      refine ⟨{ b with afl := .slice a7 (D.turned.A.length + 1) c7 }, ⟨H.out.ok.lain HK'.out hXT, ?_⟩, ?_, ?_⟩
      · rw [DS.seen_lay _ _ HG.out, hlain]
        refine ⟨?_, ?_, ?_, A6.sv, ?_, ?_, ?_⟩
        · have := B7.set 2 (.slice a7 (D.turned.A.length + 1) c7)
          rw [head_afl] at this
          exact this
        · exact (A6.set.touch T7 (own_blk A6.own A6.set (by decide))).touch T8 A6.ds.symm
        · exact (A6.see.touch T7 (own_blk A6.own A6.see (by decide))).touch T8 A6.dv.symm
        · exact (A6.flag.touch T7 (own_blk A6.own A6.flag (by decide))).touch T8 A6.df.symm
        · simpa [lains_snoc] using own8
        · refine (A6.well.touch T7 (fun k hk e => ?_)).touch T8 (fun k hk e => well_blk A6.well A6.head (by decide) (by rw [hk, e]))
          rcases A6.well with ⟨_, h⟩ | ⟨g', n', q, _, h, hb⟩
          · rw [h] at hk; cases hk
          · rw [h] at hk; cases hk; exact own_blk A6.own hb (by decide) e
      · have t1 : Touch (foot d b) w w4 := (HT1.out.trans (Touch.of_old HT3'.out)).trans (HT4.out.mono (fun k _ hk => .inr (.inr (.inl hk))))
        exact (((t1.drew).trans (Touch.of_old T5)).trans (T7.mono (fun k _ hk => .inr (.inr (.inr (.inr (.inl hk))))))).trans (T8.mono (fun k _ hk => .inl hk))
      · rintro k (hk | hk | hk | hk | hk | hk)
        · exact .inl (.inl hk)
        · exact .inl (.inr (.inl hk))
        · exact .inl (.inr (.inr (.inl hk)))
        · exact .inl (.inr (.inr (.inr (.inl hk))))
        · exact hblk k hk
        · exact .inl (.inr (.inr (.inr (.inr (.inr hk)))))
    clear A5 K5 hl97 T5 A6 K6 hi0 hz0 hz1 hz2 own7 gr7 blk7 T7 hnd B7 T8 own8 hblk hAl hlain hXT
    have hag65 : ∀ w, (isAgg 90).run Tryz.prog w = .ok false w := fun w => by unfold isAgg; rw [Sem.run_bind, run_underlying Tryz.underlying90 w]; rfl
    have hl1 := load_one hag65 hc2
    have hl2 := load_one hag65 hc2'
    generalize lain (k, xs) = L at *
    generalize D.turned.A.length + 1 = m at *
    clear hc2 hc2' hag65
    have hz65 : (Tryz.prog.info? 90).map (·.size) = some 1 := by kernel_rfl
    go_wp2_with fail
    refine wp_region_any (by kernel_rfl) ?_
    change wpAny _ _ _ _ _ _ _ (World.drew _)
    refine wpAny_take (i := 0) (oi := ⟨some 34, _, _, _, _, _⟩) (v := .pointer (some ⟨d, 0, none⟩)) rfl (by kernel_rfl) (by kernel_rfl) (by kernel_rfl) (fun _ _ _ h => h) (Or.inl ⟨by rfl, fun w => by rfl⟩) ?_
    simp only [Act.put, List.setIfInBounds_toArray, List.set_cons_zero, List.set_cons_succ]
    refine wpAny_take (i := 1) (oi := ⟨some 35, _, _, _, _, _⟩) (v := .pointer (some ⟨d, 0, none⟩)) rfl (by kernel_rfl) (by kernel_rfl) (by kernel_rfl) (fun _ _ _ h => h) (Or.inl ⟨by rfl, fun w => by rfl⟩) ?_
    simp only [Act.put, List.setIfInBounds_toArray, List.set_cons_zero, List.set_cons_succ]
    refine wpAny_take (i := 2) (oi := ⟨some 36, _, _, _, _, _⟩) (v := .pointer (some ⟨d, 0, none⟩)) rfl (by kernel_rfl) (by kernel_rfl) (by kernel_rfl) (fun _ _ _ h => h) (Or.inl ⟨by rfl, fun w => by rfl⟩) ?_
    simp only [Act.put, List.setIfInBounds_toArray, List.set_cons_zero, List.set_cons_succ]
    refine wpAny_take (i := 3) (oi := ⟨some 37, _, _, _, _, _⟩) (v := .pointer (some ⟨d, 2, none⟩)) rfl (by kernel_rfl) (by kernel_rfl) (by kernel_rfl) (fun _ _ _ h => h) (Or.inl ⟨by rfl, fun w => by go_simp⟩) ?_
    simp only [Act.put, List.setIfInBounds_toArray, List.set_cons_zero, List.set_cons_succ]
    refine wpAny_ready (rs := [4, 5]) (by kernel_rfl) (by simp) (AllReady.cons (o := ⟨some 38, _, _, _, _, _⟩) rfl (fun K hK => ?_) (AllReady.cons (o := ⟨some 39, _, _, _, _, _⟩) rfl (fun K hK => ?_) AllReady.nil))
    · refine step_load rfl 90 (.tmp 37) rfl ⟨d, 2, none⟩ rfl _ hl1 (hK _ _ ?_)
      clear hK K
      simp only [Act.put, List.setIfInBounds_toArray, List.set_cons_zero, List.set_cons_succ]
      refine wpAny_ready (rs := [5]) (by kernel_rfl) (by simp) (AllReady.cons (o := ⟨some 39, _, _, _, _, _⟩) rfl (fun K hK => ?_) AllReady.nil)
      refine step_load rfl 107 (.tmp 7) rfl ⟨g, 0, none⟩ rfl _ hld (hK _ _ ?_)
      clear hK K
      simp only [Act.put, List.setIfInBounds_toArray, List.set_cons_zero, List.set_cons_succ]
      refine wpAny_ready (rs := [6]) (by kernel_rfl) (by simp) (AllReady.cons (o := ⟨some 40, _, _, _, _, _⟩) rfl (fun K hK => ?_) AllReady.nil)
      refine step_buildSlice rfl 90 (.tmp 39) rfl (.agg L.toArray) rfl _ _ hbs (hK _ _ ?_)
      clear hK K
      simp only [Act.put, List.setIfInBounds_toArray, List.set_cons_zero, List.set_cons_succ]
      refine wpAny_ready (rs := [7]) (by kernel_rfl) (by simp) (AllReady.cons (o := ⟨some 41, _, _, _, _, _⟩) rfl (fun K hK => ?_) AllReady.nil)
      refine step_append rfl (.tmp 38) (.tmp 40) 90 90 rfl b.afl (.slice (some ⟨w4.drew.heap.size, 0, none⟩) 1 1) rfl rfl _ _ hap (hK _ _ ?_)
      clear hK K
      simp only [Act.put, List.setIfInBounds_toArray, List.set_cons_zero, List.set_cons_succ]
      refine wpAny_take (i := 8) (oi := ⟨some 42, _, _, _, _, _⟩) (v := .pointer (some ⟨d, 0, none⟩)) rfl (by kernel_rfl) (by kernel_rfl) (by kernel_rfl) (fun _ _ _ h => h) (Or.inl ⟨by rfl, fun w => by rfl⟩) ?_
      simp only [Act.put, List.setIfInBounds_toArray, List.set_cons_zero, List.set_cons_succ]
      refine wpAny_take (i := 9) (oi := ⟨some 43, _, _, _, _, _⟩) (v := .pointer (some ⟨d, 2, none⟩)) rfl (by kernel_rfl) (by kernel_rfl) (by kernel_rfl) (fun _ _ _ h => h) (Or.inl ⟨by rfl, fun w => by go_simp⟩) ?_
      simp only [Act.put, List.setIfInBounds_toArray, List.set_cons_zero, List.set_cons_succ]
      refine wpAny_ready (rs := [10]) (by kernel_rfl) (by simp) (AllReady.cons (o := ⟨none, _, _, _, _, _⟩) rfl (fun K hK => ?_) AllReady.nil)
      refine step_store rfl 90 (.tmp 43) (.tmp 41) rfl ⟨d, 2, none⟩ rfl (.slice a7 m c7) rfl _ (store_one hz65 rfl hc7 hf7 rfl) (hK _ _ ?_)
      clear hK K
      refine wpAny_done (by kernel_rfl) ?_ _
      simp only [Act.put, List.setIfInBounds_toArray, List.set_cons_zero, List.set_cons_succ]
      go_wp2_with fail
      go_ret
      exact ⟨by unfold DS.err; rw [HG.out]; rfl, HE.out⟩
    · refine step_load rfl 107 (.tmp 7) rfl ⟨g, 0, none⟩ rfl _ hld (hK _ _ ?_)
      clear hK K
      simp only [Act.put, List.setIfInBounds_toArray, List.set_cons_zero, List.set_cons_succ]
      refine wpAny_ready (rs := [4, 6]) (by kernel_rfl) (by simp) (AllReady.cons (o := ⟨some 38, _, _, _, _, _⟩) rfl (fun K hK => ?_) (AllReady.cons (o := ⟨some 40, _, _, _, _, _⟩) rfl (fun K hK => ?_) AllReady.nil))
      · refine step_load rfl 90 (.tmp 37) rfl ⟨d, 2, none⟩ rfl _ hl1 (hK _ _ ?_)
        clear hK K
        simp only [Act.put, List.setIfInBounds_toArray, List.set_cons_zero, List.set_cons_succ]
        refine wpAny_ready (rs := [6]) (by kernel_rfl) (by simp) (AllReady.cons (o := ⟨some 40, _, _, _, _, _⟩) rfl (fun K hK => ?_) AllReady.nil)
        refine step_buildSlice rfl 90 (.tmp 39) rfl (.agg L.toArray) rfl _ _ hbs (hK _ _ ?_)
        clear hK K
        simp only [Act.put, List.setIfInBounds_toArray, List.set_cons_zero, List.set_cons_succ]
        refine wpAny_ready (rs := [7]) (by kernel_rfl) (by simp) (AllReady.cons (o := ⟨some 41, _, _, _, _, _⟩) rfl (fun K hK => ?_) AllReady.nil)
        refine step_append rfl (.tmp 38) (.tmp 40) 90 90 rfl b.afl (.slice (some ⟨w4.drew.heap.size, 0, none⟩) 1 1) rfl rfl _ _ hap (hK _ _ ?_)
        clear hK K
        simp only [Act.put, List.setIfInBounds_toArray, List.set_cons_zero, List.set_cons_succ]
        refine wpAny_take (i := 8) (oi := ⟨some 42, _, _, _, _, _⟩) (v := .pointer (some ⟨d, 0, none⟩)) rfl (by kernel_rfl) (by kernel_rfl) (by kernel_rfl) (fun _ _ _ h => h) (Or.inl ⟨by rfl, fun w => by rfl⟩) ?_
        simp only [Act.put, List.setIfInBounds_toArray, List.set_cons_zero, List.set_cons_succ]
        refine wpAny_take (i := 9) (oi := ⟨some 43, _, _, _, _, _⟩) (v := .pointer (some ⟨d, 2, none⟩)) rfl (by kernel_rfl) (by kernel_rfl) (by kernel_rfl) (fun _ _ _ h => h) (Or.inl ⟨by rfl, fun w => by go_simp⟩) ?_
        simp only [Act.put, List.setIfInBounds_toArray, List.set_cons_zero, List.set_cons_succ]
        refine wpAny_ready (rs := [10]) (by kernel_rfl) (by simp) (AllReady.cons (o := ⟨none, _, _, _, _, _⟩) rfl (fun K hK => ?_) AllReady.nil)
        refine step_store rfl 90 (.tmp 43) (.tmp 41) rfl ⟨d, 2, none⟩ rfl (.slice a7 m c7) rfl _ (store_one hz65 rfl hc7 hf7 rfl) (hK _ _ ?_)
        clear hK K
        refine wpAny_done (by kernel_rfl) ?_ _
        simp only [Act.put, List.setIfInBounds_toArray, List.set_cons_zero, List.set_cons_succ]
        go_wp2_with fail
        go_ret
        exact ⟨by unfold DS.err; rw [HG.out]; rfl, HE.out⟩
      · refine step_buildSlice rfl 90 (.tmp 39) rfl (.agg L.toArray) rfl _ _ hbs (hK _ _ ?_)
        clear hK K
        simp only [Act.put, List.setIfInBounds_toArray, List.set_cons_zero, List.set_cons_succ]
        refine wpAny_ready (rs := [4]) (by kernel_rfl) (by simp) (AllReady.cons (o := ⟨some 38, _, _, _, _, _⟩) rfl (fun K hK => ?_) AllReady.nil)
        refine step_load rfl 90 (.tmp 37) rfl ⟨d, 2, none⟩ rfl _ hl2 (hK _ _ ?_)
        clear hK K
        simp only [Act.put, List.setIfInBounds_toArray, List.set_cons_zero, List.set_cons_succ]
        refine wpAny_ready (rs := [7]) (by kernel_rfl) (by simp) (AllReady.cons (o := ⟨some 41, _, _, _, _, _⟩) rfl (fun K hK => ?_) AllReady.nil)
        refine step_append rfl (.tmp 38) (.tmp 40) 90 90 rfl b.afl (.slice (some ⟨w4.drew.heap.size, 0, none⟩) 1 1) rfl rfl _ _ hap (hK _ _ ?_)
        clear hK K
        simp only [Act.put, List.setIfInBounds_toArray, List.set_cons_zero, List.set_cons_succ]
        refine wpAny_take (i := 8) (oi := ⟨some 42, _, _, _, _, _⟩) (v := .pointer (some ⟨d, 0, none⟩)) rfl (by kernel_rfl) (by kernel_rfl) (by kernel_rfl) (fun _ _ _ h => h) (Or.inl ⟨by rfl, fun w => by rfl⟩) ?_
        simp only [Act.put, List.setIfInBounds_toArray, List.set_cons_zero, List.set_cons_succ]
        refine wpAny_take (i := 9) (oi := ⟨some 43, _, _, _, _, _⟩) (v := .pointer (some ⟨d, 2, none⟩)) rfl (by kernel_rfl) (by kernel_rfl) (by kernel_rfl) (fun _ _ _ h => h) (Or.inl ⟨by rfl, fun w => by go_simp⟩) ?_
        simp only [Act.put, List.setIfInBounds_toArray, List.set_cons_zero, List.set_cons_succ]
        refine wpAny_ready (rs := [10]) (by kernel_rfl) (by simp) (AllReady.cons (o := ⟨none, _, _, _, _, _⟩) rfl (fun K hK => ?_) AllReady.nil)
        refine step_store rfl 90 (.tmp 43) (.tmp 41) rfl ⟨d, 2, none⟩ rfl (.slice a7 m c7) rfl _ (store_one hz65 rfl hc7 hf7 rfl) (hK _ _ ?_)
        clear hK K
        refine wpAny_done (by kernel_rfl) ?_ _
        simp only [Act.put, List.setIfInBounds_toArray, List.set_cons_zero, List.set_cons_succ]
        go_wp2_with fail
        go_ret
        exact ⟨by unfold DS.err; rw [HG.out]; rfl, HE.out⟩
end Go.Proofs.YtjajenkagcdhlaaGreat
