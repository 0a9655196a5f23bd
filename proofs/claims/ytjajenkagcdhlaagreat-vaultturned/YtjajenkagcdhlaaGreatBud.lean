/- Contracts of a budget's Take, Give and Left, of a drum's Turns, and of the vault's small functions. -/
import Derived.Test.YtjajenkagcdhlaaGreatJZ
import Derived.Test.YtjajenkagcdhlaaGreatJS
namespace Go.Proofs.YtjajenkagcdhlaaGreat
open Go.RowKit Go.MuLone
set_option maxRecDepth 100000

theorem Touch.drewN {S : Nat → Prop} {a w : World} (h : Touch S a w) (n : Nat) : Touch S a (w.drewN n) := ⟨h.os, h.tape, h.output, h.size, h.block⟩

theorem enters66 (args : Array Value) (w : World) : (callFunc 66 args).run Tryz.prog w = .ok (.enter 66 args) w := run_callFunc_enter Tryz.func66 (by kernel_rfl) rfl args w

theorem turn_two (b o : Nat) (t : TypeId) (cs : List Value) (k : FuncId) (p q : Value) (x z : Int) (w : World)
    (hk : ∀ args w, (callFunc k args).run Tryz.prog w = .ok (.enter k args) w) (K : Blk w b t cs) (hx : cs[o]? = some (.int .i64 x))
    (h : Calls Tryz.prog k #[.int .i64 x, p, q] w (Tells z w)) :
    Calls Tryz.prog 65 #[.pointer (some ⟨b, o, none⟩), .func (.func k) #[] #[p, q]] w (Turned b o t cs x z w) := by
  have H := Lib.hid h
  have HK := Lib.hid K
  have Hx := Lib.hid hx
  clear h K hx
  go_enter Tryz.func65, Tryz.ntmps65
  go_wp2_with fail
  go_loopw [4, 5] (fun a c wx => a = .int .i64 0 ∧ c = .int .i64 0 ∧ wx = w) (fun _ _ _ => 0)
  case atStart => exact ⟨rfl, rfl, rfl⟩
  case round =>
    obtain ⟨rfl, rfl, rfl⟩ := hrel
    go_wp2_with fail
    refine (int_load b o x _ ((HK.out.cell o).trans Hx.out)).mono ?_
    rintro e w' ⟨rfl, rfl⟩
    go_wp2_with fail
    refine H.out.mono ?_
    rintro e w1 ⟨rfl, T1⟩
    have K1 := Lib.hid (HK.out.touch T1 (fun h => h))
    have HT := Lib.hid T1
    clear T1
    by_cases hz : z = x
    · go_wp2_with fail
      go_ret2
      subst hz
      exact ⟨rfl, by rw [set_same Hx.out]; exact K1.out, Touch.of_old HT.out⟩
    · go_wp2_with fail
      refine (int_cas b o x z _ ((K1.out.cell o).trans Hx.out) (K1.out.frozen o)).mono ?_
      rintro e w' ⟨rfl, rfl⟩
      go_wp2_with fail
      go_ret2
      exact ⟨rfl, K1.out.set o _, (Touch.of_old HT.out).trans (Touch.one ⟨b, o, none⟩ _)⟩

/-- A budget: n are left, of m. -/
def bud (n m : Nat) : List Value := [.int .i64 (n : Int), .int .i64 (m : Int)]
theorem bud_set (n m k : Nat) : (bud n m).set 0 (.int .i64 (k : Int)) = bud k m := rfl

theorem left_any (b n m : Nat) (w : World) (K : Blk w b 120 (bud n m)) : Calls Tryz.prog 61 #[.pointer (some ⟨b, 0, none⟩)] w fun e w' => e = .returned (.int .i64 (n : Int)) ∧ w = w' := by
  have HK := Lib.hid K
  clear K
  go_enter Tryz.func61, Tryz.ntmps61
  go_wp2_with fail
  refine (int_load b 0 (n : Int) _ (HK.out.cell 0)).mono ?_
  rintro e w' ⟨rfl, rfl⟩
  go_wp2_with fail
  go_ret
  exact ⟨rfl, rfl⟩

theorem btake_yes (b n m k : Nat) (hk : k ≤ n) (hn : n ≤ 1000000) (w : World) (K : Blk w b 120 (bud n m)) :
    Calls Tryz.prog 54 #[.pointer (some ⟨b, 0, none⟩), .int .i64 (k : Int)] w fun e w' => e = .returned (.bool true) ∧ Blk w' b 120 (bud (n - k) m) ∧ Touch (fun i => i = b) w w' := by
  have hm := make_func
  have T1 : Old w (w.alloc (.cells #[.int .i64 (k : Int)] 2)) := (Touch.refl _ _).alloc _
  have K1 := Lib.hid (K.touch T1 (fun h => h))
  have V1 := Lib.hid (Var.new w (.int .i64 (k : Int)) 2)
  have hf : Hid (Calls Tryz.prog 82 #[.int .i64 (n : Int), .pointer (some ⟨w.heap.size, 0, none⟩)] (w.alloc (.cells #[.int .i64 (k : Int)] 2)) (Tells ((n - k : Nat) : Int) (w.alloc (.cells #[.int .i64 (k : Int)] 2)))) := by
    have := take_fn w.heap.size (n : Int) (k : Int) (by omega) (by omega) (by omega) _ V1.out
    rw [if_pos (by omega)] at this
    rwa [show (n : Int) - (k : Int) = ((n - k : Nat) : Int) by omega] at this
  have HT := Lib.hid (Touch.of_old (S := fun k => k = b) T1)
  have hlt := Lib.hid K.lt
  have hw : IntKind.i64.wrap ((n : Int) - ((n - k : Nat) : Int)) = (k : Int) := by rw [show (n : Int) - ((n - k : Nat) : Int) = (k : Int) from by omega]; exact wrap_fits ⟨by omega, by omega⟩
  have hneg : ¬ (k : Int) < 0 := by omega
  have Hset := Lib.hid (bud_set n m (n - k))
  clear K T1 hk hn
  generalize n - k = z at *
  go_enter Tryz.func54, Tryz.ntmps54
  go_wp2_with fail
  refine (turn_one b 0 120 (bud n m) 82 _ (n : Int) (z : Int) _ enters82 K1.out rfl hf.out).mono ?_
  rintro e w' ⟨rfl, K2, T2⟩
  have hc := (V1.out.touch T2 (by have := hlt.out; omega)).c
  rw [Hset.out] at K2
  have K3 := Lib.hid K2
  have T3 := Lib.hid (HT.out.trans T2)
  clear K2 T2
  go_wp2_with fail
  go_ret
  exact ⟨rfl, K3.out, T3.out⟩

theorem btake_no (b n m k : Nat) (hk : n < k) (hn : k ≤ 1000000) (w : World) (K : Blk w b 120 (bud n m)) :
    Calls Tryz.prog 54 #[.pointer (some ⟨b, 0, none⟩), .int .i64 (k : Int)] w fun e w' => e = .returned (.bool false) ∧ Blk w' b 120 (bud n m) ∧ Touch (fun i => i = b) w w' := by
  have hm := make_func
  have T1 : Old w (w.alloc (.cells #[.int .i64 (k : Int)] 2)) := (Touch.refl _ _).alloc _
  have K1 := Lib.hid (K.touch T1 (fun h => h))
  have V1 := Lib.hid (Var.new w (.int .i64 (k : Int)) 2)
  have hf : Hid (Calls Tryz.prog 82 #[.int .i64 (n : Int), .pointer (some ⟨w.heap.size, 0, none⟩)] (w.alloc (.cells #[.int .i64 (k : Int)] 2)) (Tells (n : Int) (w.alloc (.cells #[.int .i64 (k : Int)] 2)))) := by
    have := take_fn w.heap.size (n : Int) (k : Int) (by omega) (by omega) (by omega) _ V1.out
    rwa [if_neg (by omega)] at this
  have HT := Lib.hid (Touch.of_old (S := fun k => k = b) T1)
  have hlt := Lib.hid K.lt
  have hw : IntKind.i64.wrap ((n : Int) - (n : Int)) = 0 := by rw [show (n : Int) - (n : Int) = 0 from by omega]; exact wrap_fits ⟨by omega, by omega⟩
  have hneg : ¬ (k : Int) < 0 := by omega
  have hz : ((0 : Int) == (k : Int)) = false := by simp only [beq_eq_false_iff_ne]; omega
  have Hset := Lib.hid (bud_set n m n)
  clear K T1 hk hn
  go_enter Tryz.func54, Tryz.ntmps54
  go_wp2_with fail
  refine (turn_one b 0 120 (bud n m) 82 _ (n : Int) (n : Int) _ enters82 K1.out rfl hf.out).mono ?_
  rintro e w' ⟨rfl, K2, T2⟩
  have hc := (V1.out.touch T2 (by have := hlt.out; omega)).c
  rw [Hset.out] at K2
  have K3 := Lib.hid K2
  have T3 := Lib.hid (HT.out.trans T2)
  clear K2 T2
  go_wp2_with fail
  go_ret
  exact ⟨rfl, K3.out, T3.out⟩

theorem give_fn (p q b n m k : Nat) (hk : n + k ≤ m) (hm : m ≤ 1000000) (w : World) (V : Var p (.int .i64 (k : Int)) w) (U : Var q (.pointer (some ⟨b, 0, none⟩)) w) (K : Blk w b 120 (bud n m)) :
    Calls Tryz.prog 66 #[.int .i64 (n : Int), .pointer (some ⟨p, 0, none⟩), .pointer (some ⟨q, 0, none⟩)] w (Tells ((n + k : Nat) : Int) w) := by
  have hS : Hid (w.drew.cell? ⟨p, 0, none⟩ = some (.int .i64 (k : Int)) ∧ w.drew.cell? ⟨q, 0, none⟩ = some (.pointer (some ⟨b, 0, none⟩)) ∧ w.drew.cell? ⟨b, 1, none⟩ = some (.int .i64 (m : Int))) := ⟨V.c, U.c, K.cell 1⟩
  have HO : Hid (Old w w.drew) := (Touch.refl _ w).drew
  have HR := Lib.hid (raised_any (n : Int) (k : Int) (m : Int) (by omega) (by omega) (by omega))
  have he : (n : Int) + min (max (k : Int) 0) ((m : Int) - (n : Int)) = ((n + k : Nat) : Int) := by omega
  rw [he] at HR
  clear V U K hk hm he
  go_enter Tryz.func66, Tryz.ntmps66
  go_wp2_with fail
  go_region_held3 (fun w' => w'.cell? ⟨p, 0, none⟩ = some (.int .i64 (k : Int)) ∧ w'.cell? ⟨q, 0, none⟩ = some (.pointer (some ⟨b, 0, none⟩)) ∧ w'.cell? ⟨b, 1, none⟩ = some (.int .i64 (m : Int))) (exact hS.out) (first | (go_at_call 67; with_reducible refine (HR.out _).mono ?_; rintro e w' ⟨rfl, rfl⟩))
  go_wp2_with fail
  go_ret
  exact ⟨rfl, HO.out⟩

theorem bgive_any (b n m k : Nat) (hk : n + k ≤ m) (hm : m ≤ 1000000) (w : World) (K : Blk w b 120 (bud n m)) :
    Calls Tryz.prog 39 #[.pointer (some ⟨b, 0, none⟩), .int .i64 (k : Int)] w fun e w' => e = .returned (.tuple #[]) ∧ Blk w' b 120 (bud (n + k) m) ∧ Touch (fun i => i = b) w w' := by
  have hmk := make_func
  have T1 : Old w (w.alloc (.cells #[.pointer (some ⟨b, 0, none⟩)] 72)) := (Touch.refl _ _).alloc _
  have T2 : Old w ((w.alloc (.cells #[.pointer (some ⟨b, 0, none⟩)] 72)).alloc (.cells #[.int .i64 (k : Int)] 3)) := T1.alloc _
  have K1 := Lib.hid (K.touch T2 (fun h => h))
  have U1 := (Var.new w (.pointer (some ⟨b, 0, none⟩)) 72).alloc (.cells #[.int .i64 (k : Int)] 3)
  have V1 := Var.new (w.alloc (.cells #[.pointer (some ⟨b, 0, none⟩)] 72)) (.int .i64 (k : Int)) 3
  rw [World.size_alloc] at V1
  have hd := U1.c
  have HG := Lib.hid (give_fn _ _ b n m k hk hm _ V1 U1 K1.out)
  have HT := Lib.hid (Touch.of_old (S := fun k => k = b) T2)
  have Hset := Lib.hid (bud_set n m (n + k))
  clear K T1 T2 hk hm U1 V1
  generalize n + k = z at *
  go_enter Tryz.func39, Tryz.ntmps39
  go_wp2_with fail
  refine (turn_two b 0 120 (bud n m) 66 _ _ (n : Int) (z : Int) _ enters66 K1.out rfl HG.out).mono ?_
  rintro e w' ⟨rfl, K2, T2⟩
  rw [Hset.out] at K2
  have K3 := Lib.hid K2
  have T3 := Lib.hid (HT.out.trans T2)
  clear K2 T2
  go_wp2_with fail
  go_end0
  exact ⟨rfl, K3.out, T3.out⟩

theorem turns_any (d : Nat) (b : Bl) (D : DS) (V : List (List Nat)) (w : World) (h : At d b D V w) : Calls Tryz.prog 35 #[.pointer (some ⟨d, 0, none⟩)] w fun e w' => e = .returned (.int .i64 (D.turns : Int)) ∧ w = w' := by
  have Hc : Hid (w.cell? ⟨d, 3, none⟩ = some (.int .i64 (D.turns : Int))) := h.head.cell 3
  have HL : Hid (Calls Tryz.prog 62 #[.pointer (some ⟨d, 3, none⟩)] w fun e w' => e = .returned (.int .i64 (D.turns : Int)) ∧ w = w') := by
    clear h
    show Calls _ _ _ _ _
    go_enter Tryz.func62, Tryz.ntmps62
    go_wp2_with fail
    refine (int_load d 3 (D.turns : Int) _ Hc.out).mono ?_
    rintro e w' ⟨rfl, rfl⟩
    go_wp2_with fail
    go_ret
    exact ⟨rfl, rfl⟩
  clear h Hc
  go_enter Tryz.func35, Tryz.ntmps35
  go_wp2_with fail
  refine HL.out.mono ?_
  rintro e w' ⟨rfl, rfl⟩
  go_wp2_with fail
  go_ret
  exact ⟨rfl, rfl⟩

/-- May a record have this number? -/
def isId (n : Int) : Bool := decide (1 ≤ n ∧ n ≤ 40)
theorem isID_any (n : Int) (w : World) : Calls Tryz.prog 38 #[.int .i64 n] w fun e w' => e = .returned (.bool (isId n)) ∧ w = w' := by
  by_cases h1 : 1 ≤ n
  · by_cases h2 : n ≤ 40
    · have e : isId n = true := by unfold isId; exact decide_eq_true ⟨h1, h2⟩
      rw [e]
      clear e
      go_enter Tryz.func38, Tryz.ntmps38
      go_wp2
      go_ret
      exact ⟨rfl, rfl⟩
    · have e : isId n = false := by unfold isId; exact decide_eq_false (fun q => h2 q.2)
      rw [e]
      clear e
      go_enter Tryz.func38, Tryz.ntmps38
      go_wp2
      go_ret
      exact ⟨rfl, rfl⟩
  · have e : isId n = false := by unfold isId; exact decide_eq_false (fun q => h1 q.1)
    rw [e]
    clear e
    go_enter Tryz.func38, Tryz.ntmps38
    go_wp2
    go_ret
    exact ⟨rfl, rfl⟩

theorem takes_any (n : Nat) (hn : n ≤ 1000000) (w : World) : Calls Tryz.prog 33 #[.int .i64 (n : Int)] w fun e w' => e = .returned (.int .i64 (takesN n : Int)) ∧ w = w' := by
  have e1 : (n : Int).tdiv 80 = (n : Int) / 80 := Int.tdiv_eq_ediv_of_nonneg (by omega)
  have e2 : (n : Int).tmod 80 = (n : Int) % 80 := Int.tmod_eq_emod_of_nonneg (by omega)
  have hneg : ¬ (n : Int) < 0 := by omega
  by_cases h : 0 < (n : Int) % 80
  · have hw : IntKind.i64.wrap ((n : Int) / 80 + 1) = (n : Int) / 80 + 1 := wrap_fits ⟨by omega, by omega⟩
    have e3 : max ((n : Int) / 80 + 1) 1 = (takesN n : Int) := by unfold takesN; omega
    go_enter Tryz.func33, Tryz.ntmps33
    go_wp2
    go_ret
    exact ⟨rfl, rfl⟩
  · have e3 : max ((n : Int) / 80) 1 = (takesN n : Int) := by unfold takesN; omega
    go_enter Tryz.func33, Tryz.ntmps33
    go_wp2
    go_ret
    exact ⟨rfl, rfl⟩
theorem takes_neg (n : Int) (hn : n < 0) (w : World) : Calls Tryz.prog 33 #[.int .i64 n] w fun e w' => e = .returned (.int .i64 0) ∧ w = w' := by
  go_enter Tryz.func33, Tryz.ntmps33
  go_wp2
  go_ret
  exact ⟨rfl, rfl⟩

/-- A record's takes. -/
theorem rtakes_none (v : Value) (w : World) : Calls Tryz.prog 40 #[.agg #[.bool false, v]] w fun e w' => e = .returned (.int .i64 0) ∧ Old w w' := by
  have T1 : Hid (Old w (w.alloc (.cells #[.bool false, v] 66))) := (Touch.refl _ w).alloc _
  go_enter Tryz.func40, Tryz.ntmps40
  go_wp2_with fail
  go_ret
  exact ⟨rfl, T1.out⟩
theorem rtakes_some (a : Option Addr) (n c : Nat) (hn : n ≤ 1000000) (w : World) : Calls Tryz.prog 40 #[.agg #[.bool true, .slice a n c]] w fun e w' => e = .returned (.int .i64 (takesN n : Int)) ∧ Old w w' := by
  have T1 : Hid (Old w (w.alloc (.cells #[.bool true, .slice a n c] 66))) := (Touch.refl _ w).alloc _
  have HN := Lib.hid hn
  clear hn
  go_enter Tryz.func40, Tryz.ntmps40
  go_wp2_with fail
  refine (takes_any n HN.out _).mono ?_
  rintro e w' ⟨rfl, rfl⟩
  go_wp2_with fail
  go_ret
  exact ⟨rfl, T1.out⟩
theorem rtakes_any (r : Rec) (a : Option Addr) (c : Nat) (hn : (bytesOf r).length ≤ 1000000) (w : World) : Calls Tryz.prog 40 #[.agg #[.bool r.isSome, .slice a (bytesOf r).length c]] w fun e w' => e = .returned (.int .i64 (takesR r : Int)) ∧ Old w w' := by
  cases r with
  | none => exact rtakes_none _ w
  | some b => exact rtakes_some a b.length c hn w

theorem first_any (a : Option Addr) (ks : List Nat) (len cap : Nat) (w : World) (h : HasI w a (ks.map fun (x : Nat) => (x : Int))) (hl : ks.length = len) : Calls Tryz.prog 93 #[.slice a len cap] w fun e w' => e = .returned (.int .i64 (firstOf ks : Int)) ∧ w = w' := by
  cases ks with
  | nil =>
    obtain rfl : 0 = len := hl
    go_enter Tryz.func93, Tryz.ntmps93
    go_wp2
    go_ret
    exact ⟨rfl, rfl⟩
  | cons k ks =>
    obtain ⟨b, off, rfl, hc⟩ := h.cell 0 (by simp)
    have hc : w.cell? ⟨b, off + 0, none⟩ = some (.int .i64 (k : Int)) := hc
    rw [Nat.add_zero] at hc
    have h0 : ((len : Int) == 0) = false := by simp at hl; simp only [beq_eq_false_iff_ne]; omega
    have h1 : (0 : Int) < (len : Int) := by simp at hl; omega
    clear h hl
    go_enter Tryz.func93, Tryz.ntmps93
    go_wp2
    go_ret
    exact ⟨rfl, rfl⟩

theorem vclosed_any (a : Option Addr) (xs : List Nat) (len cap : Nat) (w : World) (h : Has w a xs) (hlen : xs.length = len) (hl : len ≤ 84) : Calls Tryz.prog 94 #[.slice a len cap] w (Row96 (track xs) w) := by
  have HC := Lib.hid (close_any a xs len cap w h hlen hl)
  clear h hlen hl
  go_enter Tryz.func94, Tryz.ntmps94
  go_wp2_with fail
  refine HC.out.mono ?_
  rintro e w' ⟨rfl, O, T⟩
  have HO : Hid (Row96 (track xs) w (.returned (.slice (some ⟨w.heap.size, 0, none⟩) 96 96)) w') := ⟨_, rfl, Nat.le_refl _, O, T⟩
  clear O T HC
  go_wp2_with fail
  go_ret
  exact HO.out

theorem vput_any (w : World) (B : Nat) (v : Value) (xs : List Nat) (n : Nat) (h : Mine w B v xs) (hB : B ≤ w.heap.size) (hn : n < 65536) (hl : xs.length ≤ 1000000) :
    Calls Tryz.prog 92 #[v, .int .i64 (n : Int)] w fun e w' => ∃ v', e = .returned v' ∧ Put w B v (xs ++ high n 2) v' w' := by
  have hh : high n 2 = [n / 256, n % 256] := by
    simp only [high, Nat.pow_one, Nat.pow_zero, Nat.div_one]
    rw [Nat.mod_eq_of_lt (a := n / 256) (by omega)]
  have e1 : ((n : Int) / 256) = ((n / 256 : Nat) : Int) := by omega
  have e2 : ((n / 256 : Nat) : Int) % 256 = ((n / 256 : Nat) : Int) := by omega
  have e3 : ((n : Int) % 256) = ((n % 256 : Nat) : Int) := by omega
  have hby := high_byte n 2
  rw [hh] at hby ⊢
  clear hh hn
  generalize n / 256 = p at *
  generalize n % 256 = q at *
  have T1 : Old w (w.alloc (.cells #[.int .u8 (p : Int), .int .u8 (q : Int)] 5)) := (Touch.refl _ w).alloc _
  have K1 : Blk (w.alloc (.cells #[.int .u8 (p : Int), .int .u8 (q : Int)] 5)) w.heap.size 5 (cells [p, q]) := Blk.new w 5 [.int .u8 (p : Int), .int .u8 (q : Int)]
  obtain ⟨v', w', hap, P⟩ := mine_append _ B v xs [p, q] (some ⟨w.heap.size, 0, none⟩) 2 2 (h.old T1) (Nat.le_trans hB T1.size) (blk_has hby K1) rfl (by omega)
  have HP : Hid (Put w B v (xs ++ [p, q]) v' w') := ⟨P.mine, (Touch.of_old T1).trans P.touch, fun k hk => by
    rcases P.same k hk with q | q
    · exact .inl q
    · exact .inr (Nat.le_trans T1.size q)⟩
  obtain ⟨a, c, rfl, _, _⟩ := h.form
  clear h K1 T1 P hby
  go_enter Tryz.func92, Tryz.ntmps92
  go_wp2_with (first | (at_builtin; refine wpList_append_run rfl _ _ 30 30 rfl _ _ rfl rfl _ _ (hap _) ?_))
  go_ret
  exact ⟨_, rfl, HP.out⟩

theorem vnumber_any (b off : Nat) (xs : List Nat) (len cap : Nat) (w : World) (h : Has w (some ⟨b, off, none⟩) xs) (hl : xs.length = len) (h2 : 2 ≤ len) : Calls Tryz.prog 80 #[.slice (some ⟨b, off, none⟩) len cap] w fun e w' => e = .returned (.int .i64 (num xs 2 : Int)) ∧ Old w w' := by
  obtain ⟨b0, o0, e0, h0⟩ := h.cell 0 (by omega)
  obtain ⟨b1, o1, e1, h1⟩ := h.cell 1 (by omega)
  cases e0
  cases e1
  rw [Nat.add_zero] at h0
  have hn : num xs 2 = at0 xs 0 * 256 + at0 xs 1 := by simp [num]
  have q0 := at0_lt h.byte 0
  have q1 := at0_lt h.byte 1
  have hj := or_join64 (at0 xs 0) (at0 xs 1) (by omega) q1
  rw [hn]
  have i1 : (1 : Int) < (len : Int) := by omega
  have i0 : (0 : Int) < (len : Int) := by omega
  have hw : IntKind.i64.wrap ((at0 xs 0 : Int) * 256) = (at0 xs 0 : Int) * 256 := wrap_fits ⟨by omega, by omega⟩
  have HO : Hid (∀ n, Old w (w.drewN n)) := fun n => (Touch.refl _ w).drewN n
  have h0' : w.drew.cell? ⟨b, off, none⟩ = some (.int .u8 (at0 xs 0 : Int)) := h0
  have h1' : w.drew.cell? ⟨b, off + 1, none⟩ = some (.int .u8 (at0 xs 1 : Int)) := h1
  clear h hl hn h2
  generalize at0 xs 0 = p at *
  generalize at0 xs 1 = q at *
  go_enter Tryz.func80, Tryz.ntmps80
  go_wp2_with fail
  go_quiet (fail)
  go_wp2_with fail
  go_ret
  exact ⟨rfl, HO.out _⟩
end Go.Proofs.YtjajenkagcdhlaaGreat
