/- Contracts of count.turn and of the functions that are handed to it. -/
import Derived.Test.YtmgobnbpmjcicaaLeaf
import Derived.Deep.RegionHeld3
namespace Go.Proofs.Ytmgobnbpmjcicaa
open Go.RowKit Go.MuLone

theorem enters22 (args : Array Value) (w : World) : (callFunc 22 args).run Try.prog w = .ok (.enter 22 args) w := run_callFunc_enter Try.func22 (by kernel_rfl) rfl args w
theorem enters24 (args : Array Value) (w : World) : (callFunc 24 args).run Try.prog w = .ok (.enter 24 args) w := run_callFunc_enter Try.func24 (by kernel_rfl) rfl args w
theorem enters26 (args : Array Value) (w : World) : (callFunc 26 args).run Try.prog w = .ok (.enter 26 args) w := run_callFunc_enter Try.func26 (by kernel_rfl) rfl args w
theorem enters27 (args : Array Value) (w : World) : (callFunc 27 args).run Try.prog w = .ok (.enter 27 args) w := run_callFunc_enter Try.func27 (by kernel_rfl) rfl args w

/-- What a function that is handed to turn does: it answers z, and nothing that was there turns. -/
def Tells (z : Int) (w : World) (e : Ending) (w' : World) : Prop := e = .returned (.int .i64 z) ∧ Touch (fun _ => False) w w'

/-- What turn does: it tells both, and the number is z. -/
def Turned (b : Nat) (x z : Int) (y : Option Value) (w : World) (e : Ending) (w' : World) : Prop :=
  e = .returned (.tuple #[.int .i64 x, .int .i64 z]) ∧ Num b z y w' ∧ Touch (fun k => k = b) w w'

theorem turn_one (b : Nat) (k : FuncId) (p : Value) (x z : Int) (y : Option Value) (w : World)
    (hk : ∀ args w, (callFunc k args).run Try.prog w = .ok (.enter k args) w) (K : Num b x y w)
    (h : Calls Try.prog k #[.int .i64 x, p] w (Tells z w)) :
    Calls Try.prog 21 #[.pointer (some ⟨b, 0, none⟩), .func (.func k) #[] #[p]] w (Turned b x z y w) := by
  have H := Lib.hid h
  have HK := Lib.hid K
  clear h K
  go_enter Try.func21, Try.ntmps21
  go_wp2_with fail
  go_loopw [4, 5] (fun a c wx => a = .int .i64 0 ∧ c = .int .i64 0 ∧ wx = w) (fun _ _ _ => 0)
  case atStart => exact ⟨rfl, rfl, rfl⟩
  case round =>
    obtain ⟨rfl, rfl, rfl⟩ := hrel
    go_wp2_with fail
    refine (int_load b x y _ HK.out).mono ?_
    rintro e w' ⟨rfl, rfl⟩
    go_wp2_with fail
    refine H.out.mono ?_
    rintro e w1 ⟨rfl, T1⟩
    have K1 := Lib.hid (HK.out.touch T1 (fun h => h))
    have HT := Lib.hid T1
    clear T1
    by_cases hz : z = x
    · go_wp2_with fail
      go_ret2
      subst hz
      exact ⟨rfl, K1.out, HT.out.mono (fun _ _ h => h.elim)⟩
    · go_wp2_with fail
      refine (int_cas b x z y _ K1.out).mono ?_
      rintro e w' ⟨rfl, rfl⟩
      go_wp2_with fail
      go_ret2
      exact ⟨rfl, K1.out.set z, (HT.out.mono (fun _ _ h => h.elim)).trans ((Touch.refl (fun k => k = b) w1).setCell (p := ⟨b, 0, none⟩) (Or.inl rfl) _)⟩

theorem turn_two (b : Nat) (k : FuncId) (p q : Value) (x z : Int) (y : Option Value) (w : World)
    (hk : ∀ args w, (callFunc k args).run Try.prog w = .ok (.enter k args) w) (K : Num b x y w)
    (h : Calls Try.prog k #[.int .i64 x, p, q] w (Tells z w)) :
    Calls Try.prog 21 #[.pointer (some ⟨b, 0, none⟩), .func (.func k) #[] #[p, q]] w (Turned b x z y w) := by
  have H := Lib.hid h
  have HK := Lib.hid K
  clear h K
  go_enter Try.func21, Try.ntmps21
  go_wp2_with fail
  go_loopw [4, 5] (fun a c wx => a = .int .i64 0 ∧ c = .int .i64 0 ∧ wx = w) (fun _ _ _ => 0)
  case atStart => exact ⟨rfl, rfl, rfl⟩
  case round =>
    obtain ⟨rfl, rfl, rfl⟩ := hrel
    go_wp2_with fail
    refine (int_load b x y _ HK.out).mono ?_
    rintro e w' ⟨rfl, rfl⟩
    go_wp2_with fail
    refine H.out.mono ?_
    rintro e w1 ⟨rfl, T1⟩
    have K1 := Lib.hid (HK.out.touch T1 (fun h => h))
    have HT := Lib.hid T1
    clear T1
    by_cases hz : z = x
    · go_wp2_with fail
      go_ret2
      subst hz
      exact ⟨rfl, K1.out, HT.out.mono (fun _ _ h => h.elim)⟩
    · go_wp2_with fail
      refine (int_cas b x z y _ K1.out).mono ?_
      rintro e w' ⟨rfl, rfl⟩
      go_wp2_with fail
      go_ret2
      exact ⟨rfl, K1.out.set z, (HT.out.mono (fun _ _ h => h.elim)).trans ((Touch.refl (fun k => k = b) w1).setCell (p := ⟨b, 0, none⟩) (Or.inl rfl) _)⟩

/-- The function that Add hands over. -/
theorem add_fn (c : Nat) (x n : Int) (h0 : 0 ≤ x) (h1 : x ≤ 4611686018427387904) (w : World) (V : Var c (.int .i64 n) w) :
    Calls Try.prog 22 #[.int .i64 x, .pointer (some ⟨c, 0, none⟩)] w (Tells (x + min (max n 0) (4611686018427387904 - x)) w) := by
  have hc := V.c
  clear V
  have H0 := Lib.hid h0
  have H1 := Lib.hid h1
  clear h0 h1
  go_enter Try.func22, Try.ntmps22
  go_wp2_with fail
  refine (raised_any x n 4611686018427387904 H0.out H1.out (by omega) _).mono ?_
  rintro e w' ⟨rfl, rfl⟩
  go_wp2_with fail
  go_ret
  exact ⟨rfl, Touch.refl _ _⟩

/-- The function that Note hands over. -/
theorem note_fn (c : Nat) (x n : Int) (w : World) (V : Var c (.int .i64 n) w) :
    Calls Try.prog 24 #[.int .i64 x, .pointer (some ⟨c, 0, none⟩)] w (Tells (max x n) w) := by
  have hc := V.c
  clear V
  go_enter Try.func24, Try.ntmps24
  go_wp2_with fail
  go_ret
  exact ⟨rfl, Touch.refl _ _⟩

/-- The function that Take hands over. -/
theorem take_fn (c : Nat) (x n : Int) (h0 : 0 ≤ x) (h1 : x ≤ 4611686018427387904) (hn : 0 ≤ n) (w : World) (V : Var c (.int .i64 n) w) :
    Calls Try.prog 26 #[.int .i64 x, .pointer (some ⟨c, 0, none⟩)] w (Tells (if n ≤ x then x - n else x) w) := by
  have hc := V.c
  clear V
  by_cases h : n ≤ x
  · have hs : IntKind.i64.wrap (x - n) = x - n := wrap_fits ⟨by omega, by omega⟩
    rw [if_pos h]
    go_enter Try.func26, Try.ntmps26
    go_wp2_with fail
    go_ret
    exact ⟨rfl, Touch.refl _ _⟩
  · rw [if_neg h]
    go_enter Try.func26, Try.ntmps26
    go_wp2_with fail
    go_ret
    exact ⟨rfl, Touch.refl _ _⟩

/-- The function that Give hands over. -/
theorem give_fn (b c d : Nat) (x n m : Int) (h0 : 0 ≤ x) (h1 : x ≤ m) (h2 : m ≤ 4611686018427387904) (w : World) (V : Var c (.int .i64 n) w) (U : Var d (.pointer (some ⟨b, 0, none⟩)) w) (K : Num b x (some (.int .i64 m)) w) :
    Calls Try.prog 27 #[.int .i64 x, .pointer (some ⟨c, 0, none⟩), .pointer (some ⟨d, 0, none⟩)] w (Tells (x + min (max n 0) (m - x)) w) := by
  have hc := V.c
  have hd := U.c
  have hm := K.d
  have H0 := Lib.hid h0
  have H1 := Lib.hid h1
  have H2 := Lib.hid h2
  clear V U K h0 h1 h2
  have hT := Lib.hid ((Touch.refl (fun _ => False) w).drew)
  go_enter Try.func27, Try.ntmps27
  go_wp2_with fail
  go_region_held3 (fun w' => w'.cell? ⟨c, 0, none⟩ = some (.int .i64 n) ∧ w'.cell? ⟨d, 0, none⟩ = some (.pointer (some ⟨b, 0, none⟩)) ∧ w'.cell? ⟨b, 1, none⟩ = some (.int .i64 m)) (first | exact ⟨hc, hd, hm⟩)
    (first | (go_at_call 23; refine (raised_any x n m H0.out H1.out H2.out _).mono ?_; rintro e w7 ⟨rfl, rfl⟩))
  go_wp2_with fail
  go_ret
  exact ⟨rfl, hT.out⟩
end Go.Proofs.Ytmgobnbpmjcicaa
