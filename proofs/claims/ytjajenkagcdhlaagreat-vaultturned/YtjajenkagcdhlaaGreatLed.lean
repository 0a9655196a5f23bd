/- A ledger as plain lists: covers, leaves, postings; what each call makes of a drum. -/
import Derived.Test.YtjajenkagcdhlaaGreatSeal
namespace Go.Proofs.YtjajenkagcdhlaaGreat
open Go.RowKit
set_option maxRecDepth 100000

/-- A number in so many bytes, the highest first. -/
def high (n : Nat) : Nat → List Nat
  | 0 => []
  | k + 1 => n / 256 ^ k % 256 :: high n k
theorem high_length (n : Nat) : ∀ k, (high n k).length = k
  | 0 => rfl
  | k + 1 => by rw [high, List.length_cons, high_length n k]
theorem high_byte (n : Nat) : ∀ k, ∀ x ∈ high n k, x < 256
  | 0, x, h => by cases h
  | k + 1, x, h => by
    rcases List.mem_cons.1 h with rfl | h
    · exact Nat.mod_lt _ (by decide)
    · exact high_byte n k x h
theorem high_step (n : Nat) : ∀ (s t : Nat), t < s → (high n s).take (t + 1) = (high n s).take t ++ [n / 256 ^ (s - 1 - t) % 256]
  | 0, t, h => absurd h (Nat.not_lt_zero _)
  | s + 1, 0, _ => by simp [high]
  | s + 1, t + 1, h => by
    have ih := high_step n s t (by omega)
    rw [high, List.take_succ_cons, ih, List.take_succ_cons, List.cons_append, show s + 1 - 1 - (t + 1) = s - 1 - t by omega]

/-- How many leaves so many home tracks take. -/
def leavesOf (n : Nat) : Nat := if n = 0 then 0 else (2 + n * 98 + 63) / 64

/-- An entry: a home track's number, its bytes. -/
abbrev Ent := Nat × List Nat

/-- The cover of a round. -/
def coverText (r l : Nat) : List Nat := high r 4 ++ (high l 2 ++ (zeros 74 ++ high r 4))
def cover (r l : Nat) : List Nat := track (coverText r l)
def entText (x : Ent) : List Nat := high x.1 2 ++ x.2
def etext (e : List Ent) : List Nat := high e.length 2 ++ (e.map entText).flatten
def ptext (e : List Ent) : List Nat := etext e ++ zeros (leavesOf e.length * 64 - (etext e).length)
def leafText (r n k m : Nat) (p : List Nat) : List Nat := high r 4 ++ (high n 4 ++ (high k 2 ++ (high m 2 ++ (p ++ (high n 4 ++ high r 4)))))
def leaf (r n : Nat) (e : List Ent) (k : Nat) : List Nat := track (leafText r n k (leavesOf e.length) (((ptext e).drop (k * 64)).take 64))
/-- The leaves of a posting. -/
def posting (r n : Nat) (e : List Ent) : List (List Nat) := (List.range (leavesOf e.length)).map (leaf r n e)

/-- May these be written, with so many home tracks? -/
def Goes (e : List Ent) (home : Nat) : Prop := (∀ x ∈ e, x.1 < home ∧ x.2.length = 96) ∧ (e.map (·.1)).Nodup ∧ 0 < e.length
instance (e : List Ent) (home : Nat) : Decidable (Goes e home) := by unfold Goes; infer_instance

def fits (l n : Nat) : Bool := decide (5 ≤ l ∧ l + 4 ≤ n)
/-- The cover on a track: its round, its leaves. -/
def readC (b : List Nat) (k n : Nat) : Bool := decide (0 < num b 4) && (decide (num b 4 % 2 = k) && (fits (num (b.drop 4) 2) n && decide (b = cover (num b 4) (num (b.drop 4) 2))))
def roundC (b : List Nat) : Nat := num b 4
def leavesC (b : List Nat) : Nat := num (b.drop 4) 2

/-- What stands on leaves as entries, if so many are there. -/
def pieces (ps : List (List Nat)) : List Nat := (ps.map fun b => (b.drop 12).take 64).flatten
def entAt (text : List Nat) (k : Nat) : Ent := (num ((text.drop (2 + k * 98)).take 2) 2, (text.drop (2 + k * 98 + 2)).take 96)
def countOf (b : List Nat) : Nat := num ((b.drop 12).take 2) 2
def entsOf (ps : List (List Nat)) (c : Nat) : List Ent := (List.range c).map (entAt (pieces (ps.take (leavesOf c))))
/-- The posting that stands at the beginning of leaves. -/
def readP (ps : List (List Nat)) (r n home : Nat) : Option (List Ent) :=
  match ps with
  | [] => none
  | p :: q =>
    if (p :: q).length < leavesOf (countOf p) then none
    else if Goes (entsOf (p :: q) (countOf p)) home then
      if posting r n (entsOf (p :: q) (countOf p)) = (p :: q).take (leavesOf (countOf p)) then some (entsOf (p :: q) (countOf p)) else none
    else none

/-- What is written of each home track. -/
abbrev Wri := List (Option (List Nat))
def took (ws : Wri) (e : List Ent) : Wri := e.foldl (fun ws x => ws.set x.1 (some x.2)) ws
theorem took_length (ws : Wri) : ∀ e : List Ent, (took ws e).length = ws.length := fun e => by
  induction e generalizing ws with
  | nil => rfl
  | cons x r ih => show (took (ws.set x.1 (some x.2)) r).length = _; rw [ih, List.length_set]
theorem took_snoc (ws : Wri) (e : List Ent) (x : Ent) : took ws (e ++ [x]) = (took ws e).set x.1 (some x.2) := by simp [took]

/-- All postings from leaves on. -/
def readAll : Nat → List (List Nat) → Nat → Nat → Nat → Wri → Wri
  | 0, _, _, _, _, ws => ws
  | f + 1, ps, r, n, home, ws =>
    match readP ps r n home with
    | none => ws
    | some e => readAll f (ps.drop (leavesOf e.length)) r (n + 1) home (took ws e)

/-- A turn of the drum. -/
inductive Trn where
  | lay (k : Nat) (b : List Nat)
  | settle
def DS.step (D : DS) : Trn → DS
  | .lay k b => D.lay k b
  | .settle => D.settle
def DS.run (D : DS) (ts : List Trn) : DS := ts.foldl DS.step D
/-- What the last of the turns answered. -/
def DS.bad (D : DS) : Nat := if D.down then 4 else 0
theorem DS.run_nil (D : DS) : D.run [] = D := rfl
theorem DS.run_cons (D : DS) (t : Trn) (ts : List Trn) : D.run (t :: ts) = (D.step t).run ts := rfl
theorem DS.run_append (D : DS) (ts us : List Trn) : D.run (ts ++ us) = (D.run ts).run us := by simp [DS.run]
theorem DS.step_down {D : DS} (h : D.down = true) (t : Trn) : D.step t = D := by
  have hg : D.goes = false := by simp [DS.goes, h]
  have ht : D.turned = D := by
    unfold DS.turned
    rw [hg]
    cases D
    simp_all
  cases t with
  | lay k b => show D.lay k b = D; unfold DS.lay; rw [hg]; exact ht
  | settle => show D.settle = D; unfold DS.settle; rw [hg]; exact ht
theorem DS.run_down {D : DS} (h : D.down = true) : ∀ ts, D.run ts = D
  | [] => rfl
  | t :: ts => by rw [DS.run_cons, DS.step_down h, DS.run_down h ts]
theorem DS.goes_down {D : DS} (h : D.goes = true) : D.down = false := by
  unfold DS.goes at h
  cases hd : D.down with
  | true => rw [hd] at h; cases h
  | false => rfl
theorem DS.step_goes {D : DS} (t : Trn) : (D.step t).down = !D.goes := by
  cases hg : D.goes with
  | true =>
    have hd := DS.goes_down hg
    cases t with
    | lay k b => show (D.lay k b).down = _; unfold DS.lay DS.turned; rw [hg]; exact hd
    | settle => show D.settle.down = _; unfold DS.settle DS.turned; rw [hg]; exact hd
  | false =>
    cases t with
    | lay k b => show (D.lay k b).down = _; unfold DS.lay DS.turned; rw [hg]; rfl
    | settle => show D.settle.down = _; unfold DS.settle DS.turned; rw [hg]; rfl
theorem DS.err_step (D : DS) (t : Trn) : D.err = (D.step t).bad := by
  unfold DS.err DS.bad
  rw [DS.step_goes]
  cases D.goes <;> rfl
theorem DS.step_len (D : DS) (t : Trn) : (D.step t).T.length = D.T.length := by
  cases t with
  | lay k b => show (D.lay k b).T.length = _; unfold DS.lay; split <;> simp only [DS.turned_T]
  | settle => show D.settle.T.length = _; unfold DS.settle; split
              · exact DS.seen_length D
              · simp only [DS.turned_T]
theorem DS.run_len (D : DS) : ∀ ts : List Trn, (D.run ts).T.length = D.T.length := fun ts => by
  induction ts generalizing D with
  | nil => rfl
  | cons t r ih => rw [DS.run_cons, ih, DS.step_len]
theorem DS.turned_turns (D : DS) : D.turned.turns ≤ D.turns + 1 := by unfold DS.turned; split <;> simp
theorem DS.step_turns (D : DS) (t : Trn) : (D.step t).turns ≤ D.turns + 1 := by
  have := D.turned_turns
  cases t with
  | lay k b => show (D.lay k b).turns ≤ _; unfold DS.lay; split <;> exact this
  | settle => show D.settle.turns ≤ _; unfold DS.settle; split <;> exact this
theorem DS.run_turns (D : DS) : ∀ ts : List Trn, (D.run ts).turns ≤ D.turns + ts.length := fun ts => by
  induction ts generalizing D with
  | nil => exact Nat.le_refl _
  | cons t r ih =>
    have h1 := ih (D.step t)
    have h2 := D.step_turns t
    rw [DS.run_cons, List.length_cons]
    omega

/-- A ledger. -/
structure LS where
  D : DS
  leaves : Nat
  round : Nat
  posts : Nat
  laid : Nat
  ws : Wri
  lost : Bool

def beginT (r l : Nat) : List Trn := [.settle, .lay (r % 2) (cover r l), .settle]
def foundT (l : Nat) : List Trn := (List.range (2 + l)).map (fun k => Trn.lay k (zeros 96)) ++ beginT 1 l
/-- What is laid home, from home track k on. -/
def homeT (l : Nat) : Nat → Wri → List Trn
  | _, [] => []
  | k, none :: ws => homeT l (k + 1) ws
  | k, some b :: ws => .lay (2 + l + k) b :: homeT l (k + 1) ws
def LS.nextT (L : LS) : List Trn := homeT L.leaves 0 L.ws ++ beginT (L.round + 1) L.leaves
/-- The next round, if all goes well. -/
def LS.next (L : LS) : LS :=
  let D := L.D.run L.nextT
  if D.down then { L with D := D } else { L with D := D, round := L.round + 1, posts := 0, laid := 0, ws := List.replicate L.ws.length none }
def LS.balanced (L : LS) : LS := if (L.D.step .settle).down then { L with D := L.D.step .settle } else { L with D := L.D.step .settle : LS }.next
def LS.heed (L : LS) : LS := if L.D.down then { L with lost := true } else L
def leafT (k : Nat) : List (List Nat) → List Trn
  | [] => []
  | b :: r => .lay k b :: leafT (k + 1) r
/-- The leaves of a posting are laid. -/
def LS.layP (L : LS) (e : List Ent) : LS :=
  let D := L.D.run (leafT (2 + L.laid) (posting L.round (L.posts + 1) e))
  if D.down then { L with D := D } else { L with D := D, posts := L.posts + 1, laid := L.laid + leavesOf e.length, ws := took L.ws e }
def LS.post (L : LS) (e : List Ent) : LS :=
  if L.leaves - L.laid < leavesOf e.length then (if L.balanced.D.down then L.balanced else L.balanced.layP e) else L.layP e
/-- Write: what it answers, and what is then. -/
def LS.writeE (L : LS) (e : List Ent) : Nat :=
  if Goes e L.ws.length then (if L.lost then 4 else if L.leaves < leavesOf e.length then 5 else (L.post e).D.bad) else 1
def LS.write (L : LS) (e : List Ent) : LS :=
  if Goes e L.ws.length then (if L.lost then L else if L.leaves < leavesOf e.length then L else (L.post e).heed) else L
def LS.settleE (L : LS) : Nat := if L.lost then 4 else (L.D.step .settle).bad
def LS.settle (L : LS) : LS := if L.lost then L else { L with D := L.D.step .settle : LS }.heed
def LS.balanceE (L : LS) : Nat := if L.lost then 4 else L.balanced.D.bad
def LS.balance (L : LS) : LS := if L.lost then L else L.balanced.heed
/-- A home track. -/
def LS.homeAt (L : LS) (k : Nat) : List Nat := match L.ws.getD k none with
  | some b => b
  | none => L.D.seen.getD (2 + L.leaves + k) []

/-- The covers that count: none, the first, the second. -/
def coverK (D : DS) : Option Nat :=
  let a := D.seen.getD 0 []
  let b := D.seen.getD 1 []
  if readC b 1 D.T.length then (if readC a 0 D.T.length then (if roundC b < roundC a ∨ roundC b = roundC a then some 0 else some 1) else some 1)
  else if readC a 0 D.T.length then some 0 else none
/-- The ledger of a drum ahead of its reading. -/
def LS.counted (D : DS) (k : Nat) : LS :=
  let b := D.seen.getD k []
  { D := D, leaves := leavesC b, round := roundC b, posts := 0, laid := 0, ws := List.replicate (D.T.length - 2 - leavesC b) none, lost := false }
def LS.pages (L : LS) : List (List Nat) := (L.D.seen.drop 2).take L.leaves
def LS.reads (L : LS) : LS := { L with ws := readAll L.pages.length L.pages L.round 1 L.ws.length L.ws }
def openE (D : DS) : Nat := if D.down then 4 else match coverK D with
  | none => 11
  | some k => (LS.counted D k).reads.next.D.bad
def openD (D : DS) : DS := if D.down then D else match coverK D with
  | none => D
  | some k => (LS.counted D k).reads.next.D
def openL (D : DS) (k : Nat) : LS := (LS.counted D k).reads.next
end Go.Proofs.YtjajenkagcdhlaaGreat
