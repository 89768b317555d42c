/- What package spread's calls do to a run, as functions. -/
import Derived.Test.YtddfdnhlghmapaaSp
import Derived.Test.YtddfdnhlghmapaaVtCost
namespace Go.Proofs.Ytddfdnhlghmapaa.Sp
open Go.Proofs.Ytddfdnhlghmapaa.Vt
set_option linter.unusedVariables false

abbrev noTk : Tk := ⟨0, 0, 0, 0, false, 0, 0, 0, 0, 0, 0, 0, false⟩
/-- The class and the value by which a task goes. -/
def asC (x : Tk) : Int := if x.bc = 0 then x.c else x.bc
def asV (x : Tk) : Int := if x.bc = 0 then x.v else x.bv
def rk0 (x : Tk) : Int := if asC x = 3 then -3 else if asC x = 2 then -2 else -1
def rk1 (x : Tk) : Int := if asC x = 3 then x.rd else if asC x = 2 then -asV x else x.t
def rk2 (x : Tk) : Int := if asC x = 3 then 0 else if asC x = 2 then x.s else 0
/-- Does a task go ahead of another one? -/
def prec (x y : Tk) : Bool := decide (rk0 x < rk0 y ∨ (rk0 x = rk0 y ∧ (rk1 x < rk1 y ∨ (rk1 x = rk1 y ∧ rk2 x < rk2 y))))
def waits (x : Tk) : Bool := x.r && (!x.ro || x.bc != 0)
/-- May it run on a processor? -/
def may (x : Tk) (cpu : Nat) : Bool := decide (x.m / 2 ^ cpu % 2 = 1)
/-- Where a task runs. -/
def place (S : St) (t : Nat) : Option Nat := if S.on 0 = t then some 0 else if S.on 1 = t then some 1 else if S.on 2 = t then some 2 else if S.on 3 = t then some 3 else none
def placeI (S : St) (t : Nat) : Int := match place S t with | some i => (i : Nat) | none => -1
/-- Does a task ask for a processor? -/
def asks (S : St) (cpu t : Nat) : Bool := waits (S.T t) && may (S.T t) cpu && (place S t).isNone
/-- The first of those who ask. -/
def firstTo (S : St) (cpu : Nat) : Nat → Nat
  | 0 => 0
  | t + 1 => if asks S cpu t ∧ (firstTo S cpu t = 0 ∨ prec (S.T t) (S.T (firstTo S cpu t)) = true) then t else firstTo S cpu t
def first (S : St) (cpu : Nat) : Nat := firstTo S cpu 17
def put1 (S : St) (cpu : Nat) : St := if S.on cpu = 0 then { S with on := upd S.on cpu (first S cpu) } else S
def fillTo (S : St) : Nat → St
  | 0 => S
  | c + 1 => put1 (fillTo S c) c
def fill (S : St) : St := fillTo S S.n
def queue (S : St) (t : Nat) : St := { S with g := S.g + 1, T := upd S.T t { S.T t with s := S.g + 1 } }
/-- A processor that is there, cleared. -/
def clr (S : St) (cpu : Nat) : St := if S.on cpu = 0 then S else { queue S (S.on cpu) with on := upd S.on cpu 0 }
/-- A task taken from where it runs. -/
def off (S : St) (t : Nat) : St := match place S t with | some i => clr S i | none => S
def isF (S : St) (t : Nat) : Bool := decide ((S.T t).c = 1) && (S.T t).r
def leastTo (S : St) : Nat → Nat
  | 0 => 0
  | t + 1 => if isF S t = true ∧ (leastTo S t = 0 ∨ (S.T t).t < (S.T (leastTo S t)).t) then t else leastTo S t
def least (S : St) : Int := (S.T (leastTo S 17)).t
/-- The time of a task that is ready again. -/
def risen (S : St) (t : Nat) : Tk := if (S.T t).c = 1 then { S.T t with t := max (S.T t).t (least S), r := true } else { S.T t with r := true }
def start (S : St) (t : Nat) : St := fill (queue { S with T := upd S.T t (risen S t) } t)
def all (S : St) : Nat := 2 ^ S.n - 1
def enter (S : St) (t : Nat) (x : Tk) : St := start { S with T := upd S.T t { x with m := all S } } t
def now (S : St) : Int := S.k / (S.n : Nat)
/-- A budget filled for a period that starts then. -/
def full (x : Tk) (s : Int) : Tk := { x with rl := x.rb, rd := s + x.rp, ro := false }
def Stale (x : Tk) (n : Int) : Prop := x.rd ≤ n ∨ x.rb * (x.rd - n) < x.rl * x.rp
instance (x : Tk) (n : Int) : Decidable (Stale x n) := by unfold Stale; exact inferInstance
def wokeR (x : Tk) (n : Int) : Tk := if x.ro = false ∧ Stale x n then full x n else x
def used (x : Tk) : Tk := if x.ro = true then x else { x with rl := x.rl - 1, ro := x.rl - 1 == 0 }
def again (x : Tk) (n : Int) : Tk := if x.ro = true ∧ x.rd ≤ n then full x x.rd else x

def charged (x : Tk) : Tk := if x.c = 1 then { x with t := x.t + costOf x.v } else if x.c = 3 then used x else x
def passTo (S : St) (n : Int) (j : Nat) : St := { S with T := fun t => if t < j then again (S.T t) n else S.T t }
def tick (S : St) (cpu : Nat) : St :=
  let S1 : St := { S with T := upd S.T (S.on cpu) (charged (S.T (S.on cpu))), k := S.k + 1 }
  fill (clr (passTo S1 (now S1) 17) cpu)
def kindOk (c v : Int) : Bool := decide ((c = 1 ∧ 1 ≤ v ∧ v ≤ 100) ∨ (c = 2 ∧ 0 ≤ v ∧ v ≤ 7))
def isNo (t : Int) : Bool := decide (1 ≤ t ∧ t ≤ 16)
/-- Is there a task of this number? -/
def There (S : St) (t : Int) : Prop := 1 ≤ t ∧ t ≤ 16 ∧ (S.T t.toNat).c ≠ 0
instance (S : St) (t : Int) : Decidable (There S t) := by unfold There; exact inferInstance
end Go.Proofs.Ytddfdnhlghmapaa.Sp
