/-
  What package plan answers, as plain functions: the reader of a line, the line, the lines. Nothing of the program.
-/
import Derived.Test.YtbifcicipkhohaaDoorSplit
namespace Go.Proofs.YtbifcicipkhohaaDoor

/-- The first error stays. -/
def failE (f e : Nat) : Nat := if f = 0 then e else f
/-- A reader: the words that are left, and the error. -/
abbrev Rd := List ByteArray × Nat

def kSection : ByteArray := ⟨#[115, 101, 99, 116, 105, 111, 110]⟩
def kSignal : ByteArray := ⟨#[115, 105, 103, 110, 97, 108]⟩
def kPoint : ByteArray := ⟨#[112, 111, 105, 110, 116]⟩
def kIn : ByteArray := ⟨#[105, 110]⟩
def kRoute : ByteArray := ⟨#[114, 111, 117, 116, 101]⟩
def kFrom : ByteArray := ⟨#[102, 114, 111, 109]⟩
def kTo : ByteArray := ⟨#[116, 111]⟩
def kVia : ByteArray := ⟨#[118, 105, 97]⟩
def kSet : ByteArray := ⟨#[115, 101, 116]⟩
def kFlank : ByteArray := ⟨#[102, 108, 97, 110, 107]⟩

def endsB (s : ByteArray) : Bool := decide (s = kSet ∨ s = kFlank)
/-- A NAME. -/
def capB (s : ByteArray) : Bool := nameB s.data.toList && !endsB s

def rNext : Rd → ByteArray × Rd
  | ([], f) => (⟨#[]⟩, ([], failE f 2))
  | (x :: ws, f) => (x, (ws, f))
def rWord (t : ByteArray) (r : Rd) : Rd := if (rNext r).1 = t then (rNext r).2 else ((rNext r).2.1, failE (rNext r).2.2 2)
def rName (r : Rd) : ByteArray × Rd := ((rNext r).1, if capB (rNext r).1 = true then (rNext r).2 else ((rNext r).2.1, failE (rNext r).2.2 3))
def cutF : List (Nat × Nat) → Nat → Nat → Nat → Nat × Nat
  | [], _, a, l => (a, l)
  | d :: rs, pos, _, _ => cutF rs (pos + d.2) pos d.1
/-- A text without its last rune, and that. -/
def cutLast (s : ByteArray) : ByteArray × Nat := (s.extract 0 (cutF (runesAt s 0) 0 0 0).1, (cutF (runesAt s 0) 0 0 0).2)
def signE (f l : Nat) : Nat := if l = 43 ∨ l = 45 then f else failE f 2
def wantE (f : Nat) (x : ByteArray) : Nat := if capB x = true then f else failE f 3
abbrev Wt := ByteArray × Bool
def rWant (r : Rd) : Wt × Rd :=
  (((cutLast (rNext r).1).1, decide ((cutLast (rNext r).1).2 = 45)), ((rNext r).2.1, wantE (signE (rNext r).2.2 (cutLast (rNext r).1).2) (cutLast (rNext r).1).1))
def rEnd (r : Rd) : Rd := if r.1 = [] then r else (r.1, failE r.2 2)
def rAhead (t : ByteArray) (r : Rd) : Bool := match r.1 with
  | [] => false
  | x :: _ => decide (x = t)
def rGoes (r : Rd) : Bool := match r.1 with
  | [] => false
  | x :: _ => !endsB x
def rowF {α : Type} (one : Rd → α × Rd) : Nat → Rd → List α × Rd
  | 0, r => ([], r)
  | k + 1, r => if rGoes r = true then ((one r).1 :: (rowF one k (one r).2).1, (rowF one k (one r).2).2) else ([], r)
def rRow {α : Type} (one : Rd → α × Rd) (r : Rd) : List α × Rd := ((one r).1 :: (rowF one (one r).2.1.length (one r).2).1, (rowF one (one r).2.1.length (one r).2).2)
def rWants (t : ByteArray) (r : Rd) : List Wt × Rd := if rAhead t r = true then rRow rWant (rWord t r) else ([], r)

structure RL where
  name : ByteArray
  frm : ByteArray
  to : ByteArray
  via : List ByteArray
  set : List Wt
  flank : List Wt

def rRoute (r : Rd) : RL × Rd :=
  let a := rName r
  let b := rName (rWord kFrom a.2)
  let c := rName (rWord kTo b.2)
  let d := rRow rName (rWord kVia c.2)
  let e := rWants kSet d.2
  let f := rWants kFlank e.2
  (⟨a.1, b.1, c.1, d.1, e.1, f.1⟩, rEnd f.2)

structure Rt where
  name : ByteArray
  frm : Int
  to : Int
  path : List Int
  points : List (Int × Bool)
  flank : List (Int × Bool)

structure Lay where
  sections : List ByteArray
  points : List (ByteArray × Int)
  signals : List ByteArray
  routes : List Rt

def Lay.zero : Lay := ⟨[], [], [], []⟩

/-- The place of the first; -1. -/
def idxF (x : ByteArray) : List ByteArray → Nat → Int
  | [], _ => -1
  | y :: l, k => if x = y then (k : Int) else idxF x l (k + 1)
def idx (l : List ByteArray) (x : ByteArray) : Int := idxF x l 0

def pointAt (l : Lay) (x : ByteArray) : Int := idx (l.points.map (·.1)) x
def needsP (l : Lay) (ws : List Wt) : List (Int × Bool) := ws.map fun x => (pointAt l x.1, x.2)
def byPlaces (l : Lay) (r : RL) : Rt := ⟨r.name, idx l.signals r.frm, idx l.signals r.to, r.via.map (idx l.sections), needsP l r.set, needsP l r.flank⟩
def hasRoute (l : Lay) (x : ByteArray) : Bool := l.routes.any fun r => decide (r.name = x)
def lacks (r : Rt) : Bool := decide (r.frm = -1) || (decide (r.to = -1) || (r.path.any (fun n => decide (n = -1)) || (r.points.any (fun n => decide (n.1 = -1)) || r.flank.any (fun n => decide (n.1 = -1)))))
def tooLong (r : Rt) : Bool := decide (5 < r.path.length) || (decide (5 < r.points.length) || decide (5 < r.flank.length))

def addNameP (l : List ByteArray) (most : Nat) (r : Rd) : Nat × List ByteArray :=
  let a := rName r
  let b := rEnd a.2
  if b.2 ≠ 0 then (b.2, l) else if idx l a.1 ≠ -1 then (4, l) else if most ≤ l.length then (6, l) else (0, l ++ [a.1])
def addPointP (l : Lay) (r : Rd) : Nat × Lay :=
  let a := rName r
  let b := rName (rWord kIn a.2)
  let c := rEnd b.2
  if c.2 ≠ 0 then (c.2, l) else if pointAt l a.1 ≠ -1 then (4, l) else if idx l.sections b.1 = -1 then (5, l) else if 5 ≤ l.points.length then (6, l)
  else (0, { l with points := l.points ++ [(a.1, idx l.sections b.1)] })
def addRouteP (l : Lay) (r : Rd) : Nat × Lay :=
  let a := rRoute r
  if a.2.2 ≠ 0 then (a.2.2, l) else
  let t := byPlaces l a.1
  if hasRoute l a.1.name = true then (4, l) else if lacks t = true then (5, l) else if 6 ≤ l.routes.length ∨ tooLong t = true then (6, l)
  else (0, { l with routes := l.routes ++ [t] })

/-- Where the first rune of that number stands. -/
def findF (c : Nat) : List (Nat × Nat) → Nat → Option Nat
  | [], _ => none
  | d :: rs, pos => if d.1 = c then some pos else findF c rs (pos + d.2)
def cutLine (s : ByteArray) : ByteArray × ByteArray := match findF 10 (runesAt s 0) 0 with
  | some i => (s.extract 0 i, s.extract (i + 1) s.size)
  | none => (s, ⟨#[]⟩)
def noRemark (s : ByteArray) : ByteArray := match findF 35 (runesAt s 0) 0 with
  | some i => s.extract 0 i
  | none => s

def addWords (l : Lay) (ws : List ByteArray) : Nat × Lay := match ws with
  | [] => (0, l)
  | x :: ws =>
    if x = kSection then ((addNameP l.sections 10 (ws, 0)).1, { l with sections := (addNameP l.sections 10 (ws, 0)).2 })
    else if x = kSignal then ((addNameP l.signals 6 (ws, 0)).1, { l with signals := (addNameP l.signals 6 (ws, 0)).2 })
    else if x = kPoint then addPointP l (ws, 0)
    else if x = kRoute then addRouteP l (ws, 0)
    else (2, l)
def addLineP (l : Lay) (line : ByteArray) : Nat × Lay :=
  if wrongO (noRemark line).data.toList = none then addWords l ((wordsL (noRemark line)).map (·.1)) else (2, l)

def parseF : Nat → Lay → Nat → ByteArray → Lay × Nat × Nat
  | 0, l, n, _ => (l, n, 0)
  | f + 1, l, n, s =>
    if s.size = 0 then (l, n, 0) else if 60 ≤ n then (.zero, n + 1, 6)
    else if (addLineP l (cutLine s).1).1 = 0 then parseF f (addLineP l (cutLine s).1).2 (n + 1) (cutLine s).2 else (.zero, n + 1, (addLineP l (cutLine s).1).1)
def parseP (s : ByteArray) : Lay × Nat × Nat := parseF 61 .zero 0 s

end Go.Proofs.YtbifcicipkhohaaDoor
