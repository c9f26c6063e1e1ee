/- Trees in plain words: their tokens, counts, paths, and how a tree is made of tokens. No condition: nothing of the program stands in it. -/
import Derived.Test.YtmgfnghegcfhnaaTkPlain
namespace Go.Proofs.Ytmgfnghegcfhnaa

/-- A property: its name, its value. -/
structure PR where
  nm : ByteArray
  vl : ByteArray
def pr0 : PR := ⟨ByteArray.empty, ByteArray.empty⟩
/-- A node: its name, its properties, its kids. -/
inductive ND where
  | mk (nm : ByteArray) (ps : List PR) (ks : List ND)
def ND.nm : ND → ByteArray
  | .mk a _ _ => a
def ND.ps : ND → List PR
  | .mk _ a _ => a
def ND.ks : ND → List ND
  | .mk _ _ a => a
def nd0 : ND := .mk ByteArray.empty [] []
theorem ND.eta (n : ND) : n = .mk n.nm n.ps n.ks := by cases n; rfl
/-- Has a tree at most so many levels, and few bytes in each part? -/
def lowP (p : PR) : Bool := decide (p.nm.size ≤ 100 ∧ p.vl.size ≤ 300)
def lowR : Nat → ND → Bool
  | 0, _ => false
  | k + 1, n => decide (n.nm.size ≤ 100 ∧ n.ps.length ≤ 300 ∧ n.ks.length ≤ 80) && (n.ps.all lowP && n.ks.all (lowR k))
/-- How many parts it has (no more is counted from 1000 on). -/
def cutSum (f : ND → Nat) : Nat → List ND → Nat
  | a, [] => a
  | a, x :: r => if a < 1000 then cutSum f (a + f x) r else a
def sizeR : Nat → ND → Nat
  | 0, _ => 0
  | k + 1, n => cutSum (sizeR k) (1 + n.ps.length) n.ks
def LowR (n : ND) : Bool := lowR 12 n && decide (sizeR 12 n ≤ 400)
/-- Its tokens. -/
def tokP (p : PR) : TK := ⟨3, p.nm, p.vl⟩
def tokR : Nat → ND → List TK
  | 0, _ => []
  | k + 1, n => (⟨1, n.nm, ByteArray.empty⟩ :: n.ps.map tokP) ++ n.ks.flatMap (tokR k) ++ [⟨2, ByteArray.empty, ByteArray.empty⟩]
/-- How many nodes and properties it has, and how deep it is. -/
structure CT where
  a : Nat
  b : Nat
  c : Nat
def ctAdd (x y : CT) : CT := ⟨x.a + y.a, x.b + y.b, max x.c y.c⟩
def countR : Nat → ND → CT
  | 0, _ => ⟨0, 0, 0⟩
  | k + 1, n => ⟨(n.ks.foldl (fun x y => ctAdd x (countR k y)) ⟨1, n.ps.length, 0⟩).a, (n.ks.foldl (fun x y => ctAdd x (countR k y)) ⟨1, n.ps.length, 0⟩).b, (n.ks.foldl (fun x y => ctAdd x (countR k y)) ⟨1, n.ps.length, 0⟩).c + 1⟩
def fitsR (n : ND) : Bool := decide ((countR 9 n).a ≤ 64 ∧ (countR 9 n).b ≤ 256 ∧ (countR 9 n).c ≤ 8)
/-- Are trees of so many levels the same? -/
def sameP (a b : PR) : Bool := decide (a.nm = b.nm ∧ a.vl = b.vl)
def allTwo {α : Type} (f : α → α → Bool) : List α → List α → Bool
  | [], [] => true
  | x :: r, y :: s => f x y && allTwo f r s
  | _, _ => false
def sameR : Nat → ND → ND → Bool
  | 0, _, _ => true
  | k + 1, m, n => decide (m.nm = n.nm) && (allTwo sameP m.ps n.ps && allTwo (sameR k) m.ks n.ks)
/-- A tree's nodes with their paths. -/
def under (path : List UInt8) : List UInt8 := if path.getLast? = some 47 then path else path ++ [47]
def walkR : Nat → List UInt8 → ND → List (List UInt8 × ND)
  | 0, _, _ => []
  | k + 1, path, n => (path, n) :: n.ks.flatMap fun x => walkR k (under path ++ x.nm.data.toList) x
/-- A tree that is being made of tokens. -/
structure BD where
  op : List ND
  dn : Bool
  rt : ND
  ns : Nat
  pn : Nat
def bd0 : BD := ⟨[], false, nd0, 0, 0⟩
def addProp (n : ND) (p : PR) : ND := .mk n.nm (n.ps ++ [p]) n.ks
def addKid (n : ND) (x : ND) : ND := .mk n.nm n.ps (n.ks ++ [x])
/-- The last one is changed. -/
def onLast (f : ND → ND) (l : List ND) : List ND := l.dropLast ++ [f (l.getLastD nd0)]
def takeR (b : BD) (t : TK) : BD × Nat :=
  if t.kd = 4 then (b, 0)
  else if t.kd < 1 ∨ 3 < t.kd ∨ b.dn = true ∨ (t.kd ≠ 1 ∧ b.op = []) then (b, 6)
  else if t.kd = 1 then (if b.op.length = 8 then (b, 13) else if b.ns = 64 then (b, 7) else ({ b with op := b.op ++ [.mk t.nm [] []], ns := b.ns + 1 }, 0))
  else if t.kd = 3 then (if (b.op.getLastD nd0).ks ≠ [] then (b, 6) else if b.pn = 256 then (b, 7) else ({ b with op := onLast (fun n => addProp n ⟨t.nm, t.vl⟩) b.op, pn := b.pn + 1 }, 0))
  else if b.op.length = 1 then ({ b with op := [], dn := true, rt := b.op.getLastD nd0 }, 0)
  else ({ b with op := onLast (fun n => addKid n (b.op.getLastD nd0)) b.op.dropLast }, 0)
def runB : BD → List TK → BD × Nat
  | b, [] => (b, 0)
  | b, t :: l => match takeR b t with
    | (b', 0) => runB b' l
    | (b', e + 1) => (b', e + 1)
def ofR (l : List TK) : ND × Nat :=
  match runB bd0 l with
  | (_, e + 1) => (nd0, e + 1)
  | (b, 0) => if b.dn = true then (b.rt, 0) else (nd0, 6)
end Go.Proofs.Ytmgfnghegcfhnaa
