/-
  JSON, plainly: the value of a text, or the error. No model in it.
-/
import Derived.Test.YtgcpgieojckheaaGreatDoorMgA
import Derived.Test.YtgcpgieojckheaaGreatDoorMgPF
namespace Go.Proofs.YtgcpgieojckheaaGreatDoor.Json
open Go.Proofs.YtgcpgieojckheaaGreatDoor

/-- A value: its kind (1 Null, 2 True, 3 False, 4 Number, 5 String, 6 Array, 7 Object), its text, names, list. -/
inductive J where
  | mk (kind : Nat) (text : List UInt8) (names : List (List UInt8)) (list : List J)
def J.zero : J := .mk 0 [] [] []
def isBlank (c : UInt8) : Bool := c == 32 || c == 9 || c == 10 || c == 13
def skip (l : List UInt8) : List UInt8 := l.dropWhile isBlank
def isNumc (c : UInt8) : Bool := isDig c || c == 43 || c == 45 || c == 46 || c == 101 || c == 69
def hexV (c : UInt8) : Option Nat :=
  if 48 ≤ c.toNat ∧ c.toNat ≤ 57 then some (c.toNat - 48) else if 97 ≤ c.toNat ∧ c.toNat ≤ 102 then some (c.toNat - 87) else if 65 ≤ c.toNat ∧ c.toNat ≤ 70 then some (c.toNat - 55) else none
/-- Four digits. -/
def unit4 (l : List UInt8) : Option (Nat × List UInt8) :=
  match l with
  | a :: b :: c :: d :: r =>
    match hexV a, hexV b, hexV c, hexV d with
    | some a, some b, some c, some d => some (((a * 16 + b) * 16 + c) * 16 + d, r)
    | _, _, _, _ => none
  | _ => none
/-- What stands behind \u. -/
def units (l : List UInt8) : Option (List UInt8 × List UInt8) :=
  match unit4 l with
  | none => none
  | some (a, r) =>
    if (Utf.putB a).size ≠ 0 then some ((Utf.putB a).data.toList, r)
    else match r with
      | 92 :: 117 :: r2 =>
        match unit4 r2 with
        | none => none
        | some (b, r3) => if Utf.pairQ a b then some ((Utf.putB (Utf.pairP a b)).data.toList, r3) else none
      | _ => none
/-- What a byte behind \ stands for. -/
def meant (c : UInt8) : Option UInt8 :=
  if c = 34 then some 34 else if c = 92 then some 92 else if c = 47 then some 47 else if c = 98 then some 8 else if c = 102 then some 12 else if c = 110 then some 10 else if c = 114 then some 13 else if c = 116 then some 9 else none
/-- What stands behind \. -/
def escR (l : List UInt8) : Option (List UInt8 × List UInt8) :=
  match l with
  | [] => none
  | c :: r =>
    match meant c with
    | some b => some ([b], r)
    | none => if c = 117 then units r else none
/-- What stands behind a String's first quote, up to its last one; the fuel is more than the text's length. -/
def body : Nat → List UInt8 → Option (List UInt8 × List UInt8)
  | 0, _ => none
  | _ + 1, [] => none
  | f + 1, c :: r =>
    if c = 34 then some ([], r)
    else if c = 92 then
      match escR r with
      | none => none
      | some (t, r2) =>
        match body f r2 with
        | none => none
        | some (u, r3) => some (t ++ u, r3)
    else if c.toNat < 32 then none
    else match body f r with
      | none => none
      | some (u, r3) => some (c :: u, r3)
/-- A String or a name. -/
def quoted (l : List UInt8) : Option (List UInt8 × List UInt8) :=
  match l with
  | 34 :: r =>
    match body (r.length + 1) r with
    | none => none
    | some (t, r2) => if Utf.validS ⟨t.toArray⟩ then some (t, r2) else none
  | _ => none
/-- What is read: a value, what is left, how many values began; or an error. -/
abbrev Got (α : Type) := Except Int (α × List UInt8 × Nat)
abbrev Val := List UInt8 → Nat → Got J
/-- The elements of an Array, the first of which begins here. -/
def items (v : Val) : Nat → List UInt8 → Nat → Got (List J)
  | 0, _, _ => .error 4
  | f + 1, l, n =>
    match v l n with
    | .error e => .error e
    | .ok (j, r, n2) =>
      match skip r with
      | 44 :: r2 =>
        match items v f r2 n2 with
        | .error e => .error e
        | .ok (js, r3, n3) => .ok (j :: js, r3, n3)
      | 93 :: r2 => .ok ([j], r2, n2)
      | _ => .error 4
/-- The members of an Object, the first of which begins here; known: the names ahead. -/
def members (v : Val) : Nat → List (List UInt8) → List UInt8 → Nat → Got (List (List UInt8) × List J)
  | 0, _, _, _ => .error 4
  | f + 1, known, l, n =>
    match quoted (skip l) with
    | none => .error 4
    | some (name, r0) =>
      if known.contains name then .error 6
      else match skip r0 with
        | 58 :: r1 =>
          match v r1 n with
          | .error e => .error e
          | .ok (j, r, n2) =>
            match skip r with
            | 44 :: r2 =>
              match members v f (name :: known) r2 n2 with
              | .error e => .error e
              | .ok ((ns, js), r3, n3) => .ok ((name :: ns, j :: js), r3, n3)
            | 125 :: r2 => .ok (([name], [j]), r2, n2)
            | _ => .error 4
        | _ => .error 4
def word (w : List UInt8) (kind : Nat) (l : List UInt8) (n : Nat) : Got J :=
  if w.isPrefixOf l then .ok (.mk kind [] [] [], l.drop w.length, n) else .error 4
def number (l : List UInt8) (n : Nat) : Got J :=
  if (ownR (l.takeWhile isNumc)).2 = 0 then .ok (.mk 4 (ownR (l.takeWhile isNumc)).1 [] [], l.dropWhile isNumc, n) else .error (ownR (l.takeWhile isNumc)).2
/-- A value that begins here, behind blanks; d: how many values deep it may still be. -/
def value : Nat → Val
  | 0, _, _ => .error 61
  | d + 1, l, n =>
    if 65536 ≤ n then .error 40
    else match skip l with
      | 110 :: r => word [110, 117, 108, 108] 1 (110 :: r) (n + 1)
      | 116 :: r => word [116, 114, 117, 101] 2 (116 :: r) (n + 1)
      | 102 :: r => word [102, 97, 108, 115, 101] 3 (102 :: r) (n + 1)
      | 34 :: r =>
        match quoted (34 :: r) with
        | none => .error 4
        | some (t, r2) => .ok (.mk 5 t [] [], r2, n + 1)
      | 91 :: r =>
        match skip r with
        | 93 :: r2 => .ok (.mk 6 [] [] [], r2, n + 1)
        | r1 =>
          match items (value d) (r1.length + 1) r1 (n + 1) with
          | .error e => .error e
          | .ok (js, r2, n2) => .ok (.mk 6 [] [] js, r2, n2)
      | 123 :: r =>
        match skip r with
        | 125 :: r2 => .ok (.mk 7 [] [] [], r2, n + 1)
        | r1 =>
          match members (value d) (r1.length + 1) [] r1 (n + 1) with
          | .error e => .error e
          | .ok ((ns, js), r2, n2) => .ok (.mk 7 [] ns js, r2, n2)
      | l1 => number l1 (n + 1)
/-- The value of a text, or the error. -/
def parse (l : List UInt8) : J × Int :=
  if 262144 < l.length then (.zero, 40)
  else match value 64 l 0 with
    | .error e => (.zero, e)
    | .ok (j, r, _) => if skip r = [] then (j, 0) else (.zero, 4)
end Go.Proofs.YtgcpgieojckheaaGreatDoor.Json
