/- What a query's tokens come to. -/
import Derived.Test.YtmoimmghmmomlaaDoorPp
namespace Go.Proofs.YtmoimmghmmomlaaDoor
set_option linter.unusedVariables false
set_option linter.unusedSimpArgs false

structure It where
  neg : Bool
  ty : List ByteArray
  v : ByteArray
  lo : Int
  hi : Int
structure Qy where
  items : List It
  mode : Int
  after : Int
  wh : List Nd
  within : Int
  by_ : ByteArray
  ret : List (List Nd)
structure Sps where
  items : List Int
  wh : List Int
  within : Int
  by_ : Int
  ret : List (List Int)
abbrev E (α : Type) := Except (Int × List Tok) α
/-- A token of that kind, or the refusal. -/
def wantE (k : Int) (ts : List Tok) : E (Tok × List Tok) :=
  match ts with
  | [] => .error (40, [])
  | t :: tl => if t.k = k then .ok (t, tl) else .error (40, t :: tl)
/-- Is the next one of that kind? What is left then. -/
def hasK (k : Int) (ts : List Tok) : Bool := kd ts == k
def tyL : Nat → List Tok → List ByteArray → E (List ByteArray × List Tok)
  | 0, ts, acc => .ok (acc, ts)
  | n + 1, ts, acc =>
    if kd ts = 10 then
      match wantE 1 ts.tail with
      | .error e => .error e
      | .ok (v, tl) => tyL n tl (acc ++ [v.t])
    else .ok (acc, ts)
def typesP (ts : List Tok) : E (List ByteArray × List Tok) :=
  if kd ts = 3 then
    match wantE 1 ts.tail with
    | .error e => .error e
    | .ok (v, tl) => match tyL tl.length tl [v.t] with
      | .error e => .error e
      | .ok (l, tl) => match wantE 4 tl with
        | .error e => .error e
        | .ok (_, tl) => .ok (l, tl)
  else match wantE 1 ts with
    | .error e => .error e
    | .ok (v, tl) => .ok ([v.t], tl)
def boundsP (ts : List Tok) : E (Int × Int × List Tok) :=
  match wantE 2 ts with
  | .error e => .error e
  | .ok (a, ts) => match wantE 7 ts with
    | .error e => .error e
    | .ok (_, ts) => match wantE 2 ts with
      | .error e => .error e
      | .ok (b, ts) => match wantE 6 ts with
        | .error e => .error e
        | .ok (_, ts) => .ok (a.n, b.n, ts)
def itemP (ts : List Tok) : E (It × List Tok) :=
  if kd ts = 9 then
    match typesP ts.tail with
    | .error e => .error e
    | .ok (l, ts) => match wantE 1 ts with
      | .error e => .error e
      | .ok (v, ts) => .ok (⟨true, l, v.t, 1, 1⟩, ts)
  else match typesP ts with
    | .error e => .error e
    | .ok (l, ts) =>
      if kd ts = 11 then
        match wantE 1 ts.tail with
        | .error e => .error e
        | .ok (v, ts) => .ok (⟨false, l, v.t, 1, 4⟩, ts)
      else match wantE 1 ts with
        | .error e => .error e
        | .ok (v, ts) =>
          if kd ts = 5 then
            match boundsP ts.tail with
            | .error e => .error e
            | .ok (a, b, ts) => .ok (⟨false, l, v.t, a, b⟩, ts)
          else .ok (⟨false, l, v.t, 1, 1⟩, ts)
def itL (e : Int) : Nat → List Tok → List It → List Int → E (List It × List Int × List Tok)
  | 0, ts, is, sp => .ok (is, sp, ts)
  | n + 1, ts, is, sp =>
    if kd ts = 7 then
      match itemP ts.tail with
      | .error e => .error e
      | .ok (i, tl) => itL e n tl (is ++ [i]) (sp ++ [plc e ts.tail])
    else .ok (is, sp, ts)
def itemsP (e : Int) (ts : List Tok) : E (List It × List Int × List Tok) :=
  match wantE 3 ts with
  | .error e => .error e
  | .ok (_, ts) => match itemP ts with
    | .error e => .error e
    | .ok (i, tl) => match itL e tl.length tl [i] [plc e ts] with
      | .error e => .error e
      | .ok (is, sp, tl) => match wantE 4 tl with
        | .error e => .error e
        | .ok (_, tl) => .ok (is, sp, tl)
def modeP (ts : List Tok) : E (Int × List Tok) :=
  if kd ts = 33 then .ok (0, ts.tail) else if kd ts = 34 then .ok (1, ts.tail) else if kd ts = 35 then .ok (2, ts.tail) else .error (40, ts)
def afterP (ts : List Tok) : E (Int × List Tok) :=
  if kd ts = 54 then .ok (0, ts.tail) else if kd ts = 34 then .ok (1, ts.tail) else if kd ts = 55 then .ok (2, ts.tail) else if kd ts = 56 then .ok (3, ts.tail) else .error (40, ts)
def treeP (ts : List Tok) : E (List Nd × List Int × List Tok) :=
  match exR ts with
  | .bad c e => .error (c, e)
  | .ok s => .ok (s.ns, s.sp, s.ts)
def resL : Nat → List Tok → List (List Nd) → List (List Int) → E (List (List Nd) × List (List Int) × List Tok)
  | 0, ts, a, b => .ok (a, b, ts)
  | n + 1, ts, a, b =>
    match treeP ts with
    | .error e => .error e
    | .ok (x, y, tl) => if kd tl = 7 then resL n tl.tail (a ++ [x]) (b ++ [y]) else .ok (a ++ [x], b ++ [y], tl)
def optP {α : Type} (k : Int) (d : α) (f : List Tok → E (α × List Tok)) (ts : List Tok) : E (α × List Tok) := if kd ts = k then f ts.tail else .ok (d, ts)
def byP (ts : List Tok) : E ((ByteArray × Int) × List Tok) :=
  match wantE 39 ts with
  | .error e => .error e
  | .ok (_, ts) => match wantE 1 ts with
    | .error e => .error e
    | .ok (b, ts) => .ok ((b.t, b.a), ts)
def whereP (ts : List Tok) : E ((List Nd × List Int) × List Tok) :=
  match treeP ts with
  | .error e => .error e
  | .ok (x, y, ts) => .ok ((x, y), ts)
def retP (ts : List Tok) : E ((List (List Nd) × List (List Int)) × List Tok) :=
  match resL (ts.length + 1) ts [] [] with
  | .error e => .error e
  | .ok (x, y, ts) => .ok ((x, y), ts)
def endP (ts : List Tok) : E Unit := match ts with | [] => .ok () | t :: tl => .error (40, t :: tl)
def q5 (q : Qy) (s : Sps) (ts : List Tok) : E (Qy × Sps) := match endP ts with | .error e => .error e | .ok _ => .ok (q, s)
def q4 (q : Qy) (s : Sps) (ts : List Tok) : E (Qy × Sps) := match optP 40 ([], []) retP ts with | .error e => .error e | .ok (r, ts) => q5 { q with ret := r.1 } { s with ret := r.2 } ts
def q3 (q : Qy) (s : Sps) (ts : List Tok) : E (Qy × Sps) := match optP 38 (eS, 0) byP ts with | .error e => .error e | .ok (b, ts) => q4 { q with by_ := b.1 } { s with by_ := b.2 } ts
def q2 (q : Qy) (s : Sps) (ts : List Tok) : E (Qy × Sps) := match wantE 37 ts with | .error e => .error e | .ok (_, ts) => match wantE 2 ts with | .error e => .error e | .ok (n, ts) => q3 { q with within := n.n } { s with within := n.a } ts
def q1c (q : Qy) (s : Sps) (ts : List Tok) : E (Qy × Sps) := match optP 36 ([], []) whereP ts with | .error e => .error e | .ok (r, ts) => q2 { q with wh := r.1 } { s with wh := r.2 } ts
def q1b (q : Qy) (s : Sps) (ts : List Tok) : E (Qy × Sps) := match optP 53 0 afterP ts with | .error e => .error e | .ok (r, ts) => q1c { q with after := r } s ts
def q1a (q : Qy) (s : Sps) (ts : List Tok) : E (Qy × Sps) := match optP 32 0 modeP ts with | .error e => .error e | .ok (r, ts) => q1b { q with mode := r } s ts
def noQ : Qy := ⟨[], 0, 0, [], 0, eS, []⟩
def noS : Sps := ⟨[], [], 0, 0, []⟩
def queryP (e : Int) (ts : List Tok) : E (Qy × Sps) :=
  match wantE 30 ts with
  | .error e => .error e
  | .ok (_, ts) => match wantE 31 ts with
    | .error e => .error e
    | .ok (_, ts) => match itemsP e ts with
      | .error e => .error e
      | .ok (is, sp, ts) => q1a { noQ with items := is } { noS with items := sp } ts
def wholeP (ts : List Tok) : E (List Nd × List Int) := do
  let (x, y, ts) ← treeP ts
  let _ ← endP ts
  pure (x, y)

end Go.Proofs.YtmoimmghmmomlaaDoor
