/-
  Flows on paper: which ones are valid, their text, and how a text is read (mathematics only; the functions follow the program's own order).
-/
import Derived.Lib.AtoiTie
import Derived.Lib.ItoaNum
import Derived.Lib.IndexMore
import Derived.Lib.Split
import Derived.Lib.Join
namespace Go.Proofs.YtcaclijkkbhfhaaGreatDoor.Fl
open Go.Lib

structure Step where
  recipe : Int
  tools : List Int
  least : Int
  most : Int
  next : List Int
  back : Int
  limit : Int
  deriving DecidableEq
structure Win where
  src : Int
  dst : Int
  limit : Int
  deriving DecidableEq
structure Flow where
  least : Int
  most : Int
  steps : List Step
  wins : List Win
  deriving DecidableEq

/-! ### which flows are valid -/
def within (n a b : Int) : Bool := decide (a ≤ n) && decide (n ≤ b)
def asc (count : Int) : Int → List Int → Bool
  | _, [] => true
  | last, n :: l => !(decide (n ≤ last) || decide (count ≤ n)) && asc count n l
def vMoves (a b : Int) : Bool := within a 0 b && decide (b ≤ 10000)
def vRework (back limit count : Int) : Bool := if back = -1 then decide (limit = 0) else within back 0 (count - 1) && within limit 1 9
def vStep (count : Int) (s : Step) : Bool :=
  within s.recipe 1 1000000 && within s.tools.length 1 8 && asc 60 (-1) s.tools && within s.least 1 s.most && decide (s.most ≤ 10000) &&
    decide (s.next.length ≤ 4) && asc count (-1) s.next && vRework s.back s.limit count
def vSteps (count : Int) (l : List Step) : Bool := decide (l.length ≤ 40) && l.all (vStep count)
def vWin (count : Int) (w : Win) : Bool := within w.src 0 (count - 1) && within w.dst 0 (count - 1) && decide (w.src ≠ w.dst) && within w.limit 0 1000000
/-- Does v stand ahead of w? -/
def ahead (v w : Win) : Bool := decide (v.src < w.src) || (decide (v.src = w.src) && decide (v.dst < w.dst))
def vWinsFrom (count : Int) : Option Win → List Win → Bool
  | _, [] => true
  | none, w :: l => vWin count w && vWinsFrom count (some w) l
  | some v, w :: l => vWin count w && ahead v w && vWinsFrom count (some w) l
def vWins (count : Int) (l : List Win) : Bool := decide (l.length ≤ 20) && vWinsFrom count none l
def valid (f : Flow) : Bool := vMoves f.least f.most && decide (0 < f.steps.length) && vSteps f.steps.length f.steps && vWins f.steps.length f.wins

/-! ### the text -/
def span (a b : Int) : List UInt8 := itoa a ++ [46, 46] ++ itoa b
def nums (l : List Int) : List UInt8 := if l = [] then [45] else join (l.map itoa) [44]
/-- move, step, recipe, tools, time, next, back, limit, window -/
def wMove : List UInt8 := [109, 111, 118, 101]
def wStep : List UInt8 := [115, 116, 101, 112]
def wRecipe : List UInt8 := [114, 101, 99, 105, 112, 101]
def wTools : List UInt8 := [116, 111, 111, 108, 115]
def wTime : List UInt8 := [116, 105, 109, 101]
def wNext : List UInt8 := [110, 101, 120, 116]
def wBack : List UInt8 := [98, 97, 99, 107]
def wLimit : List UInt8 := [108, 105, 109, 105, 116]
def wWindow : List UInt8 := [119, 105, 110, 100, 111, 119]
def moveWords (a b : Int) : List (List UInt8) := [wMove, span a b]
def stepWords (n : Int) (s : Step) : List (List UInt8) :=
  [wStep, itoa n, wRecipe, itoa s.recipe, wTools, nums s.tools, wTime, span s.least s.most, wNext, nums s.next] ++
    (if s.back = -1 then [] else [wBack, itoa s.back, wLimit, itoa s.limit])
def winWords (w : Win) : List (List UInt8) := [wWindow, itoa w.src, itoa w.dst, itoa w.limit]
def line (ws : List (List UInt8)) : List UInt8 := join ws [32] ++ [10]
def stepLines : Int → List Step → List UInt8
  | _, [] => []
  | n, s :: l => line (stepWords n s) ++ stepLines (n + 1) l
def text (f : Flow) : List UInt8 := line (moveWords f.least f.most) ++ stepLines 0 f.steps ++ (f.wins.map fun w => line (winWords w)).flatten

/-! ### reading: words are cut off one by one; none where something is not right -/
def number (w : List UInt8) : Option Int := match atoiAll w with
  | .ok v => if 0 ≤ v ∧ itoa v = w then some v else none
  | _ => none
def numbersOf : List (List UInt8) → Option (List Int)
  | [] => some []
  | w :: l => (number w).bind fun n => (numbersOf l).bind fun r => some (n :: r)
def numbers (w : List UInt8) (most : Nat) : Option (List Int) := numbersOf (splitN w [44] most)
/-- What is left of a line: nothing, or a rest. -/
abbrev Rest := Option (List UInt8)
def word {α} (r : Rest) (k : List UInt8 → Rest → Option α) : Option α := match r with
  | none => none
  | some s => k (cut s [32]).1 (if (cut s [32]).2.2 = true then some (cut s [32]).2.1 else none)
def skip {α} (x : List UInt8) (r : Rest) (k : Rest → Option α) : Option α := word r fun w r => if w = x then k r else none
def num {α} (r : Rest) (k : Int → Rest → Option α) : Option α := word r fun w r => (number w).bind fun n => k n r
def two {α} (r : Rest) (k : Int → Int → Rest → Option α) : Option α := word r fun w r =>
  if (cut w [46, 46]).2.2 = true then (number (cut w [46, 46]).1).bind fun a => (number (cut w [46, 46]).2.1).bind fun b => k a b r else none
structure St where
  flow : Flow
  last : List UInt8
def readMove (f : Flow) (r : Rest) : Option (Flow × Rest) := two r fun a b r => if vMoves a b = true then some ({ f with least := a, most := b }, r) else none
def readNext (w : List UInt8) : Option (List Int) := if w = [45] then some [] else numbers w 4
def readBack (r : Rest) : Option ((Int × Int) × Rest) := match r with
  | none => some ((-1, 0), none)
  | some s => skip wBack (some s) fun r => num r fun b r => skip wLimit r fun r => num r fun l r => some ((b, l), r)
def readStep (f : Flow) (r : Rest) : Option (Flow × Rest) :=
  num r fun n r => if n = f.steps.length then
    skip wRecipe r fun r => num r fun recipe r => skip wTools r fun r => word r fun w r => (numbers w 8).bind fun tools =>
    skip wTime r fun r => two r fun a b r => skip wNext r fun r => word r fun w r => (readNext w).bind fun next =>
    (readBack r).bind fun ⟨⟨back, limit⟩, r⟩ =>
      if vSteps 40 (f.steps ++ [⟨recipe, tools, a, b, next, back, limit⟩]) = true then some ({ f with steps := f.steps ++ [⟨recipe, tools, a, b, next, back, limit⟩] }, r) else none
  else none
def readWin (f : Flow) (r : Rest) : Option (Flow × Rest) :=
  num r fun a r => num r fun b r => num r fun l r =>
    if vWins 40 (f.wins ++ [⟨a, b, l⟩]) = true then some ({ f with wins := f.wins ++ [⟨a, b, l⟩] }, r) else none
def readLine (st : St) (l : List UInt8) : Option St :=
  word (some l) fun w r =>
    (if w = wMove then (if st.last = [] then readMove st.flow r else none)
     else if w = wStep then (if st.last = wMove ∨ st.last = wStep then readStep st.flow r else none)
     else if w = wWindow then (if st.last = wStep ∨ st.last = wWindow then readWin st.flow r else none)
     else none).bind fun ⟨f, r⟩ => if r = none then some ⟨f, w⟩ else none
def ignored (l : List UInt8) : Bool := match l with
  | [] => true
  | c :: _ => decide (c = 35)
/-- The lines of a text. -/
def lines : List UInt8 → List (List UInt8)
  | [] => [[]]
  | c :: s => if c = 10 then [] :: lines s else match lines s with
    | [] => [[c]]
    | l :: r => (c :: l) :: r
/-- The lines read: the number of the first that is not right, or what they say. -/
def readLines (n : Nat) (st : St) : List (List UInt8) → Except Nat St
  | [] => .ok st
  | l :: r => if ignored l = true then readLines (n + 1) st r else match readLine st l with
    | none => .error (n + 1)
    | some st' => readLines (n + 1) st' r
def noFlow : Flow := ⟨0, 0, [], []⟩
def parse (s : List UInt8) : Except Nat Flow := match readLines 0 ⟨noFlow, []⟩ (lines s) with
  | .error n => .error n
  | .ok st => if valid st.flow = true then .ok st.flow else .error (lines s).length
end Go.Proofs.YtcaclijkkbhfhaaGreatDoor.Fl
