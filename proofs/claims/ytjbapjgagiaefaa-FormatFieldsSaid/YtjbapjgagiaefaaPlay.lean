/- Play, Play. -/
import GoSem.Step
/- Play: an evaluator of the model's code over a symbolic heap, made to be run by the kernel: the definitions. Recursors stand with their minor premises closed, so that the kernel has little to copy. -/
namespace Go.Play
set_option linter.unusedVariables false

/-- Names of objects, and places in trees: numbers in bijective base 2, the lowest digit first. -/
inductive Pa where
  | e
  | l (p : Pa)
  | r (p : Pa)
noncomputable def Pa.succ (p : Pa) : Pa := Pa.rec (motive := fun _ => Pa) (.l .e) (fun p _ => .r p) (fun _ ih => .l ih) p
noncomputable def paF (f : Nat) : Nat → Pa :=
  Nat.rec (motive := fun _ => Nat → Pa) (fun _ => .e)
    (fun _ ih n => Nat.rec (motive := fun _ => (Nat → Pa) → Pa) (fun _ => .e)
      (fun k _ ih => Bool.rec (motive := fun _ => (Nat → Pa) → Nat → Pa) (fun ih k => .r (ih k)) (fun ih k => .l (ih k)) (Nat.beq (Nat.mod k 2) 0) ih (Nat.div k 2)) n ih) f
noncomputable def pa (n : Nat) : Pa := paF n n
noncomputable def Pa.beq (p : Pa) : Pa → Bool :=
  Pa.rec (motive := fun _ => Pa → Bool) (fun q => Pa.rec (motive := fun _ => Bool) true (fun _ _ => false) (fun _ _ => false) q)
    (fun _ ih q => Pa.rec (motive := fun _ => (Pa → Bool) → Bool) (fun _ => false) (fun q _ ih => ih q) (fun _ _ _ => false) q ih)
    (fun _ ih q => Pa.rec (motive := fun _ => (Pa → Bool) → Bool) (fun _ => false) (fun _ _ _ => false) (fun q _ ih => ih q) q ih) p

inductive T (α : Type) where
  | nil
  | node (v : α) (l r : T α)

/-- A value, its addresses told by objects. 'any': some value of one cell that is no bool. 'lit': a value that names no object. 'slc': ex: the capacity is exactly cap, else at least. 'eslc': some slice without elements that is not nil. -/
inductive SV where
  | lit (v : Value)
  | ptr (o : Pa) (off : Nat)
  | slc (o : Pa) (off len cap : Nat) (ex : Bool)
  | eslc
  | mapv (o : Pa)
  | fn (f : FuncId) (first cap : List SV)
  | yld (o : Pa)
  | ifc (t : TypeId) (v : SV)
  | agg (l : List SV)
  | tup (l : List SV)
  | any
def undefS : SV := .lit undef
inductive SDef where
  | call (f : FuncId) (args : List SV)
  | collected (o : Pa)
inductive SO where
  | none
  | cells (vs : List SV) (elem : TypeId) (own : Bool)
  | mapo (es : List (SV × SV × Nat)) (clock : Nat) (own : Bool)
  | sit (s : ByteArray) (pos : Nat)
  | mit (m : Option Pa) (since : Nat) (seen : List Nat) (stepped : Nat)
  | loop (st : LoopState) (pend : Option Code) (fn : FuncId) (tmps : T SV) (params : Array Tmp) (assign body : Code) (defers : Pa)
  | deferred (ds : Option (List SDef))
inductive H where
  | mk (n : Pa) (objs : T SO)
inductive Eff where
  | val (v : SV) (h : H)
  | enter (f : FuncId) (args : List SV)
  | round (l : Pa) (args : List SV)
  | recover
  | defer (d : SDef)
  | panic (v : SV)
  | bad
inductive SI where
  | code (c : Code)
  | inBlock (id : Nat)
  | inLoop (body : Code)
  | inScope (body : Code)
  | inReg (ops : Array Oper) (todo : List Oper)
  | inRF (l : Pa)
  | endRF (l : Pa)
  | beginRound
inductive SMode where
  | run | ret
  | pan (chain : List (SV × Bool))
/-- What stays of a frame: the function, how it was entered, the round's loop. -/
inductive FI where
  | mk (fn : FuncId) (kind : CallKind) (ro : Option Pa)
inductive SF where
  | mk (fi : FI) (tm : T SV) (todo : List SI) (de : List SDef) (mode : SMode)
inductive Res where
  | next (f : SF) (cs : List SF) (h : H)
  | done (v : SV) (h : H)
  | pan (chain : List (SV × Bool)) (h : H)
  | bad

noncomputable def andB (a : Bool) : Bool → Bool := (Bool.rec (motive := fun _ => Bool → Bool) (fun _ => false) (fun b => b)) a
-- trees of slots
noncomputable def stop (t : T SV) : SV := T.rec (motive := fun _ => SV) undefS (fun v _ _ _ _ => v) t
noncomputable def slt (t : T SV) : T SV := T.rec (motive := fun _ => T SV) .nil (fun _ l _ _ _ => l) t
noncomputable def srt (t : T SV) : T SV := T.rec (motive := fun _ => T SV) .nil (fun _ _ r _ _ => r) t
noncomputable def sget (p : Pa) : T SV → SV := Pa.rec (motive := fun _ => T SV → SV) stop (fun _ ih t => ih (slt t)) (fun _ ih t => ih (srt t)) p
noncomputable def sset (p : Pa) : SV → T SV → (T SV → Res) → Res :=
  Pa.rec (motive := fun _ => SV → T SV → (T SV → Res) → Res)
    (fun x t K => T.rec (motive := fun _ => SV → (T SV → Res) → Res) (fun x K => K (.node x .nil .nil)) (fun _ l r _ _ x K => K (.node x l r)) t x K)
    (fun _ ih x t K => T.rec (motive := fun _ => (SV → T SV → (T SV → Res) → Res) → SV → (T SV → Res) → Res) (fun ih x K => ih x .nil (fun l' => K (.node undefS l' .nil))) (fun v l r _ _ ih x K => ih x l (fun l' => K (.node v l' r))) t ih x K)
    (fun _ ih x t K => T.rec (motive := fun _ => (SV → T SV → (T SV → Res) → Res) → SV → (T SV → Res) → Res) (fun ih x K => ih x .nil (fun r' => K (.node undefS .nil r'))) (fun v l r _ _ ih x K => ih x r (fun r' => K (.node v l r'))) t ih x K) p
-- the heap
noncomputable def otop (t : T SO) : SO := T.rec (motive := fun _ => SO) .none (fun v _ _ _ _ => v) t
noncomputable def olt (t : T SO) : T SO := T.rec (motive := fun _ => T SO) .nil (fun _ l _ _ _ => l) t
noncomputable def ort (t : T SO) : T SO := T.rec (motive := fun _ => T SO) .nil (fun _ _ r _ _ => r) t
noncomputable def oget (p : Pa) : T SO → SO := Pa.rec (motive := fun _ => T SO → SO) otop (fun _ ih t => ih (olt t)) (fun _ ih t => ih (ort t)) p
noncomputable def oset {R : Type} (p : Pa) : SO → T SO → (T SO → R) → R :=
  Pa.rec (motive := fun _ => SO → T SO → (T SO → R) → R)
    (fun x t K => T.rec (motive := fun _ => SO → (T SO → R) → R) (fun x K => K (.node x .nil .nil)) (fun _ l r _ _ x K => K (.node x l r)) t x K)
    (fun _ ih x t K => T.rec (motive := fun _ => (SO → T SO → (T SO → R) → R) → SO → (T SO → R) → R) (fun ih x K => ih x .nil (fun l' => K (.node .none l' .nil))) (fun v l r _ _ ih x K => ih x l (fun l' => K (.node v l' r))) t ih x K)
    (fun _ ih x t K => T.rec (motive := fun _ => (SO → T SO → (T SO → R) → R) → SO → (T SO → R) → R) (fun ih x K => ih x .nil (fun r' => K (.node .none .nil r'))) (fun v l r _ _ ih x K => ih x r (fun r' => K (.node v l r'))) t ih x K) p
noncomputable def newE (h : H) : SO → (Pa → H → Eff) → Eff := (H.rec (motive := fun _ => SO → (Pa → H → Eff) → Eff) (fun n ob => fun o K => oset n o ob (fun ob' => K n (.mk (Pa.succ n) ob')))) h
noncomputable def putE (h : H) : Pa → SO → (H → Eff) → Eff := (H.rec (motive := fun _ => Pa → SO → (H → Eff) → Eff) (fun n ob => fun i o K => oset i o ob (fun ob' => K (.mk n ob')))) h
noncomputable def newR (h : H) : SO → (Pa → H → Res) → Res := (H.rec (motive := fun _ => SO → (Pa → H → Res) → Res) (fun n ob => fun o K => oset n o ob (fun ob' => K n (.mk (Pa.succ n) ob')))) h
noncomputable def putR (h : H) : Pa → SO → (H → Res) → Res := (H.rec (motive := fun _ => Pa → SO → (H → Res) → Res) (fun n ob => fun i o K => oset i o ob (fun ob' => K (.mk n ob')))) h
noncomputable def hget (h : H) : Pa → SO := (H.rec (motive := fun _ => Pa → SO) (fun _ ob => fun i => oget i ob)) h

-- what the model says of an operation that looks at nothing
inductive StillR (α : Type) where
  | ok (a : α)
  | panic (v : Value)
  | no
def still {α : Type} (P : Program) : Sem α → StillR α
  | .pure a => .ok a
  | .mark _ k => still P k
  | .program k => still P (k P)
  | .halt (.panic v) => .panic v
  | _ => .no
noncomputable def stillR (r : StillR Value) : H → Eff := (StillR.rec (motive := fun _ => H → Eff) (fun v => fun h => .val (.lit v) h) (fun v => fun _ => .panic (.lit v)) (fun _ => .bad)) r
noncomputable def stillVal (P : Program) (h : H) (s : Sem Value) : Eff := stillR (still P s) h

noncomputable def ev (x : Operand) : T SV → SV := (Operand.rec (motive := fun _ => T SV → SV) (fun i => sget (pa i)) (fun v => fun _ => .lit v) (fun g => fun _ => .lit (.pointer (some ⟨g, 0, none⟩))) (fun f => fun _ => .fn f [] [])) x
noncomputable def evL (l : List Operand) : T SV → List SV := (List.rec (motive := fun _ => T SV → List SV) (fun _ => []) (fun x _ ih => fun t => ev x t :: ih t)) l

-- lists
noncomputable def lenS (l : List SV) : Nat := (List.rec (motive := fun _ => Nat) (0) (fun _ _ n => Nat.succ n)) l
noncomputable def consS (o : Option (List SV)) : SV → Option (List SV) := (Option.rec (motive := fun _ => SV → Option (List SV)) (fun _ => none) (fun r => fun x => some (x :: r))) o
noncomputable def takeS (n : Nat) : List SV → Option (List SV) :=
  (Nat.rec (motive := fun _ => List SV → Option (List SV)) (fun _ => some []) (fun _ ih => fun l => (List.rec (motive := fun _ => (List SV → Option (List SV)) → Option (List SV)) (fun _ => none) (fun x l _ => fun ih => consS (ih l) x)) l ih)) n
noncomputable def dropS (n : Nat) : List SV → List SV :=
  (Nat.rec (motive := fun _ => List SV → List SV) (fun l => l) (fun _ ih => fun l => (List.rec (motive := fun _ => (List SV → List SV) → List SV) (fun _ => []) (fun x l _ => fun ih => ih l)) l ih)) n
noncomputable def headS (l : List SV) : Option SV := (List.rec (motive := fun _ => Option SV) (none) (fun x _ _ => some x)) l
noncomputable def nthS (n : Nat) (l : List SV) : Option SV := headS (dropS n l)
noncomputable def overS (xs : List SV) : List SV → Option (List SV) :=
  (List.rec (motive := fun _ => List SV → Option (List SV)) (fun l => some l) (fun x _ ih => fun l => (List.rec (motive := fun _ => SV → (List SV → Option (List SV)) → Option (List SV)) (fun _ _ => none) (fun _ l _ => fun x ih => consS (ih l) x)) l x ih)) xs
/-- l with xs laid over it from off on. -/
noncomputable def overAt (off : Nat) : List SV → List SV → Option (List SV) :=
  (Nat.rec (motive := fun _ => List SV → List SV → Option (List SV)) (overS) (fun _ ih => fun xs l => (List.rec (motive := fun _ => (List SV → List SV → Option (List SV)) → List SV → Option (List SV)) (fun _ _ => none) (fun x l _ => fun ih xs => consS (ih xs l) x)) l ih xs)) off
noncomputable def appS (l : List SV) : List SV → List SV := (List.rec (motive := fun _ => List SV → List SV) (fun m => m) (fun x _ ih => fun m => x :: ih m)) l
noncomputable def repS (n : Nat) : List SV → List SV := (Nat.rec (motive := fun _ => List SV → List SV) (fun _ => []) (fun _ ih => fun l => appS l (ih l))) n
noncomputable def nthV (n : Nat) : List Value → Option Value :=
  (Nat.rec (motive := fun _ => List Value → Option Value) (fun l => (List.rec (motive := fun _ => Option Value) (none) (fun x _ _ => some x)) l) (fun _ ih => fun l => (List.rec (motive := fun _ => (List Value → Option Value) → Option Value) (fun _ => none) (fun _ l _ => fun ih => ih l)) l ih)) n
noncomputable def nthB (n : Nat) : List UInt8 → Option UInt8 :=
  (Nat.rec (motive := fun _ => List UInt8 → Option UInt8) (fun l => (List.rec (motive := fun _ => Option UInt8) (none) (fun x _ _ => some x)) l) (fun _ ih => fun l => (List.rec (motive := fun _ => (List UInt8 → Option UInt8) → Option UInt8) (fun _ => none) (fun _ l _ => fun ih => ih l)) l ih)) n
noncomputable def nthI (n : Nat) : List TypeInfo → Option TypeInfo :=
  (Nat.rec (motive := fun _ => List TypeInfo → Option TypeInfo) (fun l => (List.rec (motive := fun _ => Option TypeInfo) (none) (fun x _ _ => some x)) l) (fun _ ih => fun l => (List.rec (motive := fun _ => (List TypeInfo → Option TypeInfo) → Option TypeInfo) (fun _ => none) (fun _ l _ => fun ih => ih l)) l ih)) n
noncomputable def nthF (n : Nat) : List Func → Option Func :=
  (Nat.rec (motive := fun _ => List Func → Option Func) (fun l => (List.rec (motive := fun _ => Option Func) (none) (fun x _ _ => some x)) l) (fun _ ih => fun l => (List.rec (motive := fun _ => (List Func → Option Func) → Option Func) (fun _ => none) (fun _ l _ => fun ih => ih l)) l ih)) n
noncomputable def nthD (n : Nat) : List Field → Option Field :=
  (Nat.rec (motive := fun _ => List Field → Option Field) (fun l => (List.rec (motive := fun _ => Option Field) (none) (fun x _ _ => some x)) l) (fun _ ih => fun l => (List.rec (motive := fun _ => (List Field → Option Field) → Option Field) (fun _ => none) (fun _ l _ => fun ih => ih l)) l ih)) n
noncomputable def nthO (n : Nat) : List Oper → Option Oper :=
  (Nat.rec (motive := fun _ => List Oper → Option Oper) (fun l => (List.rec (motive := fun _ => Option Oper) (none) (fun x _ _ => some x)) l) (fun _ ih => fun l => (List.rec (motive := fun _ => (List Oper → Option Oper) → Option Oper) (fun _ => none) (fun _ l _ => fun ih => ih l)) l ih)) n

-- types
noncomputable def infoO (P : Program) (t : TypeId) : Option TypeInfo := nthI t P.types.toList
noncomputable def funcO (P : Program) (f : FuncId) : Option Func := nthF f P.funcs.toList
noncomputable def descI (i : Option TypeInfo) : Option TypeDesc := (Option.rec (motive := fun _ => Option TypeDesc) (none) (fun i => some i.desc)) i
noncomputable def undD (d : TypeDesc) : TypeDesc → Program → Option TypeDesc := (TypeDesc.rec (motive := fun _ => TypeDesc → Program → Option TypeDesc) (fun d _ => some d) (fun d _ => some d) (fun _ => fun d _ => some d) (fun _ => fun d _ => some d) (fun _ => fun d _ => some d) (fun d _ => some d) (fun d _ => some d) (fun _ => fun d _ => some d) (fun _ => fun d _ => some d) (fun _ _ => fun d _ => some d) (fun _ _ => fun d _ => some d) (fun _ _ => fun d _ => some d) (fun _ => fun d _ => some d) (fun _ _ _ => fun d _ => some d) (fun _ => fun d _ => some d) (fun _ => fun d _ => some d) (fun _ u => fun _ P => descI (infoO P u))) d
noncomputable def undI (d : Option TypeDesc) : Program → Option TypeDesc := (Option.rec (motive := fun _ => Program → Option TypeDesc) (fun _ => none) (fun d => fun P => undD d d P)) d
noncomputable def undO (P : Program) (t : TypeId) : Option TypeDesc := undI (descI (infoO P t)) P
noncomputable def aggD (d : TypeDesc) : Bool := (TypeDesc.rec (motive := fun _ => Bool) (false) (false) (fun _ => false) (fun _ => false) (fun _ => false) (false) (false) (fun _ => false) (fun _ => false) (fun _ _ => true) (fun _ _ => false) (fun _ _ => false) (fun _ => true) (fun _ _ _ => false) (fun _ => false) (fun _ => false) (fun _ _ => false)) d
/-- Has the type a structure or an array under it? none: no such type. -/
noncomputable def aggT (P : Program) (t : TypeId) : Option Bool := (Option.rec (motive := fun _ => Option Bool) (none) (fun d => some (aggD d))) (undO P t)
noncomputable def zeroI (i : Option TypeInfo) : Option Value := (Option.rec (motive := fun _ => Option Value) (none) (fun i => i.zero)) i
noncomputable def zeroO (P : Program) (t : TypeId) : Option Value := zeroI (infoO P t)
noncomputable def sizeI (i : Option TypeInfo) : Option Nat := (Option.rec (motive := fun _ => Option Nat) (none) (fun i => some i.size)) i
noncomputable def sizeO (P : Program) (t : TypeId) : Option Nat := sizeI (infoO P t)

def litCells (v : Value) : List SV := match v with | .agg cs => cs.toList.map .lit | v => [.lit v]
noncomputable def cellsV (v : SV) : SV → List SV := (SV.rec (motive_1 := fun _ => SV → List SV) (motive_2 := fun _ => Unit) (fun v => fun _ => litCells v) (fun _ _ => fun v => [v]) (fun _ _ _ _ _ => fun v => [v]) (fun v => [v]) (fun _ => fun v => [v]) (fun _ _ _ _ _ => fun v => [v]) (fun _ => fun v => [v]) (fun _ _ _ => fun v => [v]) (fun l _ => fun _ => l) (fun _ _ => fun v => [v]) (fun v => [v]) () (fun _ _ _ _ => ())) v
noncomputable def cellsOf (v : SV) : List SV := cellsV v v
noncomputable def single1 (l : List SV) : SV → Option SV := (List.rec (motive := fun _ => SV → Option SV) (fun v => some v) (fun _ _ _ => fun _ => none)) l
noncomputable def single (l : List SV) : Option SV := (List.rec (motive := fun _ => Option SV) (none) (fun v l _ => single1 l v)) l
noncomputable def mkValB (b : Bool) : List SV → Option SV := (Bool.rec (motive := fun _ => List SV → Option SV) (single) (fun l => some (.agg l))) b
noncomputable def mkVal (b : Option Bool) : List SV → Option SV := (Option.rec (motive := fun _ => List SV → Option SV) (fun _ => none) (fun b => mkValB b)) b
noncomputable def aggS (o : Option (List SV)) : Option SV := (Option.rec (motive := fun _ => Option SV) (none) (fun l => some (.agg l))) o
noncomputable def partN (n : Option Nat) : List SV → Option SV := (Option.rec (motive := fun _ => List SV → Option SV) (fun _ => none) (fun n => fun l => aggS (takeS n l))) n
noncomputable def partB (b : Bool) : Option Nat → List SV → Option SV := (Bool.rec (motive := fun _ => Option Nat → List SV → Option SV) (fun _ l => headS l) (partN)) b
noncomputable def partO (b : Option Bool) : Option Nat → List SV → Option SV := (Option.rec (motive := fun _ => Option Nat → List SV → Option SV) (fun _ _ => none) (fun b => partB b)) b
noncomputable def part (P : Program) (t : TypeId) (cs : List SV) (off : Nat) : Option SV := partO (aggT P t) (sizeO P t) (dropS off cs)

/-- What is known of the package variables: the number of a variable, its cells. -/
abbrev Glob := List (Nat × List SV)
noncomputable def gfind2 (b : Bool) : List SV → Option (List SV) → Option (List SV) := (Bool.rec (motive := fun _ => List SV → Option (List SV) → Option (List SV)) (fun _ r => r) (fun l _ => some l)) b
noncomputable def gfind (G : Glob) : Nat → Option (List SV) := (List.rec (motive := fun _ => Nat → Option (List SV)) (fun _ => none) (fun p _ ih => fun g => gfind2 (Nat.beq p.1 g) p.2 (ih g))) G
noncomputable def cellsAt (o : SO) : Nat → Nat → Option (List SV) := (SO.rec (motive := fun _ => Nat → Nat → Option (List SV)) (fun _ _ => none) (fun vs _ _ => fun off n => takeS n (dropS off vs)) (fun _ _ _ => fun _ _ => none) (fun _ _ => fun _ _ => none) (fun _ _ _ _ => fun _ _ => none) (fun _ _ _ _ _ _ _ _ => fun _ _ => none) (fun _ => fun _ _ => none)) o
noncomputable def globAt (o : Option (List SV)) : Nat → Nat → Option (List SV) := (Option.rec (motive := fun _ => Nat → Nat → Option (List SV)) (fun _ _ => none) (fun vs => fun off n => takeS n (dropS off vs))) o
noncomputable def loadA (a : Option Addr) : Glob → Nat → Option (List SV) := match a with | some ⟨g, off, none⟩ => fun G n => globAt (gfind G g) off n | _ => fun _ _ => none
noncomputable def loadG (v : Value) : Glob → Nat → Option (List SV) := (Value.rec (motive_1 := fun _ => Glob → Nat → Option (List SV)) (motive_2 := fun _ => Unit) (motive_3 := fun _ => Unit) (fun _ => fun _ _ => none) (fun _ _ => fun _ _ => none) (fun _ _ => fun _ _ => none) (fun _ _ _ => fun _ _ => none) (fun _ => fun _ _ => none) (fun a => loadA a) (fun _ _ _ => fun _ _ => none) (fun _ => fun _ _ => none) (fun _ => fun _ _ => none) (fun _ _ _ _ _ => fun _ _ => none) (fun _ _ => none) (fun _ _ _ => fun _ _ => none) (fun _ _ => none) (fun _ _ => fun _ _ => none) (fun _ _ => fun _ _ => none) (fun _ _ => ()) () (fun _ _ _ _ => ())) v
noncomputable def loadC (a : SV) : Glob → H → Nat → Option (List SV) := (SV.rec (motive_1 := fun _ => Glob → H → Nat → Option (List SV)) (motive_2 := fun _ => Unit) (fun v => fun G _ n => loadG v G n) (fun o off => fun _ h n => cellsAt (hget h o) off n) (fun _ _ _ _ _ => fun _ _ _ => none) (fun _ _ _ => none) (fun _ => fun _ _ _ => none) (fun _ _ _ _ _ => fun _ _ _ => none) (fun _ => fun _ _ _ => none) (fun _ _ _ => fun _ _ _ => none) (fun _ _ => fun _ _ _ => none) (fun _ _ => fun _ _ _ => none) (fun _ _ _ => none) () (fun _ _ _ _ => ())) a
noncomputable def loadN (n : Option Nat) : SV → Glob → H → Option (List SV) := (Option.rec (motive := fun _ => SV → Glob → H → Option (List SV)) (fun _ _ _ => none) (fun n => fun a G h => loadC a G h n)) n
noncomputable def oneW (v : Value) : Bool := (Value.rec (motive_1 := fun _ => Bool) (motive_2 := fun _ => Unit) (motive_3 := fun _ => Unit) (fun _ => true) (fun _ _ => true) (fun _ _ => true) (fun _ _ _ => true) (fun _ => true) (fun _ => true) (fun _ _ _ => true) (fun _ => true) (fun _ => true) (fun _ _ _ _ _ => true) (true) (fun _ _ _ => true) (true) (fun _ _ => false) (fun _ _ => false) (fun _ _ => ()) () (fun _ _ _ _ => ())) v
noncomputable def oneV (v : SV) : Bool := (SV.rec (motive_1 := fun _ => Bool) (motive_2 := fun _ => Unit) (fun v => oneW v) (fun _ _ => true) (fun _ _ _ _ _ => true) (true) (fun _ => true) (fun _ _ _ _ _ => true) (fun _ => true) (fun _ _ _ => true) (fun _ _ => false) (fun _ _ => false) (true) () (fun _ _ _ _ => ())) v
noncomputable def oneL (l : List SV) : Bool := (List.rec (motive := fun _ => Bool) (true) (fun x _ ih => andB (oneV x) ih)) l
noncomputable def store3 (l : Option (List SV)) : H → Pa → TypeId → (H → Eff) → Eff := (Option.rec (motive := fun _ => H → Pa → TypeId → (H → Eff) → Eff) (fun _ _ _ _ => .bad) (fun vs => fun h o e K => putE h o (.cells vs e true) K)) l
noncomputable def store2 (own : Bool) : List SV → TypeId → H → Pa → Nat → List SV → (H → Eff) → Eff := (Bool.rec (motive := fun _ => List SV → TypeId → H → Pa → Nat → List SV → (H → Eff) → Eff) (fun _ _ _ _ _ _ _ => .bad) (fun vs e h o off xs K => store3 (overAt off xs vs) h o e K)) own
noncomputable def store1 (ob : SO) : H → Pa → Nat → List SV → (H → Eff) → Eff := (SO.rec (motive := fun _ => H → Pa → Nat → List SV → (H → Eff) → Eff) (fun _ _ _ _ _ => .bad) (fun vs e own => fun h o off xs K => store2 (andB own (oneL xs)) vs e h o off xs K) (fun _ _ _ => fun _ _ _ _ _ => .bad) (fun _ _ => fun _ _ _ _ _ => .bad) (fun _ _ _ _ => fun _ _ _ _ _ => .bad) (fun _ _ _ _ _ _ _ _ => fun _ _ _ _ _ => .bad) (fun _ => fun _ _ _ _ _ => .bad)) ob
noncomputable def storeE (h : H) (o : Pa) (off : Nat) (xs : List SV) (K : H → Eff) : Eff := store1 (hget h o) h o off xs K
def bytesSV (s : ByteArray) : List SV := s.data.toList.map fun b => .lit (.int .u8 (.ofNat b.toNat))
def litSliceC (v : Value) : Option (List SV) := match v with | .slice none 0 _ => some [] | .string s => some (bytesSV s) | _ => none
noncomputable def sliceC (x : SV) : H → Nat → Option (List SV) := (SV.rec (motive_1 := fun _ => H → Nat → Option (List SV)) (motive_2 := fun _ => Unit) (fun v => fun _ _ => litSliceC v) (fun _ _ => fun _ _ => none) (fun o off len _ _ => fun h sz => cellsAt (hget h o) off (Nat.mul len sz)) (fun _ _ => some []) (fun _ => fun _ _ => none) (fun _ _ _ _ _ => fun _ _ => none) (fun _ => fun _ _ => none) (fun _ _ _ => fun _ _ => none) (fun _ _ => fun _ _ => none) (fun _ _ => fun _ _ => none) (fun _ _ => none) () (fun _ _ _ _ => ())) x
def litLen (v : Value) : Option Nat := match v with | .slice none n _ => some n | .string s => some s.size | _ => none
noncomputable def lenV (x : SV) : Option Nat := (SV.rec (motive_1 := fun _ => Option Nat) (motive_2 := fun _ => Unit) (fun v => litLen v) (fun _ _ => none) (fun _ _ n _ _ => some n) (some 0) (fun _ => none) (fun _ _ _ _ _ => none) (fun _ => none) (fun _ _ _ => none) (fun _ _ => none) (fun _ _ => none) (none) () (fun _ _ _ _ => ())) x
noncomputable def asNI (z : Int) : Option Nat := (Int.rec (motive := fun _ => Option Nat) (fun n => some n) (fun _ => none)) z
noncomputable def asNV (v : Value) : Option Nat := (Value.rec (motive_1 := fun _ => Option Nat) (motive_2 := fun _ => Unit) (motive_3 := fun _ => Unit) (fun _ => none) (fun _ z => asNI z) (fun _ _ => none) (fun _ _ _ => none) (fun _ => none) (fun _ => none) (fun _ _ _ => none) (fun _ => none) (fun _ => none) (fun _ _ _ _ _ => none) (none) (fun _ _ _ => none) (none) (fun _ _ => none) (fun _ _ => none) (fun _ _ => ()) () (fun _ _ _ _ => ())) v
noncomputable def asN (x : SV) : Option Nat := (SV.rec (motive_1 := fun _ => Option Nat) (motive_2 := fun _ => Unit) (fun v => asNV v) (fun _ _ => none) (fun _ _ _ _ _ => none) (none) (fun _ => none) (fun _ _ _ _ _ => none) (fun _ => none) (fun _ _ _ => none) (fun _ _ => none) (fun _ _ => none) (none) () (fun _ _ _ _ => ())) x
noncomputable def valO (v : Option SV) : H → Eff := (Option.rec (motive := fun _ => H → Eff) (fun _ => .bad) (fun v => fun h => .val v h)) v
noncomputable def ifB (b : Bool) : Eff → Eff := (Bool.rec (motive := fun _ => Eff → Eff) (fun _ => .bad) (fun e => e)) b

-- numbers
noncomputable def kIdx (k : IntKind) : Nat := (IntKind.rec (motive := fun _ => Nat) (0) (1) (2) (3) (4) (5) (6) (7)) k
noncomputable def upToN (s : Bool) : Nat → Nat → Bool := (Bool.rec (motive := fun _ => Nat → Nat → Bool) (fun _ _ => false) (fun n m => Nat.ble n m)) s
/-- Is z at most m, and, where s, at least - (m + 1); else at least 0? -/
noncomputable def upTo (z : Int) : Nat → Bool → Bool := (Int.rec (motive := fun _ => Nat → Bool → Bool) (fun n => fun m _ => Nat.ble n m) (fun n => fun m s => upToN s n m)) z
noncomputable def fits (k : IntKind) : Int → Bool := (IntKind.rec (motive := fun _ => Int → Bool) (fun z => upTo z 127 true) (fun z => upTo z 32767 true) (fun z => upTo z 2147483647 true) (fun z => upTo z 9223372036854775807 true) (fun z => upTo z 255 false) (fun z => upTo z 65535 false) (fun z => upTo z 4294967295 false) (fun z => upTo z 18446744073709551615 false)) k
noncomputable def wrapF (k : IntKind) (z : Int) : Int := (Bool.rec (motive := fun _ => IntKind → Int → Int) (fun k z => IntKind.wrap k z) (fun _ z => z)) (fits k z) k z
noncomputable def iEqP (b : Int) : Nat → Bool := (Int.rec (motive := fun _ => Nat → Bool) (fun n => fun m => Nat.beq m n) (fun _ => fun _ => false)) b
noncomputable def iEqN (b : Int) : Nat → Bool := (Int.rec (motive := fun _ => Nat → Bool) (fun _ => fun _ => false) (fun n => fun m => Nat.beq m n)) b
noncomputable def iEq (a : Int) : Int → Bool := (Int.rec (motive := fun _ => Int → Bool) (fun m => fun b => iEqP b m) (fun m => fun b => iEqN b m)) a
noncomputable def iLeP (b : Int) : Nat → Bool := (Int.rec (motive := fun _ => Nat → Bool) (fun n => fun m => Nat.ble m n) (fun _ => fun _ => false)) b
noncomputable def iLeN (b : Int) : Nat → Bool := (Int.rec (motive := fun _ => Nat → Bool) (fun _ => fun _ => true) (fun n => fun m => Nat.ble n m)) b
noncomputable def iLe (a : Int) : Int → Bool := (Int.rec (motive := fun _ => Int → Bool) (fun m => fun b => iLeP b m) (fun m => fun b => iLeN b m)) a
noncomputable def notB (b : Bool) : Bool := (Bool.rec (motive := fun _ => Bool) (true) (false)) b
noncomputable def intBin (op : BinOp) : IntKind → Int → Int → Option Value := (BinOp.rec (motive := fun _ => IntKind → Int → Int → Option Value) (fun k a b => some (.int k (wrapF k (Int.add a b)))) (fun k a b => some (.int k (wrapF k (Int.sub a b)))) (fun k a b => some (.int k (wrapF k (Int.mul a b)))) (fun _ _ _ => none) (fun _ _ _ => none) (fun _ _ _ => none) (fun _ _ _ => none) (fun _ _ _ => none) (fun _ _ _ => none) (fun _ _ _ => none) (fun _ _ _ => none) (fun _ a b => some (.bool (iEq a b))) (fun _ a b => some (.bool (notB (iEq a b)))) (fun _ a b => some (.bool (notB (iLe b a)))) (fun _ a b => some (.bool (iLe a b))) (fun _ a b => some (.bool (notB (iLe a b)))) (fun _ a b => some (.bool (iLe b a)))) op
noncomputable def bytesEq (a : List UInt8) : List UInt8 → Bool :=
  (List.rec (motive := fun _ => List UInt8 → Bool) (fun b => (List.rec (motive := fun _ => Bool) (true) (fun _ _ _ => false)) b) (fun x _ ih => fun b => (List.rec (motive := fun _ => UInt8 → (List UInt8 → Bool) → Bool) (fun _ _ => false) (fun y b _ => fun x ih => (Bool.rec (motive := fun _ => (List UInt8 → Bool) → List UInt8 → Bool) (fun _ _ => false) (fun ih b => ih b)) (Nat.beq (UInt8.toNat x) (UInt8.toNat y)) ih b)) b x ih)) a
noncomputable def strBin (op : BinOp) : ByteArray → ByteArray → Option Value := (BinOp.rec (motive := fun _ => ByteArray → ByteArray → Option Value) (fun _ _ => none) (fun _ _ => none) (fun _ _ => none) (fun _ _ => none) (fun _ _ => none) (fun _ _ => none) (fun _ _ => none) (fun _ _ => none) (fun _ _ => none) (fun _ _ => none) (fun _ _ => none) (fun s t => some (.bool (bytesEq s.data.toList t.data.toList))) (fun s t => some (.bool (notB (bytesEq s.data.toList t.data.toList)))) (fun _ _ => none) (fun _ _ => none) (fun _ _ => none) (fun _ _ => none)) op
noncomputable def kindBin (same : Bool) : BinOp → IntKind → Int → Int → Option Value := (Bool.rec (motive := fun _ => BinOp → IntKind → Int → Int → Option Value) (fun _ _ _ _ => none) (intBin)) same
noncomputable def fastI (b : Value) : BinOp → IntKind → Int → Option Value := (Value.rec (motive_1 := fun _ => BinOp → IntKind → Int → Option Value) (motive_2 := fun _ => Unit) (motive_3 := fun _ => Unit) (fun _ => fun _ _ _ => none) (fun k' n => fun op k m => kindBin (Nat.beq (kIdx k) (kIdx k')) op k m n) (fun _ _ => fun _ _ _ => none) (fun _ _ _ => fun _ _ _ => none) (fun _ => fun _ _ _ => none) (fun _ => fun _ _ _ => none) (fun _ _ _ => fun _ _ _ => none) (fun _ => fun _ _ _ => none) (fun _ => fun _ _ _ => none) (fun _ _ _ _ _ => fun _ _ _ => none) (fun _ _ _ => none) (fun _ _ _ => fun _ _ _ => none) (fun _ _ _ => none) (fun _ _ => fun _ _ _ => none) (fun _ _ => fun _ _ _ => none) (fun _ _ => ()) () (fun _ _ _ _ => ())) b
noncomputable def fastS (b : Value) : BinOp → ByteArray → Option Value := (Value.rec (motive_1 := fun _ => BinOp → ByteArray → Option Value) (motive_2 := fun _ => Unit) (motive_3 := fun _ => Unit) (fun _ => fun _ _ => none) (fun _ _ => fun _ _ => none) (fun _ _ => fun _ _ => none) (fun _ _ _ => fun _ _ => none) (fun t => fun op s => strBin op s t) (fun _ => fun _ _ => none) (fun _ _ _ => fun _ _ => none) (fun _ => fun _ _ => none) (fun _ => fun _ _ => none) (fun _ _ _ _ _ => fun _ _ => none) (fun _ _ => none) (fun _ _ _ => fun _ _ => none) (fun _ _ => none) (fun _ _ => fun _ _ => none) (fun _ _ => fun _ _ => none) (fun _ _ => ()) () (fun _ _ _ _ => ())) b
noncomputable def fastBin (a : Value) : BinOp → Value → Option Value := (Value.rec (motive_1 := fun _ => BinOp → Value → Option Value) (motive_2 := fun _ => Unit) (motive_3 := fun _ => Unit) (fun _ => fun _ _ => none) (fun k m => fun op b => fastI b op k m) (fun _ _ => fun _ _ => none) (fun _ _ _ => fun _ _ => none) (fun s => fun op b => fastS b op s) (fun _ => fun _ _ => none) (fun _ _ _ => fun _ _ => none) (fun _ => fun _ _ => none) (fun _ => fun _ _ => none) (fun _ _ _ _ _ => fun _ _ => none) (fun _ _ => none) (fun _ _ _ => fun _ _ => none) (fun _ _ => none) (fun _ _ => fun _ _ => none) (fun _ _ => fun _ _ => none) (fun _ _ => ()) () (fun _ _ _ _ => ())) a

-- equality of values that name objects, by the type; none: not told
noncomputable def andO (a : Option Bool) : Option Bool → Option Bool := (Option.rec (motive := fun _ => Option Bool → Option Bool) (fun _ => none) (fun a => (Bool.rec (motive := fun _ => Option Bool → Option Bool) (fun _ => some false) (fun b => b)) a)) a
noncomputable def ownO (o : SO) : Bool := (SO.rec (motive := fun _ => Bool) (false) (fun _ _ b => b) (fun _ _ _ => false) (fun _ _ => false) (fun _ _ _ _ => false) (fun _ _ _ _ _ _ _ _ => false) (fun _ => false)) o
noncomputable def ptrEq (h : H) (o : Pa) (i : Nat) (o' : Pa) (j : Nat) : Option Bool := match Pa.beq o o' with
  | true => some (Nat.beq i j)
  | false => match ownO (hget h o), ownO (hget h o') with
    | true, true => some false
    | _, _ => none
/-- Equality of two cells, one of which names an object. -/
noncomputable def cellEq (d : Option TypeDesc) : H → SV → SV → Option Bool := match d with
  | some (.pointer _) => fun h a b => match a, b with
    | .lit (.pointer none), .ptr _ _ => some false
    | .ptr _ _, .lit (.pointer none) => some false
    | .ptr o i, .ptr o' j => ptrEq h o i o' j
    | _, _ => none
  | some (.interface _) => fun _ a b => match a, b with
    | .lit .nilIface, .ifc _ _ => some false
    | .ifc _ _, .lit .nilIface => some false
    | _, _ => none
  | some (.slice _) => fun _ a b => match a, b with
    | .slc _ _ _ _ _, .lit (.slice none _ _) => some false
    | .lit (.slice none _ _), .slc _ _ _ _ _ => some false
    | .eslc, .lit (.slice none _ _) => some false
    | .lit (.slice none _ _), .eslc => some false
    | _, _ => none
  | some (.map _ _) => fun _ a b => match a, b with
    | .mapv _, .lit (.map none) => some false
    | .lit (.map none), .mapv _ => some false
    | _, _ => none
  | some (.func _ _ _) => fun _ a b => match a, b with
    | .fn _ _ _, .lit .nilFunc => some false
    | .lit .nilFunc, .fn _ _ _ => some false
    | .yld _, .lit .nilFunc => some false
    | .lit .nilFunc, .yld _ => some false
    | _, _ => none
  | _ => fun _ _ _ => none
/-- Is the type told, and do the values of a pointer's element take room? -/
noncomputable def eqSized (P : Program) (d : Option TypeDesc) : Bool := match d with
  | some (.pointer e) => match sizeO P e with
    | some (_ + 1) => true
    | _ => false
  | _ => true

-- maps
/-- The types of keys that are looked for by their values alone. -/
def keyOk (d : TypeDesc) : Bool := match d with | .int _ => true | .string => true | .bool => true | _ => false
noncomputable def sameK (d : TypeDesc) (k k' : Value) : Option Bool := match d with
  | .int _ => (match k, k' with | .int a x, .int b y => (match Nat.beq (kIdx a) (kIdx b) with | true => some (iEq x y) | false => none) | _, _ => none)
  | .string => (match k, k' with | .string a, .string b => some (bytesEq a.data.toList b.data.toList) | _, _ => none)
  | .bool => (match k, k' with | .bool a, .bool b => some (a == b) | _, _ => none)
  | _ => none
noncomputable def findK2 (b : Option Bool) : Nat → SV → (Nat → Option (Option (Nat × SV))) → Option (Option (Nat × SV)) := (Option.rec (motive := fun _ => Nat → SV → (Nat → Option (Option (Nat × SV))) → Option (Option (Nat × SV))) (fun _ _ _ => none) (fun b => (Bool.rec (motive := fun _ => Nat → SV → (Nat → Option (Option (Nat × SV))) → Option (Option (Nat × SV))) (fun i _ ih => ih (Nat.succ i)) (fun i v _ => some (some (i, v)))) b)) b
noncomputable def sameKS (s : SV) : TypeDesc → Value → Option Bool := (SV.rec (motive_1 := fun _ => TypeDesc → Value → Option Bool) (motive_2 := fun _ => Unit) (fun v => fun d k => sameK d k v) (fun _ _ => fun _ _ => none) (fun _ _ _ _ _ => fun _ _ => none) (fun _ _ => none) (fun _ => fun _ _ => none) (fun _ _ _ _ _ => fun _ _ => none) (fun _ => fun _ _ => none) (fun _ _ _ => fun _ _ => none) (fun _ _ => fun _ _ => none) (fun _ _ => fun _ _ => none) (fun _ _ => none) () (fun _ _ _ _ => ())) s
noncomputable def findK (d : TypeDesc) (k : Value) (es : List (SV × SV × Nat)) : Nat → Option (Option (Nat × SV)) :=
  (List.rec (motive := fun _ => Nat → Option (Option (Nat × SV))) (fun _ => some none) (fun p _ ih => fun i => findK2 (sameKS p.1 d k) i p.2.1 ih)) es

noncomputable def fill3 (o : Option (List SV)) : (List SV → Option (List SV)) → Option (List SV) := (Option.rec (motive := fun _ => (List SV → Option (List SV)) → Option (List SV)) (fun _ => none) (fun c => fun ih => ih c)) o
noncomputable def fill2 (b : Bool) : Nat → List SV → List SV → (List SV → Option (List SV)) → Option (List SV) := (Bool.rec (motive := fun _ => Nat → List SV → List SV → (List SV → Option (List SV)) → Option (List SV)) (fun _ _ _ _ => none) (fun off xs cells ih => fill3 (overAt off xs cells) ih)) b
noncomputable def fill1 (p : Option (Nat × Nat)) : List SV → List SV → (List SV → Option (List SV)) → Option (List SV) := (Option.rec (motive := fun _ => List SV → List SV → (List SV → Option (List SV)) → Option (List SV)) (fun _ _ _ => none) (fun p => fun v cells ih => fill2 (Nat.beq (lenS v) p.2) p.1 v cells ih)) p
noncomputable def fill (l : List (Nat × Operand)) : T SV → (Nat → Option (Nat × Nat)) → List SV → Option (List SV) :=
  (List.rec (motive := fun _ => T SV → (Nat → Option (Nat × Nat)) → List SV → Option (List SV)) (fun _ _ cells => some cells) (fun p _ ih => fun t place cells => fill1 (place p.1) (cellsOf (ev p.2 t)) cells (ih t place))) l

-- append
noncomputable def app8 (b : Bool) : H → Pa → Nat → List SV → TypeId → Eff := (Bool.rec (motive := fun _ => H → Pa → Nat → List SV → TypeId → Eff) (fun _ _ _ _ _ => .bad) (fun h o n cs elem => putE h o .none fun h => newE h (.cells cs elem true) fun i h => .val (.slc i 0 n n false) h)) b
noncomputable def app7 (own : Bool) : TypeId → H → Pa → Nat → Nat → List SV → List SV → Nat → Nat → TypeId → Eff := (Bool.rec (motive := fun _ => TypeId → H → Pa → Nat → Nat → List SV → List SV → Nat → Nat → TypeId → Eff) (fun _ _ _ _ _ _ _ _ _ _ => .bad) (fun e h o off len old xs n size elem => app8 (andB (Nat.beq e elem) (andB (Nat.beq (Nat.mod off size) 0) (oneL xs))) h o (Nat.add len n) (appS old xs) elem)) own
noncomputable def app6 (ob : SO) : H → Pa → Nat → Nat → List SV → List SV → Nat → Nat → TypeId → Eff := (SO.rec (motive := fun _ => H → Pa → Nat → Nat → List SV → List SV → Nat → Nat → TypeId → Eff) (fun _ _ _ _ _ _ _ _ _ => .bad) (fun _ e own => app7 own e) (fun _ _ _ => fun _ _ _ _ _ _ _ _ _ => .bad) (fun _ _ => fun _ _ _ _ _ _ _ _ _ => .bad) (fun _ _ _ _ => fun _ _ _ _ _ _ _ _ _ => .bad) (fun _ _ _ _ _ _ _ _ => fun _ _ _ _ _ _ _ _ _ => .bad) (fun _ => fun _ _ _ _ _ _ _ _ _ => .bad)) ob
noncomputable def app5 (ex : Bool) : H → Pa → Nat → Nat → List SV → List SV → Nat → Nat → TypeId → Eff := (Bool.rec (motive := fun _ => H → Pa → Nat → Nat → List SV → List SV → Nat → Nat → TypeId → Eff) (fun h o off len old xs n size elem => app6 (hget h o) h o off len old xs n size elem) (fun h _ _ len old xs n _ elem => newE h (.cells (appS old xs) elem true) fun i h => .val (.slc i 0 (Nat.add len n) (Nat.add len n) false) h)) ex
noncomputable def app4 (old : Option (List SV)) : Bool → H → Pa → Nat → Nat → List SV → Nat → Nat → TypeId → Eff := (Option.rec (motive := fun _ => Bool → H → Pa → Nat → Nat → List SV → Nat → Nat → TypeId → Eff) (fun _ _ _ _ _ _ _ _ _ => .bad) (fun old => fun ex h o off len xs n size elem => ifB (Nat.ble (Nat.add len n) 16777216) (app5 ex h o off len old xs n size elem))) old
noncomputable def app3 (fit : Bool) : H → Pa → Nat → Nat → Nat → Bool → List SV → Nat → Nat → TypeId → Eff := (Bool.rec (motive := fun _ => H → Pa → Nat → Nat → Nat → Bool → List SV → Nat → Nat → TypeId → Eff) (fun h o off len cap ex xs n size elem => app4 (cellsAt (hget h o) off (Nat.mul len size)) ex h o off len xs n size elem) (fun h o off len cap ex xs n size elem => storeE h o (Nat.add off (Nat.mul len size)) xs fun h => .val (.slc o off (Nat.add len n) cap ex) h)) fit
noncomputable def app2n (n : Nat) : H → Nat → List SV → TypeId → Eff := (Nat.rec (motive := fun _ => H → Nat → List SV → TypeId → Eff) (fun h _ _ _ => .val (.lit (.slice none 0 0)) h) (fun _ _ => fun h n xs elem => ifB (Nat.ble n 16777216) (newE h (.cells xs elem true) fun i h => .val (.slc i 0 n n false) h))) n
noncomputable def app2v (v : Value) : H → List SV → Nat → TypeId → Eff := match v with | .slice none 0 0 => fun h xs n elem => app2n n h n xs elem | _ => fun _ _ _ _ => .bad
noncomputable def app2 (s : SV) : H → List SV → Nat → Nat → TypeId → Eff := (SV.rec (motive_1 := fun _ => H → List SV → Nat → Nat → TypeId → Eff) (motive_2 := fun _ => Unit) (fun v => fun h xs n _ elem => app2v v h xs n elem) (fun _ _ => fun _ _ _ _ _ => .bad) (fun o off len cap ex => fun h xs n size elem => app3 (Nat.ble (Nat.add len n) cap) h o off len cap ex xs n size elem) (fun _ _ _ _ _ => .bad) (fun _ => fun _ _ _ _ _ => .bad) (fun _ _ _ _ _ => fun _ _ _ _ _ => .bad) (fun _ => fun _ _ _ _ _ => .bad) (fun _ _ _ => fun _ _ _ _ _ => .bad) (fun _ _ => fun _ _ _ _ _ => .bad) (fun _ _ => fun _ _ _ _ _ => .bad) (fun _ _ _ _ _ => .bad) () (fun _ _ _ _ => ())) s
noncomputable def app1n (n : Option Nat) : SV → H → List SV → Nat → TypeId → Eff := (Option.rec (motive := fun _ => SV → H → List SV → Nat → TypeId → Eff) (fun _ _ _ _ _ => .bad) (fun n => fun s h xs size elem => ifB (Nat.beq (lenS xs) (Nat.mul n size)) (app2 s h xs n size elem))) n
noncomputable def app1 (xs : Option (List SV)) : Option Nat → SV → H → Nat → TypeId → Eff := (Option.rec (motive := fun _ => Option Nat → SV → H → Nat → TypeId → Eff) (fun _ _ _ _ _ => .bad) (fun xs => fun n s h size elem => app1n n s h xs size elem)) xs
/-- A type whose values may be appended: its zero value has its size, its bytes are few. -/
noncomputable def appZ (z : Option Value) : TypeInfo → Bool := (Option.rec (motive := fun _ => TypeInfo → Bool) (fun _ => false) (fun z => fun i => andB (Nat.beq (lenS (litCells z)) i.size) (Nat.ble i.bytes 1048576))) z
noncomputable def app00 (i : Option TypeInfo) : H → SV → SV → TypeId → Eff := (Option.rec (motive := fun _ => H → SV → SV → TypeId → Eff) (fun _ _ _ _ => .bad) (fun i => fun h s x elem => ifB (appZ i.zero i) (app1 (sliceC x h i.size) (lenV x) s h i.size elem))) i
noncomputable def app0 (d : Option TypeDesc) : Program → H → SV → SV → Eff := match d with | some (.slice elem) => fun P h s x => app00 (infoO P elem) h s x elem | _ => fun _ _ _ _ => .bad
/-- Is the type told, and no integer's? -/
def noInt (d : Option TypeDesc) : Bool := match d with | some (.int _) => false | some _ => true | none => false
def sliceElem (d : Option TypeDesc) : Option TypeId := match d with | some (.slice e) => some e | _ => none
noncomputable def argT (ts : Array TypeId) : Option TypeId := (List.rec (motive := fun _ => Option TypeId) (none) (fun t _ _ => some t)) ts.toList
noncomputable def argT2 (ts : Array TypeId) : Option TypeId := (List.rec (motive := fun _ => Option TypeId) (none) (fun _ l _ => (List.rec (motive := fun _ => Option TypeId) (none) (fun t _ _ => some t)) l)) ts.toList
noncomputable def undT (t : Option TypeId) : Program → Option TypeDesc := (Option.rec (motive := fun _ => Program → Option TypeDesc) (fun _ => none) (fun t => fun P => undO P t)) t
/-- append(s, x..); x is a slice or a string (its type is no integer). -/
noncomputable def appendOp (P : Program) (h : H) (ts : Array TypeId) (s x : SV) : Eff := ifB (noInt (undT (argT2 ts) P)) (app0 (undT (argT ts) P) P h s x)

-- calls
noncomputable def consV (o : Option (List Value)) : Value → Option (List Value) := (Option.rec (motive := fun _ => Value → Option (List Value)) (fun _ => none) (fun r => fun x => some (x :: r))) o
noncomputable def lits1 (v : SV) : Option (List Value) → Option (List Value) := (SV.rec (motive_1 := fun _ => Option (List Value) → Option (List Value)) (motive_2 := fun _ => Unit) (fun v => fun ih => consV ih v) (fun _ _ => fun _ => none) (fun _ _ _ _ _ => fun _ => none) (fun _ => none) (fun _ => fun _ => none) (fun _ _ _ _ _ => fun _ => none) (fun _ => fun _ => none) (fun _ _ _ => fun _ => none) (fun _ _ => fun _ => none) (fun _ _ => fun _ => none) (fun _ => none) () (fun _ _ _ _ => ())) v
noncomputable def lits (l : List SV) : Option (List Value) := (List.rec (motive := fun _ => Option (List Value)) (some []) (fun v _ ih => lits1 v ih)) l
def nextR (r : StillR Next) : H → Eff := match r with | .ok (.value v) => fun h => .val (.lit v) h | .panic v => fun _ => .panic (.lit v) | _ => fun _ => .bad
def nextVal (P : Program) (h : H) (s : Sem Next) : Eff := nextR (still P s) h
noncomputable def escape (fn : Func) (l : List SV) (h : H) : Eff := match l with
  | [v] => match fn.name == "internal/abi.NoEscape" && fn.origin == "" with | true => .val v h | false => .bad
  | _ => .bad
noncomputable def call3 (vs : Option (List Value)) : Program → H → FuncId → Func → List SV → Eff := (Option.rec (motive := fun _ => Program → H → FuncId → Func → List SV → Eff) (fun _ h _ fn l => escape fn l h) (fun vs => fun P h f _ _ => nextVal P h (callFunc f vs.toArray))) vs
noncomputable def call2b (b : Bool) : FuncId → List SV → Eff := (Bool.rec (motive := fun _ => FuncId → List SV → Eff) (fun f l => .enter f l) (fun _ _ => .bad)) b
noncomputable def call2 (body : Option Code) : Program → H → FuncId → Func → List SV → Eff := (Option.rec (motive := fun _ => Program → H → FuncId → Func → List SV → Eff) (fun P h f fn l => call3 (lits l) P h f fn l) (fun _ => fun _ _ f fn l => call2b (fn.name == "runtime.NumGoroutine") f l)) body
noncomputable def call1 (fn : Option Func) : Program → H → FuncId → List SV → Eff := (Option.rec (motive := fun _ => Program → H → FuncId → List SV → Eff) (fun _ _ _ _ => .bad) (fun fn => fun P h f l => call2 fn.body P h f fn l)) fn
noncomputable def callV (g : SV) : Program → H → List SV → Eff := (SV.rec (motive_1 := fun _ => Program → H → List SV → Eff) (motive_2 := fun _ => Unit) (fun _ => fun _ _ _ => .bad) (fun _ _ => fun _ _ _ => .bad) (fun _ _ _ _ _ => fun _ _ _ => .bad) (fun _ _ _ => .bad) (fun _ => fun _ _ _ => .bad) (fun f first cap _ _ => fun P h args => call1 (funcO P f) P h f (appS (appS first args) cap)) (fun l => fun _ _ args => .round l args) (fun _ _ _ => fun _ _ _ => .bad) (fun _ _ => fun _ _ _ => .bad) (fun _ _ => fun _ _ _ => .bad) (fun _ _ _ => .bad) () (fun _ _ _ _ => ())) g

-- builtins
def isSlice (d : Option TypeDesc) : Bool := match d with | some (.slice _) => true | _ => false
def isMap (d : Option TypeDesc) : Bool := match d with | some (.map _ _) => true | _ => false
def isStr (d : Option TypeDesc) : Bool := match d with | some .string => true | _ => false
def isByte (d : Option TypeDesc) : Bool := match d with | some (.int .u8) => true | _ => false
noncomputable def lenLit (v : Value) : Value → Program → H → Array TypeId → TypeId → Eff := (Value.rec (motive_1 := fun _ => Value → Program → H → Array TypeId → TypeId → Eff) (motive_2 := fun _ => Unit) (motive_3 := fun _ => Unit) (fun _ => fun v P h ts ty => stillVal P h (Builtin.len_ ts ty #[v])) (fun _ _ => fun v P h ts ty => stillVal P h (Builtin.len_ ts ty #[v])) (fun _ _ => fun v P h ts ty => stillVal P h (Builtin.len_ ts ty #[v])) (fun _ _ _ => fun v P h ts ty => stillVal P h (Builtin.len_ ts ty #[v])) (fun s => fun _ P h ts _ => ifB (isStr (undT (argT ts) P)) (.val (.lit (.int .i64 (.ofNat s.size))) h)) (fun _ => fun v P h ts ty => stillVal P h (Builtin.len_ ts ty #[v])) (fun _ _ _ => fun v P h ts ty => stillVal P h (Builtin.len_ ts ty #[v])) (fun _ => fun v P h ts ty => stillVal P h (Builtin.len_ ts ty #[v])) (fun _ => fun v P h ts ty => stillVal P h (Builtin.len_ ts ty #[v])) (fun _ _ _ _ _ => fun v P h ts ty => stillVal P h (Builtin.len_ ts ty #[v])) (fun v P h ts ty => stillVal P h (Builtin.len_ ts ty #[v])) (fun _ _ _ => fun v P h ts ty => stillVal P h (Builtin.len_ ts ty #[v])) (fun v P h ts ty => stillVal P h (Builtin.len_ ts ty #[v])) (fun _ _ => fun v P h ts ty => stillVal P h (Builtin.len_ ts ty #[v])) (fun _ _ => fun v P h ts ty => stillVal P h (Builtin.len_ ts ty #[v])) (fun _ _ => ()) () (fun _ _ _ _ => ())) v
noncomputable def lenMap (o : SO) : Program → H → Array TypeId → Eff := (SO.rec (motive := fun _ => Program → H → Array TypeId → Eff) (fun _ _ _ => .bad) (fun _ _ _ => fun _ _ _ => .bad) (fun es _ _ => fun P h ts => ifB (isMap (undT (argT ts) P)) (.val (.lit (.int .i64 (.ofNat es.length))) h)) (fun _ _ => fun _ _ _ => .bad) (fun _ _ _ _ => fun _ _ _ => .bad) (fun _ _ _ _ _ _ _ _ => fun _ _ _ => .bad) (fun _ => fun _ _ _ => .bad)) o
noncomputable def lenArr (P : Program) (h : H) (ts : Array TypeId) : Eff := match undT (argT ts) P with
  | some (.array n _) => .val (.lit (goInt n)) h
  | some (.pointer a) => match undO P a with | some (.array n _) => .val (.lit (goInt n)) h | _ => .bad
  | _ => .bad
noncomputable def lenOp (x : SV) : Program → H → Array TypeId → TypeId → Eff := (SV.rec (motive_1 := fun _ => Program → H → Array TypeId → TypeId → Eff) (motive_2 := fun _ => Unit) (fun v => lenLit v v) (fun _ _ => fun P h ts _ => lenArr P h ts) (fun _ _ n _ _ => fun P h ts _ => ifB (isSlice (undT (argT ts) P)) (.val (.lit (.int .i64 (.ofNat n))) h)) (fun P h ts _ => ifB (isSlice (undT (argT ts) P)) (.val (.lit (.int .i64 (.ofNat 0))) h)) (fun o => fun P h ts _ => lenMap (hget h o) P h ts) (fun _ _ _ _ _ => fun P h ts _ => lenArr P h ts) (fun _ => fun P h ts _ => lenArr P h ts) (fun _ _ _ => fun P h ts _ => lenArr P h ts) (fun _ _ => fun P h ts _ => lenArr P h ts) (fun _ _ => fun P h ts _ => lenArr P h ts) (fun P h ts _ => lenArr P h ts) () (fun _ _ _ _ => ())) x
noncomputable def copy3 (d : SV) (cs : Option (List SV)) (n : Nat) (h : H) : Eff := match d, cs with
  | .slc o off _ _ _, some cs => storeE h o off cs fun h => .val (.lit (.int .i64 (.ofNat n))) h
  | _, _ => .bad
noncomputable def copy2 (P : Program) (h : H) (d s : SV) (a b size : Nat) (cs : List SV) : Eff := ifB (Nat.beq (lenS cs) (Nat.mul b size)) (match Nat.ble a b with
  | true => copy3 d (takeS (Nat.mul a size) cs) a h
  | false => copy3 d (takeS (Nat.mul b size) cs) b h)
noncomputable def copy1 (P : Program) (h : H) (d s : SV) (a b size : Option Nat) : Eff := match a, b, size with
  | some a, some b, some size => match sliceC s h size with
    | some cs => copy2 P h d s a b size cs
    | none => .bad
  | _, _, _ => .bad
noncomputable def copyOp (P : Program) (h : H) (ts : Array TypeId) (d s : SV) : Eff := match sliceElem (undT (argT ts) P) with
  | some elem => copy1 P h d s (lenV d) (lenV s) (sizeO P elem)
  | none => .bad
noncomputable def byteI (z : Int) : Option UInt8 := (Int.rec (motive := fun _ => Option UInt8) (fun n => some (UInt8.ofNat n)) (fun _ => none)) z
noncomputable def byteK (k : IntKind) : Int → Option UInt8 := (IntKind.rec (motive := fun _ => Int → Option UInt8) (fun _ => none) (fun _ => none) (fun _ => none) (fun _ => none) (byteI) (fun _ => none) (fun _ => none) (fun _ => none)) k
noncomputable def byteV (v : Value) : Option UInt8 := (Value.rec (motive_1 := fun _ => Option UInt8) (motive_2 := fun _ => Unit) (motive_3 := fun _ => Unit) (fun _ => none) (fun k z => byteK k z) (fun _ _ => none) (fun _ _ _ => none) (fun _ => none) (fun _ => none) (fun _ _ _ => none) (fun _ => none) (fun _ => none) (fun _ _ _ _ _ => none) (none) (fun _ _ _ => none) (none) (fun _ _ => none) (fun _ _ => none) (fun _ _ => ()) () (fun _ _ _ _ => ())) v
noncomputable def byteSV (v : SV) : Option UInt8 := (SV.rec (motive_1 := fun _ => Option UInt8) (motive_2 := fun _ => Unit) (fun v => byteV v) (fun _ _ => none) (fun _ _ _ _ _ => none) (none) (fun _ => none) (fun _ _ _ _ _ => none) (fun _ => none) (fun _ _ _ => none) (fun _ _ => none) (fun _ _ => none) (none) () (fun _ _ _ _ => ())) v
noncomputable def consB (o : Option (List UInt8)) : UInt8 → Option (List UInt8) := (Option.rec (motive := fun _ => UInt8 → Option (List UInt8)) (fun _ => none) (fun r => fun x => some (x :: r))) o
noncomputable def bytes1 (b : Option UInt8) : Option (List UInt8) → Option (List UInt8) := (Option.rec (motive := fun _ => Option (List UInt8) → Option (List UInt8)) (fun _ => none) (fun b => fun ih => consB ih b)) b
noncomputable def bytesOf (l : List SV) : Option (List UInt8) := (List.rec (motive := fun _ => Option (List UInt8)) (some []) (fun v _ ih => bytes1 (byteSV v) ih)) l
noncomputable def strE (o : Option (List UInt8)) : H → Eff := (Option.rec (motive := fun _ => H → Eff) (fun _ => .bad) (fun bs => fun h => .val (.lit (.string ⟨bs.toArray⟩)) h)) o
noncomputable def bytesE (l : Option (List SV)) : H → Eff := (Option.rec (motive := fun _ => H → Eff) (fun _ => .bad) (fun l => fun h => strE (bytesOf l) h)) l
def isOne (n : Option Nat) : Bool := match n with | some 1 => true | _ => false
noncomputable def unsafeStr (ob : SO) : Program → H → Pa → Nat → Nat → TypeId → Eff := (SO.rec (motive := fun _ => Program → H → Pa → Nat → Nat → TypeId → Eff) (fun _ _ _ _ _ _ => .bad) (fun vs e own => fun P h o off n t => ifB (andB (andB own (Nat.beq e t)) (isByte (undO P e))) (ifB (isOne (sizeO P e)) (putE h o (.cells vs e false) fun h => bytesE (takeS n (dropS off vs)) h))) (fun _ _ _ => fun _ _ _ _ _ _ => .bad) (fun _ _ => fun _ _ _ _ _ _ => .bad) (fun _ _ _ _ => fun _ _ _ _ _ _ => .bad) (fun _ _ _ _ _ _ _ _ => fun _ _ _ _ _ _ => .bad) (fun _ => fun _ _ _ _ _ _ => .bad)) ob
noncomputable def arg1 (l : List SV) : (SV → Eff) → Eff := (List.rec (motive := fun _ => (SV → Eff) → Eff) (fun _ => .bad) (fun x l _ => (List.rec (motive := fun _ => SV → (SV → Eff) → Eff) (fun x K => K x) (fun _ _ _ => fun _ _ => .bad)) l x)) l
noncomputable def arg2 (l : List SV) : (SV → SV → Eff) → Eff := match l with | [x, y] => fun K => K x y | _ => fun _ => .bad
noncomputable def litB (vs : Option (List Value)) : (Array Value → Eff) → Eff := match vs with | some vs => fun K => K vs.toArray | none => fun _ => .bad
noncomputable def sliceData (x : SV) (h : H) : Eff := match x with
  | .slc o off _ (_+1) _ => .val (.ptr o off) h
  | _ => .bad
noncomputable def ptrElem (d : Option TypeDesc) : Option TypeId := match d with | some (.pointer e) => some e | _ => none
noncomputable def unsafeS (P : Program) (h : H) (ts : Array TypeId) (p n : SV) : Eff := match p, asN n, ptrElem (undT (argT ts) P) with
  | .ptr o off, some (n+1), some e => ifB (Nat.ble (n+1) 16777216) (unsafeStr (hget h o) P h o off (n+1) e)
  | _, _, _ => .bad
noncomputable def builtinOp (b : Builtin) : Program → H → Array TypeId → TypeId → List SV → Eff := (Builtin.rec (motive := fun _ => Program → H → Array TypeId → TypeId → List SV → Eff) (fun P h ts _ l => arg2 l fun s x => appendOp P h ts s x) (fun P h ts ty l => litB (lits l) fun vs => stillVal P h (Builtin.cap_ ts ty vs)) (fun _ _ _ _ _ => .bad) (fun _ _ _ _ _ => .bad) (fun _ _ _ _ _ => .bad) (fun P h ts _ l => arg2 l fun d s => copyOp P h ts d s) (fun _ _ _ _ _ => .bad) (fun _ _ _ _ _ => .bad) (fun P h ts ty l => arg1 l fun x => lenOp x P h ts ty) (fun _ _ _ _ _ => .bad) (fun P h ts ty l => litB (lits l) fun vs => stillVal P h (Builtin.max_ ts ty vs)) (fun P h ts ty l => litB (lits l) fun vs => stillVal P h (Builtin.min_ ts ty vs)) (fun _ _ _ _ _ => .bad) (fun _ _ _ _ _ => .bad) (fun _ _ _ _ _ => .bad) (fun _ _ _ _ _ => .bad) (fun _ _ _ _ _ => .bad) (fun _ _ _ _ _ => .recover) (fun _ _ _ _ _ => .bad) (fun _ _ _ _ _ => .bad) (fun _ h _ _ l => arg1 l fun x => sliceData x h) (fun P h ts _ l => arg2 l fun p n => unsafeS P h ts p n) (fun _ _ _ _ _ => .bad) (fun _ _ _ _ _ => .bad) (fun _ _ _ _ _ => .bad) (fun _ _ _ _ _ => .bad)) b

-- operations
noncomputable def pickB (b : Bool) : SV → SV → SV := (Bool.rec (motive := fun _ => SV → SV → SV) (fun _ b => b) (fun a _ => a)) b
noncomputable def boolW (v : Value) : (Bool → Eff) → Eff := (Value.rec (motive_1 := fun _ => (Bool → Eff) → Eff) (motive_2 := fun _ => Unit) (motive_3 := fun _ => Unit) (fun b => fun K => K b) (fun _ _ => fun _ => .bad) (fun _ _ => fun _ => .bad) (fun _ _ _ => fun _ => .bad) (fun _ => fun _ => .bad) (fun _ => fun _ => .bad) (fun _ _ _ => fun _ => .bad) (fun _ => fun _ => .bad) (fun _ => fun _ => .bad) (fun _ _ _ _ _ => fun _ => .bad) (fun _ => .bad) (fun _ _ _ => fun _ => .bad) (fun _ => .bad) (fun _ _ => fun _ => .bad) (fun _ _ => fun _ => .bad) (fun _ _ => ()) () (fun _ _ _ _ => ())) v
noncomputable def boolV (v : SV) : (Bool → Eff) → Eff := (SV.rec (motive_1 := fun _ => (Bool → Eff) → Eff) (motive_2 := fun _ => Unit) (fun v => boolW v) (fun _ _ => fun _ => .bad) (fun _ _ _ _ _ => fun _ => .bad) (fun _ => .bad) (fun _ => fun _ => .bad) (fun _ _ _ _ _ => fun _ => .bad) (fun _ => fun _ => .bad) (fun _ _ _ => fun _ => .bad) (fun _ _ => fun _ => .bad) (fun _ _ => fun _ => .bad) (fun _ => .bad) () (fun _ _ _ _ => ())) v
noncomputable def allocE (z : Option Value) : TypeId → H → Eff := (Option.rec (motive := fun _ => TypeId → H → Eff) (fun _ _ => .bad) (fun z => fun el h => newE h (.cells (litCells z) el true) fun i h => .val (.ptr i 0) h)) z
noncomputable def aggE (o : Option (List SV)) : H → Eff := (Option.rec (motive := fun _ => H → Eff) (fun _ => .bad) (fun l => fun h => .val (.agg l) h)) o
noncomputable def placeN (n : Option Nat) : Nat → Option (Nat × Nat) := (Option.rec (motive := fun _ => Nat → Option (Nat × Nat)) (fun _ => none) (fun n => fun off => some (off, n))) n
noncomputable def placeF (f : Option Field) : Program → Option (Nat × Nat) := (Option.rec (motive := fun _ => Program → Option (Nat × Nat)) (fun _ => none) (fun f => fun P => placeN (sizeO P f.type) f.offset)) f
noncomputable def placeA (n i : Nat) : Option (Nat × Nat) := some (Nat.mul i n, n)
noncomputable def fieldsOk (P : Program) (fs : Array Field) : Bool := fs.toList.all fun f => (sizeO P f.type).isSome
noncomputable def build3 (n : Option Nat) : T SV → H → List (Nat × Operand) → List SV → Eff := match n with
  | some n => fun t h parts z => aggE (fill parts t (placeA n) z) h
  | none => fun _ _ _ _ => .bad
noncomputable def build2 (d : Option TypeDesc) : Program → T SV → H → List (Nat × Operand) → List SV → Eff := match d with
  | some (.struct fields) => fun P t h parts z => ifB (fieldsOk P fields) (aggE (fill parts t (fun i => placeF (nthD i fields.toList) P) z) h)
  | some (.array _ el) => fun P t h parts z => build3 (sizeO P el) t h parts z
  | _ => fun _ _ _ _ _ => .bad
noncomputable def build1 (z : Option Value) : TypeId → Program → T SV → H → List (Nat × Operand) → Eff := match z with
  | some z => fun ty P t h parts => build2 (undO P ty) P t h parts (litCells z)
  | none => fun _ _ _ _ _ => .bad
noncomputable def bslice4 (o : Option (List SV)) : H → TypeId → Nat → Eff := match o with
  | some cs => fun h el n => newE h (.cells cs el true) fun i h => .val (.slc i 0 n n true) h
  | none => fun _ _ _ => .bad
noncomputable def bslice2 (z : Option Value) (s : Option Nat) : TypeId → Nat → T SV → H → List (Nat × Operand) → Eff := match z, s with
  | some z, some s => fun el n t h parts => ifB (Bool.and (Nat.beq (lenS (litCells z)) s) (Nat.ble (Nat.mul n s) 16777216)) (bslice4 (fill parts t (placeA s) (repS n (litCells z))) h el n)
  | _, _ => fun _ _ _ _ _ => .bad
noncomputable def bslice1 (e : Option TypeId) : Nat → Program → T SV → H → List (Nat × Operand) → Eff := match e with
  | some el => fun n P t h parts => bslice2 (zeroO P el) (sizeO P el) el n t h parts
  | none => fun _ _ _ _ _ => .bad
noncomputable def loadE (cs : Option (List SV)) : Option Bool → H → Eff := (Option.rec (motive := fun _ => Option Bool → H → Eff) (fun _ _ => .bad) (fun cs => fun b h => valO (mkVal b cs) h)) cs
noncomputable def storeTo (a : SV) : H → List SV → Eff := (SV.rec (motive_1 := fun _ => H → List SV → Eff) (motive_2 := fun _ => Unit) (fun _ => fun _ _ => .bad) (fun o off => fun h cs => storeE h o off cs fun h => .val undefS h) (fun _ _ _ _ _ => fun _ _ => .bad) (fun _ _ => .bad) (fun _ => fun _ _ => .bad) (fun _ _ _ _ _ => fun _ _ => .bad) (fun _ => fun _ _ => .bad) (fun _ _ _ => fun _ _ => .bad) (fun _ _ => fun _ _ => .bad) (fun _ _ => fun _ _ => .bad) (fun _ _ => .bad) () (fun _ _ _ _ => ())) a
noncomputable def storeB (b : Bool) : SV → H → List SV → Eff := (Bool.rec (motive := fun _ => SV → H → List SV → Eff) (fun _ _ _ => .bad) (storeTo)) b
noncomputable def storeS (n : Option Nat) : SV → H → List SV → Eff := (Option.rec (motive := fun _ => SV → H → List SV → Eff) (fun _ _ _ => .bad) (fun n => fun a h cs => storeB (Nat.beq (lenS cs) n) a h cs)) n
noncomputable def nilPtr (a : Option Addr) : Program → H → Eff := (Option.rec (motive := fun _ => Program → H → Eff) (fun P h => stillVal P h (runtimePanic .nilDeref)) (fun a => fun _ h => .val (.lit (.pointer (some a))) h)) a
noncomputable def nilLit (v : Value) : Program → H → Eff := (Value.rec (motive_1 := fun _ => Program → H → Eff) (motive_2 := fun _ => Unit) (motive_3 := fun _ => Unit) (fun _ => fun _ _ => .bad) (fun _ _ => fun _ _ => .bad) (fun _ _ => fun _ _ => .bad) (fun _ _ _ => fun _ _ => .bad) (fun _ => fun _ _ => .bad) (fun a => nilPtr a) (fun _ _ _ => fun _ _ => .bad) (fun _ => fun _ _ => .bad) (fun _ => fun _ _ => .bad) (fun _ _ _ _ _ => fun _ _ => .bad) (fun _ _ => .bad) (fun _ _ _ => fun _ _ => .bad) (fun _ _ => .bad) (fun _ _ => fun _ _ => .bad) (fun _ _ => fun _ _ => .bad) (fun _ _ => ()) () (fun _ _ _ _ => ())) v
noncomputable def nilCheckV (v : SV) : Program → H → Eff := (SV.rec (motive_1 := fun _ => Program → H → Eff) (motive_2 := fun _ => Unit) (fun v => nilLit v) (fun o off => fun _ h => .val (.ptr o off) h) (fun _ _ _ _ _ => fun _ _ => .bad) (fun _ _ => .bad) (fun _ => fun _ _ => .bad) (fun f a b _ _ => fun _ h => .val (.fn f a b) h) (fun o => fun _ h => .val (.yld o) h) (fun _ _ _ => fun _ _ => .bad) (fun _ _ => fun _ _ => .bad) (fun _ _ => fun _ _ => .bad) (fun _ _ => .bad) () (fun _ _ _ _ => ())) v
noncomputable def eqE (r : Option Bool) : H → Eff := (Option.rec (motive := fun _ => H → Eff) (fun _ => .bad) (fun r => fun h => .val (.lit (.bool r)) h)) r
noncomputable def neE (r : Option Bool) : H → Eff := (Option.rec (motive := fun _ => H → Eff) (fun _ => .bad) (fun r => fun h => .val (.lit (.bool (notB r))) h)) r
noncomputable def opEq (P : Program) (h : H) (xT : TypeId) (a b : SV) : Option Bool := match eqSized P (undO P xT) with
  | true => cellEq (undO P xT) h a b
  | false => none
noncomputable def binSlow (op : BinOp) : Program → H → TypeId → SV → SV → Eff := (BinOp.rec (motive := fun _ => Program → H → TypeId → SV → SV → Eff) (fun _ _ _ _ _ => .bad) (fun _ _ _ _ _ => .bad) (fun _ _ _ _ _ => .bad) (fun _ _ _ _ _ => .bad) (fun _ _ _ _ _ => .bad) (fun _ _ _ _ _ => .bad) (fun _ _ _ _ _ => .bad) (fun _ _ _ _ _ => .bad) (fun _ _ _ _ _ => .bad) (fun _ _ _ _ _ => .bad) (fun _ _ _ _ _ => .bad) (fun P h xT a b => eqE (opEq P h xT a b) h) (fun P h xT a b => neE (opEq P h xT a b) h) (fun _ _ _ _ _ => .bad) (fun _ _ _ _ _ => .bad) (fun _ _ _ _ _ => .bad) (fun _ _ _ _ _ => .bad)) op
noncomputable def binLit (r : Option Value) : Program → H → BinOp → TypeId → Operand → Operand → Value → Value → Eff := (Option.rec (motive := fun _ => Program → H → BinOp → TypeId → Operand → Operand → Value → Value → Eff) (fun P h op xT x y a b => stillVal P h (do eqGuard op xT x y a b; binOp op xT a b)) (fun v => fun _ h _ _ _ _ _ _ => .val (.lit v) h)) r
noncomputable def bin2 (b : SV) : SV → Program → H → BinOp → TypeId → Operand → Operand → Value → Eff := (SV.rec (motive_1 := fun _ => SV → Program → H → BinOp → TypeId → Operand → Operand → Value → Eff) (motive_2 := fun _ => Unit) (fun b => fun _ P h op xT x y a => binLit (fastBin a op b) P h op xT x y a b) (fun _ _ => fun b P h op xT _ _ a => binSlow op P h xT (.lit a) b) (fun _ _ _ _ _ => fun b P h op xT _ _ a => binSlow op P h xT (.lit a) b) (fun b P h op xT _ _ a => binSlow op P h xT (.lit a) b) (fun _ => fun b P h op xT _ _ a => binSlow op P h xT (.lit a) b) (fun _ _ _ _ _ => fun b P h op xT _ _ a => binSlow op P h xT (.lit a) b) (fun _ => fun b P h op xT _ _ a => binSlow op P h xT (.lit a) b) (fun _ _ _ => fun b P h op xT _ _ a => binSlow op P h xT (.lit a) b) (fun _ _ => fun b P h op xT _ _ a => binSlow op P h xT (.lit a) b) (fun _ _ => fun b P h op xT _ _ a => binSlow op P h xT (.lit a) b) (fun b P h op xT _ _ a => binSlow op P h xT (.lit a) b) () (fun _ _ _ _ => ())) b
noncomputable def bin1 (a : SV) : SV → Program → H → BinOp → TypeId → Operand → Operand → SV → Eff := (SV.rec (motive_1 := fun _ => SV → Program → H → BinOp → TypeId → Operand → Operand → SV → Eff) (motive_2 := fun _ => Unit) (fun a => fun _ P h op xT x y b => bin2 b b P h op xT x y a) (fun _ _ => fun a P h op xT _ _ b => binSlow op P h xT a b) (fun _ _ _ _ _ => fun a P h op xT _ _ b => binSlow op P h xT a b) (fun a P h op xT _ _ b => binSlow op P h xT a b) (fun _ => fun a P h op xT _ _ b => binSlow op P h xT a b) (fun _ _ _ _ _ => fun a P h op xT _ _ b => binSlow op P h xT a b) (fun _ => fun a P h op xT _ _ b => binSlow op P h xT a b) (fun _ _ _ => fun a P h op xT _ _ b => binSlow op P h xT a b) (fun _ _ => fun a P h op xT _ _ b => binSlow op P h xT a b) (fun _ _ => fun a P h op xT _ _ b => binSlow op P h xT a b) (fun a P h op xT _ _ b => binSlow op P h xT a b) () (fun _ _ _ _ => ())) a
noncomputable def un1 (a : SV) : Program → H → UnOp → Eff := (SV.rec (motive_1 := fun _ => Program → H → UnOp → Eff) (motive_2 := fun _ => Unit) (fun v => fun P h op => stillVal P h (Op.unary op v)) (fun _ _ => fun _ _ _ => .bad) (fun _ _ _ _ _ => fun _ _ _ => .bad) (fun _ _ _ => .bad) (fun _ => fun _ _ _ => .bad) (fun _ _ _ _ _ => fun _ _ _ => .bad) (fun _ => fun _ _ _ => .bad) (fun _ _ _ => fun _ _ _ => .bad) (fun _ _ => fun _ _ _ => .bad) (fun _ _ => fun _ _ _ => .bad) (fun _ _ _ => .bad) () (fun _ _ _ _ => ())) a
noncomputable def convStr (P : Program) (h : H) (s d : TypeId) (str : ByteArray) : Eff := match undO P s, undO P d with
  | some .string, some (.slice el) => match undO P el with
    | some (.int .u8) => ifB (isOne (sizeO P el)) <| newE h (.cells (bytesSV str) el false) fun i h => .val (.slc i 0 str.size str.size false) h
    | _ => .bad
  | _, _ => stillVal P h (convert s d (.string str))
noncomputable def convInt (d : Option TypeDesc) : Program → H → TypeId → TypeId → IntKind → Int → Eff := (Option.rec (motive := fun _ => Program → H → TypeId → TypeId → IntKind → Int → Eff) (fun _ _ _ _ _ _ => .bad) (fun d => (TypeDesc.rec (motive := fun _ => Program → H → TypeId → TypeId → IntKind → Int → Eff) (fun P h s d k z => stillVal P h (convert s d (.int k z))) (fun P h s d k z => stillVal P h (convert s d (.int k z))) (fun k => fun P h s d _ z => ifB (undO P s).isSome (.val (.lit (.int k (wrapF k z))) h)) (fun _ => fun P h s d k z => stillVal P h (convert s d (.int k z))) (fun _ => fun P h s d k z => stillVal P h (convert s d (.int k z))) (fun P h s d k z => stillVal P h (convert s d (.int k z))) (fun P h s d k z => stillVal P h (convert s d (.int k z))) (fun _ => fun P h s d k z => stillVal P h (convert s d (.int k z))) (fun _ => fun P h s d k z => stillVal P h (convert s d (.int k z))) (fun _ _ => fun P h s d k z => stillVal P h (convert s d (.int k z))) (fun _ _ => fun P h s d k z => stillVal P h (convert s d (.int k z))) (fun _ _ => fun P h s d k z => stillVal P h (convert s d (.int k z))) (fun _ => fun P h s d k z => stillVal P h (convert s d (.int k z))) (fun _ _ _ => fun P h s d k z => stillVal P h (convert s d (.int k z))) (fun _ => fun P h s d k z => stillVal P h (convert s d (.int k z))) (fun _ => fun P h s d k z => stillVal P h (convert s d (.int k z))) (fun _ _ => fun P h s d k z => stillVal P h (convert s d (.int k z)))) d)) d
noncomputable def convLit (v : Value) : Value → Program → H → TypeId → TypeId → Eff := (Value.rec (motive_1 := fun _ => Value → Program → H → TypeId → TypeId → Eff) (motive_2 := fun _ => Unit) (motive_3 := fun _ => Unit) (fun _ => fun v P h s d => stillVal P h (convert s d v)) (fun k z => fun _ P h s d => convInt (undO P d) P h s d k z) (fun _ _ => fun v P h s d => stillVal P h (convert s d v)) (fun _ _ _ => fun v P h s d => stillVal P h (convert s d v)) (fun str => fun _ P h s d => convStr P h s d str) (fun _ => fun v P h s d => stillVal P h (convert s d v)) (fun _ _ _ => fun v P h s d => stillVal P h (convert s d v)) (fun _ => fun v P h s d => stillVal P h (convert s d v)) (fun _ => fun v P h s d => stillVal P h (convert s d v)) (fun _ _ _ _ _ => fun v P h s d => stillVal P h (convert s d v)) (fun v P h s d => stillVal P h (convert s d v)) (fun _ _ _ => fun v P h s d => stillVal P h (convert s d v)) (fun v P h s d => stillVal P h (convert s d v)) (fun _ _ => fun v P h s d => stillVal P h (convert s d v)) (fun _ _ => fun v P h s d => stillVal P h (convert s d v)) (fun _ _ => ()) () (fun _ _ _ _ => ())) v
noncomputable def convSlc (P : Program) (h : H) (s d : TypeId) (o : Pa) (off n : Nat) : Eff := match undO P s, undO P d with
  | some (.slice el), some .string => ifB (isByte (undO P el)) (bytesE (cellsAt (hget h o) off n) h)
  | _, _ => .bad
noncomputable def toUnsafe2 (b : Bool) : H → Pa → Nat → Eff := (Bool.rec (motive := fun _ => H → Pa → Nat → Eff) (fun _ _ _ => .bad) (fun h o off => .val (.ptr o off) h)) b
def pos1 (n : Option Nat) : Bool := match n with | some (_ + 1) => true | _ => false
noncomputable def toUnsafe (ob : SO) : Program → H → TypeId → Pa → Nat → Eff := (SO.rec (motive := fun _ => Program → H → TypeId → Pa → Nat → Eff) (fun _ _ _ _ _ => .bad) (fun vs _ _ => fun P h t o off => toUnsafe2 (andB (pos1 (sizeO P t)) (Nat.ble (Nat.succ off) (lenS vs))) h o off) (fun _ _ _ => fun _ _ _ _ _ => .bad) (fun _ _ => fun _ _ _ _ _ => .bad) (fun _ _ _ _ => fun _ _ _ _ _ => .bad) (fun _ _ _ _ _ _ _ _ => fun _ _ _ _ _ => .bad) (fun _ => fun _ _ _ _ _ => .bad)) ob
def fitN (n : Option Nat) : Nat → Nat → Bool := match n with | some (k + 1) => fun off len => Nat.ble (off + (k + 1)) len && Nat.beq (off % (k + 1)) 0 | _ => fun _ _ => false
noncomputable def fromUnsafe (ob : SO) : Program → H → TypeId → Pa → Nat → Eff := (SO.rec (motive := fun _ => Program → H → TypeId → Pa → Nat → Eff) (fun _ _ _ _ _ => .bad) (fun vs e _ => fun P h t o off => toUnsafe2 (andB (Nat.beq e t) (fitN (sizeO P e) off (lenS vs))) h o off) (fun _ _ _ => fun _ _ _ _ _ => .bad) (fun _ _ => fun _ _ _ _ _ => .bad) (fun _ _ _ _ => fun _ _ _ _ _ => .bad) (fun _ _ _ _ _ _ _ _ => fun _ _ _ _ _ => .bad) (fun _ => fun _ _ _ _ _ => .bad)) ob
noncomputable def convPtr (P : Program) (h : H) (s d : TypeId) (o : Pa) (off : Nat) : Eff := match undO P s, undO P d with
  | some (.pointer t), some .unsafePointer => toUnsafe (hget h o) P h t o off
  | some .unsafePointer, some (.pointer t) => fromUnsafe (hget h o) P h t o off
  | _, _ => .bad
noncomputable def conv1 (a : SV) : Program → H → TypeId → TypeId → Eff := (SV.rec (motive_1 := fun _ => Program → H → TypeId → TypeId → Eff) (motive_2 := fun _ => Unit) (fun v => convLit v v) (fun o off => fun P h s d => convPtr P h s d o off) (fun o off n _ _ => fun P h s d => convSlc P h s d o off n) (fun _ _ _ _ => .bad) (fun _ => fun _ _ _ _ => .bad) (fun _ _ _ _ _ => fun _ _ _ _ => .bad) (fun _ => fun _ _ _ _ => .bad) (fun _ _ _ => fun _ _ _ _ => .bad) (fun _ _ => fun _ _ _ _ => .bad) (fun _ _ => fun _ _ _ _ => .bad) (fun _ _ _ _ => .bad) () (fun _ _ _ _ => ())) a
noncomputable def makeSlice2 (i : Option TypeInfo) (l c : Option Nat) (h : H) (el : TypeId) : Eff := match i, l, c with
  | some i, some l, some c => match i.zero with
    | some z => ifB (Nat.ble l c && Nat.ble c 100000 && Nat.ble i.bytes 100000 && Nat.beq (lenS (litCells z)) i.size) (newE h (.cells (repS c (litCells z)) el true) fun i h => .val (.slc i 0 l c true) h)
    | none => .bad
  | _, _, _ => .bad
noncomputable def makeSlice1 (P : Program) (h : H) (ty : TypeId) (l c : SV) : Eff := match sliceElem (undO P ty) with
  | some el => makeSlice2 (infoO P el) (asN l) (asN c) h el
  | none => .bad
noncomputable def optN (x : Option Operand) : Nat → T SV → Option Nat := (Option.rec (motive := fun _ => Nat → T SV → Option Nat) (fun d _ => some d) (fun v => fun _ t => asN (ev v t))) x
noncomputable def litO (x : SV) : Option Value := (SV.rec (motive_1 := fun _ => Option Value) (motive_2 := fun _ => Unit) (fun v => some v) (fun _ _ => none) (fun _ _ _ _ _ => none) (none) (fun _ => none) (fun _ _ _ _ _ => none) (fun _ => none) (fun _ _ _ => none) (fun _ _ => none) (fun _ _ => none) (none) () (fun _ _ _ _ => ())) x
noncomputable def someO (v : Option Value) : Option (Option Value) := (Option.rec (motive := fun _ => Option (Option Value)) (none) (fun v => some (some v))) v
noncomputable def optV (x : Option Operand) : T SV → Option (Option Value) := (Option.rec (motive := fun _ => T SV → Option (Option Value)) (fun _ => some none) (fun x => fun t => someO (litO (ev x t)))) x
noncomputable def slcX (ex : Bool) : H → Pa → Nat → Nat → Nat → Eff := (Bool.rec (motive := fun _ => H → Pa → Nat → Nat → Nat → Eff) (fun h _ _ _ _ => .val .eslc h) (fun h o off n m => .val (.slc o off n m true) h)) ex
noncomputable def slcQ (eq : Bool) : Bool → H → Pa → Nat → Nat → Nat → Nat → Nat → Eff := (Bool.rec (motive := fun _ => Bool → H → Pa → Nat → Nat → Nat → Nat → Nat → Eff) (fun ex h o off l hh m size => .val (.slc o (Nat.add off (Nat.mul l size)) (Nat.sub hh l) (Nat.sub m l) ex) h) (fun ex h o off l hh m _ => slcX ex h o off (Nat.sub hh l) (Nat.sub m l))) eq
noncomputable def elemIs (o : SO) : TypeId → Bool := (SO.rec (motive := fun _ => TypeId → Bool) (fun _ => false) (fun _ e _ => fun t => Nat.beq e t) (fun _ _ _ => fun _ => false) (fun _ _ => fun _ => false) (fun _ _ _ _ => fun _ => false) (fun _ _ _ _ _ _ _ _ => fun _ => false) (fun _ => fun _ => false)) o
noncomputable def slcOk (ex : Bool) : H → Pa → TypeId → Bool := (Bool.rec (motive := fun _ => H → Pa → TypeId → Bool) (fun h o t => elemIs (hget h o) t) (fun _ _ _ => true)) ex
noncomputable def slcN (size : Option Nat) : Bool → H → Pa → Nat → Nat → Nat → Nat → Eff := (Option.rec (motive := fun _ => Bool → H → Pa → Nat → Nat → Nat → Nat → Eff) (fun _ _ _ _ _ _ _ => .bad) (fun size => fun ex h o off l hh m => slcQ (Nat.beq m l) ex h o off l hh m size)) size
noncomputable def slcB (l hh m : Option Nat) : (Nat → Nat → Nat → Eff) → Eff := match l, hh, m with
  | some l, some hh, some m => fun K => K l hh m
  | _, _, _ => fun _ => .bad
/-- May the bounds be as they are? With max there is high. -/
def boundsOk (hi mx : Option Operand) : Bool := match hi, mx with
  | none, some _ => false
  | _, _ => true
noncomputable def isSome' (o : Option Operand) : Bool := (Option.rec (motive := fun _ => Bool) (false) (fun _ => true)) o
noncomputable def slcS (P : Program) (t : T SV) (h : H) (o : Pa) (off n cap : Nat) (ex : Bool) (ty : TypeId) (lo hi mx : Option Operand) : Eff := match undO P ty with
  | some (.slice el) => ifB (boundsOk hi mx) (slcB (optN lo 0 t) (optN hi n t) (optN mx cap t) fun l hh m => ifB (Bool.and (Nat.ble l hh) (Bool.and (Nat.ble hh m) (Nat.ble m cap))) (ifB (slcOk (Bool.or ex (isSome' mx)) h o el) (slcN (sizeO P el) (Bool.or ex (isSome' mx)) h o off l hh m)))
  | _ => .bad
noncomputable def slcA (P : Program) (t : T SV) (h : H) (o : Pa) (off : Nat) (ty : TypeId) (lo hi mx : Option Operand) : Eff := match undO P ty with
  | some (.array n el) => ifB (boundsOk hi mx) (slcB (optN lo 0 t) (optN hi n t) (optN mx n t) fun l hh m => ifB (Bool.and (Nat.ble l hh) (Bool.and (Nat.ble hh m) (Nat.ble m n))) (slcN (sizeO P el) true h o off l hh m))
  | _ => .bad
noncomputable def slcL (P : Program) (h : H) (ty : TypeId) (v : Value) (a b c : Option (Option Value)) : Eff := match a, b, c with
  | some a, some b, some c => stillVal P h (Instr.sliceAt ty v a b c)
  | _, _, _ => .bad
noncomputable def slc1 (a : SV) : Program → T SV → H → TypeId → Option Operand → Option Operand → Option Operand → Eff := (SV.rec (motive_1 := fun _ => Program → T SV → H → TypeId → Option Operand → Option Operand → Option Operand → Eff) (motive_2 := fun _ => Unit) (fun v => fun P t h ty lo hi mx => slcL P h ty v (optV lo t) (optV hi t) (optV mx t)) (fun o off => fun P t h ty lo hi mx => slcA P t h o off ty lo hi mx) (fun o off n cap ex => fun P t h ty lo hi mx => slcS P t h o off n cap ex ty lo hi mx) (fun _ _ _ _ _ _ _ => .bad) (fun _ => fun _ _ _ _ _ _ _ => .bad) (fun _ _ _ _ _ => fun _ _ _ _ _ _ _ => .bad) (fun _ => fun _ _ _ _ _ _ _ => .bad) (fun _ _ _ => fun _ _ _ _ _ _ _ => .bad) (fun _ _ => fun _ _ _ _ _ _ _ => .bad) (fun _ _ => fun _ _ _ _ _ _ _ => .bad) (fun _ _ _ _ _ _ _ => .bad) () (fun _ _ _ _ => ())) a
noncomputable def fieldA4 (n : Nat) : H → Pa → Nat → Eff := (Nat.rec (motive := fun _ => H → Pa → Nat → Eff) (fun _ _ _ => .bad) (fun _ _ => fun h o off => .val (.ptr o off) h)) n
noncomputable def fieldA3 (sz : Option Nat) : H → Pa → Nat → Eff := (Option.rec (motive := fun _ => H → Pa → Nat → Eff) (fun _ _ _ => .bad) (fun n => fieldA4 n)) sz
noncomputable def fieldA2 (f : Option Field) : Program → H → Pa → Nat → Eff := (Option.rec (motive := fun _ => Program → H → Pa → Nat → Eff) (fun _ _ _ _ => .bad) (fun fd => fun P h o off => fieldA3 (sizeO P fd.type) h o (Nat.add off fd.offset))) f
noncomputable def fieldsD (d : Option TypeDesc) : List Field := match d with | some (.struct fs) => fs.toList | _ => []
noncomputable def fieldAddr1 (a : SV) : Program → H → TypeId → Nat → Eff := (SV.rec (motive_1 := fun _ => Program → H → TypeId → Nat → Eff) (motive_2 := fun _ => Unit) (fun v => fun P h s f => stillVal P h (Instr.fieldAt s v f)) (fun o off => fun P h s f => fieldA2 (nthD f (fieldsD (undO P s))) P h o off) (fun _ _ _ _ _ => fun _ _ _ _ => .bad) (fun _ _ _ _ => .bad) (fun _ => fun _ _ _ _ => .bad) (fun _ _ _ _ _ => fun _ _ _ _ => .bad) (fun _ => fun _ _ _ _ => .bad) (fun _ _ _ => fun _ _ _ _ => .bad) (fun _ _ => fun _ _ _ _ => .bad) (fun _ _ => fun _ _ _ _ => .bad) (fun _ _ _ _ => .bad) () (fun _ _ _ _ => ())) a
noncomputable def field2 (f : Option Field) : Program → H → List SV → Eff := (Option.rec (motive := fun _ => Program → H → List SV → Eff) (fun _ _ _ => .bad) (fun fd => fun P h cs => valO (part P fd.type cs fd.offset) h)) f
/-- The cells of a struct or an array. -/
noncomputable def aggW (v : Value) : Option (List SV) := (Value.rec (motive_1 := fun _ => Option (List SV)) (motive_2 := fun _ => Unit) (motive_3 := fun _ => Unit) (fun _ => none) (fun _ _ => none) (fun _ _ => none) (fun _ _ _ => none) (fun _ => none) (fun _ => none) (fun _ _ _ => none) (fun _ => none) (fun _ => none) (fun _ _ _ _ _ => none) (none) (fun _ _ _ => none) (none) (fun cs _ => some (cs.toList.map .lit)) (fun _ _ => none) (fun _ _ => ()) () (fun _ _ _ _ => ())) v
noncomputable def aggCells (v : SV) : Option (List SV) := (SV.rec (motive_1 := fun _ => Option (List SV)) (motive_2 := fun _ => Unit) (fun v => aggW v) (fun _ _ => none) (fun _ _ _ _ _ => none) (none) (fun _ => none) (fun _ _ _ _ _ => none) (fun _ => none) (fun _ _ _ => none) (fun l _ => some l) (fun _ _ => none) (none) () (fun _ _ _ _ => ())) v
noncomputable def field0 (cs : Option (List SV)) : Program → H → TypeId → Nat → Eff := (Option.rec (motive := fun _ => Program → H → TypeId → Nat → Eff) (fun _ _ _ _ => .bad) (fun cs => fun P h s f => field2 (nthD f (fieldsD (undO P s))) P h cs)) cs
noncomputable def idxN (i : Option Nat) : (Nat → Eff) → Eff := (Option.rec (motive := fun _ => (Nat → Eff) → Eff) (fun _ => .bad) (fun i => fun K => K i)) i
noncomputable def idxF (size : Option Nat) : H → Pa → Nat → Nat → Eff := (Option.rec (motive := fun _ => H → Pa → Nat → Nat → Eff) (fun _ _ _ _ => .bad) (fun s => fun h o off i => .val (.ptr o (Nat.add off (Nat.mul i s))) h)) size
noncomputable def idxE (b : Bool) : Option Nat → H → Pa → Nat → Nat → Eff := (Bool.rec (motive := fun _ => Option Nat → H → Pa → Nat → Nat → Eff) (fun _ _ _ _ _ => .bad) (idxF)) b
noncomputable def idxS (el : Option TypeId) : Program → H → Pa → Nat → Nat → Nat → Eff := (Option.rec (motive := fun _ => Program → H → Pa → Nat → Nat → Nat → Eff) (fun _ _ _ _ _ _ => .bad) (fun el => fun P h o off n i => idxE (Nat.ble (Nat.succ i) n) (sizeO P el) h o off i)) el
def arrD (d : Option TypeDesc) : Option (Nat × TypeId) := match d with | some (.array n e) => some (n, e) | _ => none
noncomputable def idxA (p : Option (Nat × TypeId)) : Program → H → Pa → Nat → Nat → Eff := (Option.rec (motive := fun _ => Program → H → Pa → Nat → Nat → Eff) (fun _ _ _ _ _ => .bad) (fun p => fun P h o off i => idxE (Nat.ble (Nat.succ i) p.1) (sizeO P p.2) h o off i)) p
noncomputable def idxL (i : Option Value) : Program → H → TypeId → Value → Eff := (Option.rec (motive := fun _ => Program → H → TypeId → Value → Eff) (fun _ _ _ _ => .bad) (fun i => fun P h ty v => stillVal P h (Instr.indexAt ty v i))) i
noncomputable def idx1 (a : SV) : Program → H → TypeId → SV → Eff := (SV.rec (motive_1 := fun _ => Program → H → TypeId → SV → Eff) (motive_2 := fun _ => Unit) (fun v => fun P h ty i => idxL (litO i) P h ty v) (fun o off => fun P h ty i => idxN (asN i) (fun i => idxA (arrD (undO P ty)) P h o off i)) (fun o off n _ _ => fun P h ty i => idxN (asN i) (fun i => idxS (sliceElem (undO P ty)) P h o off n i)) (fun _ _ _ _ => .bad) (fun _ => fun _ _ _ _ => .bad) (fun _ _ _ _ _ => fun _ _ _ _ => .bad) (fun _ => fun _ _ _ _ => .bad) (fun _ _ _ => fun _ _ _ _ => .bad) (fun _ _ => fun _ _ _ _ => .bad) (fun _ _ => fun _ _ _ _ => .bad) (fun _ _ _ _ => .bad) () (fun _ _ _ _ => ())) a
noncomputable def byteO (b : Option UInt8) : H → Eff := (Option.rec (motive := fun _ => H → Eff) (fun _ => .bad) (fun b => fun h => .val (.lit (.int .u8 (.ofNat b.toNat))) h)) b
noncomputable def index4 (s : Option Nat) : Program → H → TypeId → Nat → List SV → Eff := (Option.rec (motive := fun _ => Program → H → TypeId → Nat → List SV → Eff) (fun _ _ _ _ _ => .bad) (fun s => fun P h el i cs => valO (part P el cs (Nat.mul i s)) h)) s
noncomputable def index2 (p : Option (Nat × TypeId)) : Program → H → Nat → List SV → Eff := (Option.rec (motive := fun _ => Program → H → Nat → List SV → Eff) (fun _ _ _ _ => .bad) (fun p => fun P h i cs => ifB (Nat.ble (Nat.succ i) p.1) (index4 (sizeO P p.2) P h p.2 i cs))) p
noncomputable def indexW (v : Value) : Program → H → TypeId → Nat → Eff := (Value.rec (motive_1 := fun _ => Program → H → TypeId → Nat → Eff) (motive_2 := fun _ => Unit) (motive_3 := fun _ => Unit) (fun _ => fun _ _ _ _ => .bad) (fun _ _ => fun _ _ _ _ => .bad) (fun _ _ => fun _ _ _ _ => .bad) (fun _ _ _ => fun _ _ _ _ => .bad) (fun s => fun P h ty i => ifB (isStr (undO P ty)) (byteO (nthB i s.data.toList) h)) (fun _ => fun _ _ _ _ => .bad) (fun _ _ _ => fun _ _ _ _ => .bad) (fun _ => fun _ _ _ _ => .bad) (fun _ => fun _ _ _ _ => .bad) (fun _ _ _ _ _ => fun _ _ _ _ => .bad) (fun _ _ _ _ => .bad) (fun _ _ _ => fun _ _ _ _ => .bad) (fun _ _ _ _ => .bad) (fun cs _ => fun P h ty i => index2 (arrD (undO P ty)) P h i (cs.toList.map .lit)) (fun _ _ => fun _ _ _ _ => .bad) (fun _ _ => ()) () (fun _ _ _ _ => ())) v
noncomputable def indexV (x : SV) : Program → H → TypeId → Nat → Eff := (SV.rec (motive_1 := fun _ => Program → H → TypeId → Nat → Eff) (motive_2 := fun _ => Unit) (fun v => indexW v) (fun _ _ => fun _ _ _ _ => .bad) (fun _ _ _ _ _ => fun _ _ _ _ => .bad) (fun _ _ _ _ => .bad) (fun _ => fun _ _ _ _ => .bad) (fun _ _ _ _ _ => fun _ _ _ _ => .bad) (fun _ => fun _ _ _ _ => .bad) (fun _ _ _ => fun _ _ _ _ => .bad) (fun l _ => fun P h ty i => index2 (arrD (undO P ty)) P h i l) (fun _ _ => fun _ _ _ _ => .bad) (fun _ _ _ _ => .bad) () (fun _ _ _ _ => ())) x
noncomputable def index1 (i : Option Nat) : SV → Program → H → TypeId → Eff := (Option.rec (motive := fun _ => SV → Program → H → TypeId → Eff) (fun _ _ _ _ => .bad) (fun i => fun x P h ty => indexV x P h ty i)) i
noncomputable def entriesO (o : SO) : Option (List (SV × SV × Nat)) := (SO.rec (motive := fun _ => Option (List (SV × SV × Nat))) (none) (fun _ _ _ => none) (fun es _ _ => some es) (fun _ _ => none) (fun _ _ _ _ => none) (fun _ _ _ _ _ _ _ _ => none) (fun _ => none)) o
noncomputable def mapEs (m : SV) (h : H) : Option (List (SV × SV × Nat)) := match m with
  | .lit (.map none) => some []
  | .mapv o => entriesO (hget h o)
  | _ => none
noncomputable def okTup (ok : Bool) : SV → Bool → SV := (Bool.rec (motive := fun _ => SV → Bool → SV) (fun v _ => v) (fun v b => .tup [v, .lit (.bool b)])) ok
noncomputable def lookup3 (r : Option (Option (Nat × SV))) : Program → H → TypeId → Bool → Eff := match r with
  | some (some p) => fun _ h _ ok => .val (okTup ok p.2 true) h
  | some none => fun P h el ok => (match zeroO P el with
    | some z => .val (okTup ok (.lit z) false) h
    | none => .bad)
  | none => fun _ _ _ _ => .bad
noncomputable def eqF (e : TypeId → SV → SV → Option Bool) (P : Program) (xs ys : List SV) : List Field → Option Bool
  | [] => some true
  | f :: fs => match f.name == "_" with
    | true => eqF e P xs ys fs
    | false => match part P f.type xs f.offset, part P f.type ys f.offset with
      | some a, some b => (match e f.type a b with
        | some true => eqF e P xs ys fs
        | some false => some false
        | none => none)
      | _, _ => none
noncomputable def eqS2 (e : TypeId → SV → SV → Option Bool) (P : Program) (t : TypeId) (a b : SV) : Option Bool := match undO P t, P.stoodInHeld t, aggCells a, aggCells b with
  | some (.struct fs), false, some xs, some ys => eqF e P xs ys fs.toList
  | _, _, _, _ => none
/-- Equality by the type, structs by their fields; n: as deep as the model looks. -/
noncomputable def eqS (P : Program) (h : H) : Nat → Nat → TypeId → SV → SV → Option Bool
  | 0, _, _, _, _ => none
  | _ + 1, 0, _, _, _ => none
  | k + 1, n + 1, t, a, b => match a, b with
    | .lit x, .lit y => (match still P (Op.equalIn (n + 1) t x y) with
      | .ok r => some r
      | _ => none)
    | a, b => (match opEq P h t a b with
      | some r => some r
      | none => eqS2 (eqS P h k n) P t a b)
noncomputable def findA (e : SV → Option Bool) (es : List (SV × SV × Nat)) : Nat → Option (Option (Nat × SV)) :=
  (List.rec (motive := fun _ => Nat → Option (Option (Nat × SV))) (fun _ => some none) (fun p _ ih => fun i => findK2 (e p.1) i p.2.1 ih)) es
def plainK (d : Option TypeDesc) : Bool := match d with | some (.int _) => true | some .string => true | some .bool => true | some (.pointer _) => true | _ => false
noncomputable def keyFields (P : Program) (cs : List SV) : List Field → Bool
  | [] => true
  | f :: fs => match f.name == "_" with
    | true => keyFields P cs fs
    | false => match plainK (undO P f.type), part P f.type cs f.offset with
      | true, some _ => keyFields P cs fs
      | _, _ => false
/-- A struct that may be a key. -/
noncomputable def keyStruct (P : Program) (d : TypeDesc) (k : SV) : Bool := match d, aggCells k with
  | .struct fs, some cs => keyFields P cs fs.toList
  | _, _ => false
noncomputable def findS2 (P : Program) (h : H) (kt : TypeId) (d : TypeDesc) (k : SV) (es : List (SV × SV × Nat)) : Option (Option (Nat × SV)) := match keyStruct P d k with
  | true => findA (fun k' => eqS P h 8 10000 kt k k') es 0
  | false => none
noncomputable def findS (P : Program) (h : H) (kt : TypeId) (d : TypeDesc) (k : SV) (es : List (SV × SV × Nat)) : Option (Option (Nat × SV)) := match keyOk d, k with
  | true, .lit kv => findK d kv es 0
  | _, k => findS2 P h kt d k es
noncomputable def cellSame (a b : SV) : Bool := match a, b with
  | .lit x, .lit y => Instr.sameBits 9999 x y
  | .ptr o i, .ptr o' j => Pa.beq o o' && Nat.beq i j
  | _, _ => false
noncomputable def cellsSame : List SV → List SV → Bool
  | [], [] => true
  | a :: l, b :: m => cellSame a b && cellsSame l m
  | _, _ => false
noncomputable def keySame (d : TypeDesc) (a b : SV) : Bool := match keyOk d, a, b with
  | true, .lit _, .lit _ => true
  | _, a, b => (match aggCells a, aggCells b with
    | some xs, some ys => cellsSame xs ys
    | _, _ => false)
noncomputable def lookup1 (P : Program) (h : H) (ty : TypeId) (m k : SV) (ok : Bool) : Eff := match undO P ty with
  | some (.map kt el) => match mapEs m h, undO P kt with
    | some es, some d => lookup3 (findS P h kt d k es) P h el ok
    | _, _ => .bad
  | _ => .bad
noncomputable def mapPut (i : Nat) : SV → SV → List (SV × SV × Nat) → List (SV × SV × Nat) := (Nat.rec (motive := fun _ => SV → SV → List (SV × SV × Nat) → List (SV × SV × Nat)) (fun k v l => (match l with | [] => [] | p :: r => (k, v, p.2.2) :: r)) (fun _ ih => fun k v l => (match l with | [] => [] | p :: r => p :: ih k v r))) i
noncomputable def appM (l : List (SV × SV × Nat)) (m : List (SV × SV × Nat)) : List (SV × SV × Nat) := (List.rec (motive := fun _ => List (SV × SV × Nat)) (m) (fun x _ ih => x :: ih)) l
noncomputable def nthK (n : Nat) (l : List (SV × SV × Nat)) : SV := match l[n]? with | some p => p.1 | none => .any
noncomputable def mapUpdate3 (r : Option (Option (Nat × SV))) : TypeDesc → H → Pa → List (SV × SV × Nat) → Nat → SV → SV → Eff := match r with
  | some (some p) => fun d h o es c k v => ifB (keySame d (nthK p.1 es) k) (putE h o (.mapo (mapPut p.1 k v es) c true) fun h => .val undefS h)
  | some none => fun _ h o es c k v => putE h o (.mapo (appM es [(k, v, c)]) (Nat.succ c) true) fun h => .val undefS h
  | none => fun _ _ _ _ _ _ _ => .bad
noncomputable def mapUpdate1 (P : Program) (h : H) (ty : TypeId) (m k v : SV) : Eff := match m with
  | .mapv o => match hget h o, undO P ty with
    | .mapo es c true, some (.map kt _) => match undO P kt with
      | some d => mapUpdate3 (findS P h kt d k es) d h o es c k v
      | none => .bad
    | _, _ => .bad
  | _ => .bad
noncomputable def mapCut (i : Nat) : List (SV × SV × Nat) → List (SV × SV × Nat) := (Nat.rec (motive := fun _ => List (SV × SV × Nat) → List (SV × SV × Nat)) (fun l => (match l with | [] => [] | _ :: r => r)) (fun _ ih => fun l => (match l with | [] => [] | p :: r => p :: ih r))) i
noncomputable def delete3 (r : Option (Option (Nat × SV))) : H → Pa → List (SV × SV × Nat) → Nat → Eff := match r with
  | some (some p) => fun h o es c => putE h o (.mapo (mapCut p.1 es) c true) fun h => .val (.lit (.tuple #[])) h
  | some none => fun h o es c => putE h o (.mapo es c true) fun h => .val (.lit (.tuple #[])) h
  | none => fun _ _ _ _ => .bad
noncomputable def delete1 (P : Program) (h : H) (ts : Array TypeId) (m k : SV) : Eff := match m with
  | .mapv o => match hget h o, undT (argT ts) P with
    | .mapo es c true, some (.map kt _) => match undO P kt with
      | some d => delete3 (findS P h kt d k es) h o es c
      | none => .bad
    | _, _ => .bad
  | _ => .bad
noncomputable def builtinD (b : Builtin) : Program → H → Array TypeId → TypeId → List SV → Eff := (Builtin.rec (motive := fun _ => Program → H → Array TypeId → TypeId → List SV → Eff) (fun P h ts ty l => builtinOp b P h ts ty l) (fun P h ts ty l => builtinOp b P h ts ty l) (fun P h ts ty l => builtinOp b P h ts ty l) (fun P h ts ty l => builtinOp b P h ts ty l) (fun P h ts ty l => builtinOp b P h ts ty l) (fun P h ts ty l => builtinOp b P h ts ty l) (fun P h ts _ l => arg2 l fun m k => delete1 P h ts m k) (fun P h ts ty l => builtinOp b P h ts ty l) (fun P h ts ty l => builtinOp b P h ts ty l) (fun P h ts ty l => builtinOp b P h ts ty l) (fun P h ts ty l => builtinOp b P h ts ty l) (fun P h ts ty l => builtinOp b P h ts ty l) (fun P h ts ty l => builtinOp b P h ts ty l) (fun P h ts ty l => builtinOp b P h ts ty l) (fun P h ts ty l => builtinOp b P h ts ty l) (fun P h ts ty l => builtinOp b P h ts ty l) (fun P h ts ty l => builtinOp b P h ts ty l) (fun P h ts ty l => builtinOp b P h ts ty l) (fun P h ts ty l => builtinOp b P h ts ty l) (fun P h ts ty l => builtinOp b P h ts ty l) (fun P h ts ty l => builtinOp b P h ts ty l) (fun P h ts ty l => builtinOp b P h ts ty l) (fun P h ts ty l => builtinOp b P h ts ty l) (fun P h ts ty l => builtinOp b P h ts ty l) (fun P h ts ty l => builtinOp b P h ts ty l) (fun P h ts ty l => builtinOp b P h ts ty l)) b
noncomputable def range1 (P : Program) (h : H) (ty : TypeId) (x : SV) : Eff := match x with
  | .lit (.string s) => ifB (isStr (undO P ty)) (newE h (.sit s 0) fun i h => .val (.ptr i 0) h)
  | .lit (.map none) => ifB (isMap (undO P ty)) (newE h (.mit none 0 [] 0) fun i h => .val (.ptr i 0) h)
  | .mapv o => match hget h o with
    | .mapo _ c _ => ifB (isMap (undO P ty)) (newE h (.mit (some o) c [] c) fun i h => .val (.ptr i 0) h)
    | _ => .bad
  | _ => .bad
noncomputable def nextM (h : H) (i : Pa) (m : Pa) (since : Nat) (seen : List Nat) (st : Nat) (ob : SO) : Eff := match ob with
  | .mapo es clock _ => match seen, es with
    | [], [] => .val (.lit (.tuple #[.bool false])) h
    | [], [(k, v, b)] => match Nat.ble (Nat.succ b) since with
      | true => putE h i (.mit (some m) since [b] clock) fun h => .val (.tup [.lit (.bool true), k, v]) h
      | false => .bad
    | [b'], [(_, _, b)] => match Nat.beq b b', Nat.ble (Nat.succ b) st with
      | true, true => .val (.lit (.tuple #[.bool false])) h
      | _, _ => .bad
    | _, _ => .bad
  | _ => .bad
noncomputable def next1 (h : H) (it : SV) (isS : Bool) : Eff := match it with
  | .ptr i 0 => match hget h i, isS with
    | .sit s pos, true => match Nat.ble (Nat.succ pos) s.size with
      | true => putE h i (.sit s (Nat.add pos (Utf8.decode s pos).2)) fun h => .val (.lit (.tuple #[.bool true, .int .i64 (.ofNat pos), .int .i32 (Utf8.decode s pos).1])) h
      | false => .val (.lit (.tuple #[.bool false])) h
    | .mit none _ _ _, false => .val (.lit (.tuple #[.bool false])) h
    | .mit (some m) since seen st, false => nextM h i m since seen st (hget h m)
    | _, _ => .bad
  | _ => .bad
noncomputable def entryM (b' st : Nat) (ob : SO) (h : H) : Eff := match ob with
  | .mapo [(k, v, b)] c _ => match Nat.beq c st, Nat.beq b b' with
    | true, true => .val (.tup [k, v]) h
    | _, _ => .bad
  | _ => .bad
noncomputable def entry1 (h : H) (it : SV) : Eff := match it with
  | .ptr i 0 => match hget h i with
    | .mit (some m) _ [b'] st => entryM b' st (hget h m) h
    | _ => .bad
  | _ => .bad
noncomputable def litE (v : Option Value) : H → Eff := (Option.rec (motive := fun _ => H → Eff) (fun _ => .bad) (fun v => fun h => .val (.lit v) h)) v
noncomputable def extractW (v : Value) : H → Nat → Eff := (Value.rec (motive_1 := fun _ => H → Nat → Eff) (motive_2 := fun _ => Unit) (motive_3 := fun _ => Unit) (fun _ => fun _ _ => .bad) (fun _ _ => fun _ _ => .bad) (fun _ _ => fun _ _ => .bad) (fun _ _ _ => fun _ _ => .bad) (fun _ => fun _ _ => .bad) (fun _ => fun _ _ => .bad) (fun _ _ _ => fun _ _ => .bad) (fun _ => fun _ _ => .bad) (fun _ => fun _ _ => .bad) (fun _ _ _ _ _ => fun _ _ => .bad) (fun _ _ => .bad) (fun _ _ _ => fun _ _ => .bad) (fun _ _ => .bad) (fun _ _ => fun _ _ => .bad) (fun vs _ => fun h i => litE (nthV i vs.toList) h) (fun _ _ => ()) () (fun _ _ _ _ => ())) v
noncomputable def extract1 (x : SV) : H → Nat → Eff := (SV.rec (motive_1 := fun _ => H → Nat → Eff) (motive_2 := fun _ => Unit) (fun v => extractW v) (fun _ _ => fun _ _ => .bad) (fun _ _ _ _ _ => fun _ _ => .bad) (fun _ _ => .bad) (fun _ => fun _ _ => .bad) (fun _ _ _ _ _ => fun _ _ => .bad) (fun _ => fun _ _ => .bad) (fun _ _ _ => fun _ _ => .bad) (fun _ _ => fun _ _ => .bad) (fun l _ => fun h i => valO (nthS i l) h) (fun _ _ => .bad) () (fun _ _ _ _ => ())) x
noncomputable def opCall (c : Callee) : Program → T SV → H → TypeId → Array TypeId → List Operand → Eff := (Callee.rec (motive := fun _ => Program → T SV → H → TypeId → Array TypeId → List Operand → Eff) (fun f => fun P t h _ _ l => callV (ev f t) P h (evL l t)) (fun _ _ => fun _ _ _ _ _ _ => .bad) (fun b => fun P t h ty ts l => builtinD b P h ts ty (evL l t))) c
noncomputable def deferV (f : SV) : List SV → Eff := (SV.rec (motive_1 := fun _ => List SV → Eff) (motive_2 := fun _ => Unit) (fun _ => fun _ => .bad) (fun _ _ => fun _ => .bad) (fun _ _ _ _ _ => fun _ => .bad) (fun _ => .bad) (fun _ => fun _ => .bad) (fun f first cap _ _ => fun l => .defer (.call f (appS (appS first l) cap))) (fun _ => fun _ => .bad) (fun _ _ _ => fun _ => .bad) (fun _ _ => fun _ => .bad) (fun _ _ => fun _ => .bad) (fun _ => .bad) () (fun _ _ _ _ => ())) f
noncomputable def opDefer (c : Callee) : T SV → List Operand → Eff := (Callee.rec (motive := fun _ => T SV → List Operand → Eff) (fun f => fun t l => deferV (ev f t) (evL l t)) (fun _ _ => fun _ _ => .bad) (fun _ => fun _ _ => .bad)) c
def opPanic (x : SV) : Eff := match x with | .ifc t v => .panic (.ifc t v) | .lit (.iface t v) => .panic (.lit (.iface t v)) | _ => .bad
noncomputable def ifaceV (v : SV) : SV → TypeId → SV := (SV.rec (motive_1 := fun _ => SV → TypeId → SV) (motive_2 := fun _ => Unit) (fun v => fun _ ty => .lit (.iface ty v)) (fun _ _ => fun v ty => .ifc ty v) (fun _ _ _ _ _ => fun v ty => .ifc ty v) (fun v ty => .ifc ty v) (fun _ => fun v ty => .ifc ty v) (fun _ _ _ _ _ => fun v ty => .ifc ty v) (fun _ => fun v ty => .ifc ty v) (fun _ _ _ => fun v ty => .ifc ty v) (fun _ _ => fun v ty => .ifc ty v) (fun _ _ => fun v ty => .ifc ty v) (fun v ty => .ifc ty v) () (fun _ _ _ _ => ())) v
def concrete (d : Option TypeDesc) : Bool := match d with | some (.interface _) => false | some _ => true | none => false
noncomputable def assertOk (same : Bool) : Bool → SV → H → Eff := (Bool.rec (motive := fun _ => Bool → SV → H → Eff) (fun _ _ _ => .bad) (fun ok v h => .val (okTup ok v true) h)) same
noncomputable def typeAssert1 (P : Program) (h : H) (a : TypeId) (ok : Bool) (x : SV) : Eff := ifB (concrete (undO P a)) (match x with
  | .ifc ty v => assertOk (Nat.beq ty a) ok v h
  | .lit (.iface ty v) => assertOk (Nat.beq ty a) ok (.lit v) h
  | _ => .bad)
noncomputable def makeFn (fn : Fn) : H → List SV → List SV → Eff := match fn with | .func f => fun h a b => .val (.fn f a b) h | _ => fun _ _ _ => .bad
noncomputable def intW (v : Value) : Bool := (Value.rec (motive_1 := fun _ => Bool) (motive_2 := fun _ => Unit) (motive_3 := fun _ => Unit) (fun _ => false) (fun _ _ => true) (fun _ _ => false) (fun _ _ _ => false) (fun _ => false) (fun _ => false) (fun _ _ _ => false) (fun _ => false) (fun _ => false) (fun _ _ _ _ _ => false) (false) (fun _ _ _ => false) (false) (fun _ _ => false) (fun _ _ => false) (fun _ _ => ()) () (fun _ _ _ _ => ())) v
noncomputable def intS (v : SV) : Bool := (SV.rec (motive_1 := fun _ => Bool) (motive_2 := fun _ => Unit) (fun v => intW v) (fun _ _ => false) (fun _ _ _ _ _ => false) (false) (fun _ => false) (fun _ _ _ _ _ => false) (fun _ => false) (fun _ _ _ => false) (fun _ _ => false) (fun _ _ => false) (false) () (fun _ _ _ _ => ())) v
def mapD (d : Option TypeDesc) : Bool := match d with | some (.map _ _) => true | _ => false
noncomputable def makeMap1 (r : Option Operand) : Bool → T SV → H → Eff := (Option.rec (motive := fun _ => Bool → T SV → H → Eff) (fun _ _ h => newE h (.mapo [] 0 true) fun i h => .val (.mapv i) h) (fun x => fun b t h => ifB (andB b (intS (ev x t))) (newE h (.mapo [] 0 true) fun i h => .val (.mapv i) h))) r
/-- What an operation does: its type, the program, the known package variables, the slots, the heap. -/
noncomputable def sop (op : Op) : TypeId → Program → Glob → T SV → H → Eff := (Op.rec (motive := fun _ => TypeId → Program → Glob → T SV → H → Eff) (fun x => fun _ _ _ t h => .val (ev x t) h) (fun x => fun _ _ _ t h => .val (ev x t) h) (fun c a b => fun _ _ _ t h => boolV (ev c t) fun c => .val (pickB c (ev a t) (ev b t)) h) (fun el => fun _ P _ _ h => allocE (zeroO P el) el h) (fun el x => fun _ _ _ t h => newE h (.cells (cellsOf (ev x t)) el true) fun i h => .val (.ptr i 0) h) (fun ty p => fun _ P _ t h => build1 (zeroO P ty) ty P t h p.toList) (fun ty n p => fun _ P _ t h => bslice1 (sliceElem (undO P ty)) n P t h p.toList) (fun ty m k v => fun _ P _ t h => mapUpdate1 P h ty (ev m t) (ev k t) (ev v t)) (fun ty a => fun _ P G t h => loadE (loadN (sizeO P ty) (ev a t) G h) (aggT P ty) h) (fun ty a x => fun _ P _ t h => storeS (sizeO P ty) (ev a t) h (cellsOf (ev x t))) (fun _ => fun _ _ _ _ _ => .bad) (fun _ => fun _ _ _ _ _ => .bad) (fun x => fun _ P _ t h => nilCheckV (ev x t) P h) (fun op xT x y _ => fun _ P _ t h => bin1 (ev x t) (ev x t) P h op xT x y (ev y t)) (fun op _ x => fun _ P _ t h => un1 (ev x t) P h op) (fun s d x => fun _ P _ t h => conv1 (ev x t) P h s d) (fun _ _ => fun _ _ _ _ _ => .bad) (fun ty x => fun _ P _ t h => ifB (concrete (undO P ty)) (.val (ifaceV (ev x t) (ev x t) ty) h)) (fun fn a b => fun _ _ _ t h => makeFn fn h (evL a.toList t) (evL b.toList t)) (fun ty r => fun _ P _ t h => makeMap1 r (mapD (undO P ty)) t h) (fun _ _ => fun _ _ _ _ _ => .bad) (fun ty l c => fun _ P _ t h => makeSlice1 P h ty (ev l t) (ev c t)) (fun ty x lo hi mx => fun _ P _ t h => slc1 (ev x t) P t h ty lo hi mx) (fun s x f => fun _ P _ t h => fieldAddr1 (ev x t) P h s f) (fun s x f => fun _ P _ t h => field0 (aggCells (ev x t)) P h s f) (fun ty x i => fun _ P _ t h => idx1 (ev x t) P h ty (ev i t)) (fun ty x i => fun _ P _ t h => index1 (asN (ev i t)) (ev x t) P h ty) (fun ty m k ok => fun _ P _ t h => lookup1 P h ty (ev m t) (ev k t) ok) (fun ty m k v => fun _ P _ t h => mapUpdate1 P h ty (ev m t) (ev k t) (ev v t)) (fun _ _ _ => fun _ _ _ _ _ => .bad) (fun _ _ _ _ => fun _ _ _ _ _ => .bad) (fun ty x => fun _ P _ t h => range1 P h ty (ev x t)) (fun it isS => fun _ _ _ t h => next1 h (ev it t) isS) (fun it => fun _ _ _ t h => entry1 h (ev it t)) (fun x _ a ok => fun _ P _ t h => typeAssert1 P h a ok (ev x t)) (fun x i => fun _ _ _ t h => extract1 (ev x t) h i) (fun c => fun ty P _ t h => opCall c.callee P t h ty c.argTypes c.args.toList) (fun _ => fun _ _ _ _ _ => .bad) (fun c => fun _ _ _ t _ => opDefer c.callee t c.args.toList) (fun x => fun _ _ _ t _ => opPanic (ev x t)) (fun _ _ => fun _ _ _ _ _ => .bad) (fun _ _ _ => fun _ _ _ _ _ => .bad) (fun _ _ => fun _ _ _ _ _ => .bad)) op

-- the machine
abbrev RunF := SF → List SF → H → Res
/-- What stays while a frame's code runs. -/
inductive Bd where
  | mk (fi : FI) (de : List SDef) (cs : List SF) (R : RunF)
/-- What stays while a region's operations run. -/
inductive Cx where
  | mk (ops : Array Oper) (b : Bd) (k : List SI)
noncomputable def nextB (b : Bd) : T SV → List SI → H → Res := (Bd.rec (motive := fun _ => T SV → List SI → H → Res) (fun fi de cs _ => fun tm k h => .next (.mk fi tm k de .run) cs h)) b
noncomputable def dstOf (o : Oper) : Option Tmp := (Oper.rec (motive := fun _ => Option Tmp) (fun d _ _ _ _ _ => d)) o
noncomputable def setO (d : Option Tmp) : SV → T SV → (T SV → Res) → Res := (Option.rec (motive := fun _ => SV → T SV → (T SV → Res) → Res) (fun _ tm K => K tm) (fun d => sset (pa d))) d
noncomputable def finish3 (l : List Oper) : Array Oper → FI → T SV → List SI → List SDef → SMode → SV → (SF → Res) → Res := (List.rec (motive := fun _ => Array Oper → FI → T SV → List SI → List SDef → SMode → SV → (SF → Res) → Res) (fun _ _ _ _ _ _ _ _ => .bad) (fun o rest _ => fun ops fi tm k de mode v K => setO (dstOf o) v tm fun tm => K (.mk fi tm (.inReg ops rest :: k) de mode))) l
noncomputable def finish2 (i : SI) : FI → T SV → List SI → List SDef → SMode → SV → (SF → Res) → Res := (SI.rec (motive := fun _ => FI → T SV → List SI → List SDef → SMode → SV → (SF → Res) → Res) (fun _ => fun _ _ _ _ _ _ _ => .bad) (fun _ => fun _ _ _ _ _ _ _ => .bad) (fun _ => fun _ _ _ _ _ _ _ => .bad) (fun _ => fun _ _ _ _ _ _ _ => .bad) (fun ops l => fun fi tm k de mode v K => finish3 l ops fi tm k de mode v K) (fun l => fun fi tm k de mode v K => K (.mk fi tm (.endRF l :: k) de mode)) (fun _ => fun _ _ _ _ _ _ _ => .bad) (fun _ _ _ _ _ _ _ => .bad)) i
noncomputable def finish1 (todo : List SI) : FI → T SV → List SDef → SMode → SV → (SF → Res) → Res := (List.rec (motive := fun _ => FI → T SV → List SDef → SMode → SV → (SF → Res) → Res) (fun _ _ _ _ _ _ => .bad) (fun i k _ => fun fi tm de mode v K => finish2 i fi tm k de mode v K)) todo
noncomputable def finishK (f : SF) : SV → (SF → Res) → Res := (SF.rec (motive := fun _ => SV → (SF → Res) → Res) (fun fi tm todo de mode => fun v K => finish1 todo fi tm de mode v K)) f

-- the slots that code writes lie within the frame
noncomputable def okDst (d : Option Tmp) : Nat → Bool := (Option.rec (motive := fun _ => Nat → Bool) (fun _ => true) (fun d => fun nt => Nat.ble (Nat.succ d) nt)) d
noncomputable def okOps (l : List Oper) : Nat → Bool := (List.rec (motive := fun _ => Nat → Bool) (fun _ => true) (fun o _ ih => fun nt => andB (okDst (dstOf o) nt) (ih nt))) l
noncomputable def okTmps (l : List Tmp) : Nat → Bool := (List.rec (motive := fun _ => Nat → Bool) (fun _ => true) (fun p _ ih => fun nt => andB (Nat.ble (Nat.succ p) nt) (ih nt))) l
noncomputable def okCode (c : Code) : Nat → Bool :=
  Code.rec (motive := fun _ => Nat → Bool) (fun _ => true) (fun _ ops _ nt => okOps ops.toList nt) (fun _ _ iha ihb nt => andB (iha nt) (ihb nt)) (fun _ _ _ iha ihb nt => andB (iha nt) (ihb nt))
    (fun _ _ ih => ih) (fun _ ih => ih) (fun _ ps _ _ iha ihb nt => andB (okTmps ps.toList nt) (andB (iha nt) (ihb nt))) (fun _ _ => true) (fun _ ih => ih) (fun _ _ => true) (fun _ _ => true) (fun _ => true) (fun _ _ => true) c

noncomputable def argsK (args : List SV) : T SV → Pa → (T SV → Res) → Res :=
  (List.rec (motive := fun _ => T SV → Pa → (T SV → Res) → Res) (fun t _ K => K t) (fun v _ ih => fun t i K => sset i v t fun t => ih t (Pa.succ i) K)) args
noncomputable def enter3 (b : Bool) : Code → FuncId → List SV → CallKind → (SF → Res) → Res := (Bool.rec (motive := fun _ => Code → FuncId → List SV → CallKind → (SF → Res) → Res) (fun _ _ _ _ _ => .bad) (fun c f args kind K => argsK args .nil .e fun tm => K (.mk (.mk f kind none) tm [.code c] [] .run))) b
noncomputable def enter2 (c : Option Code) : FuncId → Nat → List SV → CallKind → (SF → Res) → Res := (Option.rec (motive := fun _ => FuncId → Nat → List SV → CallKind → (SF → Res) → Res) (fun _ _ _ _ _ => .bad) (fun c => fun f nt args kind K => enter3 (okCode c nt) c f args kind K)) c
noncomputable def enter1 (fn : Option Func) : FuncId → List SV → CallKind → (SF → Res) → Res := (Option.rec (motive := fun _ => FuncId → List SV → CallKind → (SF → Res) → Res) (fun _ _ _ _ => .bad) (fun fn => fun f args kind K => enter2 fn.body f fn.ntmps args kind K)) fn
noncomputable def enterK (P : Program) (f : FuncId) (args : List SV) (kind : CallKind) (K : SF → Res) : Res := enter1 (funcO P f) f args kind K
def raise (f : SF) (c : List (SV × Bool)) : SF := match f with
  | .mk fi tm todo de mode => match mode with
    | .pan old => .mk fi tm todo de (.pan (c ++ old))
    | _ => .mk fi tm todo de (.pan c)
noncomputable def exit1 (b : Bool) : List SI → Option (List SI) → Option (List SI) := (Bool.rec (motive := fun _ => List SI → Option (List SI) → Option (List SI)) (fun _ r => r) (fun k _ => some k)) b
noncomputable def exit2 (i : SI) : Nat → List SI → Option (List SI) → Option (List SI) := (SI.rec (motive := fun _ => Nat → List SI → Option (List SI) → Option (List SI)) (fun _ => fun _ _ ih => ih) (fun id' => fun id k ih => exit1 (Nat.beq id' id) k ih) (fun _ => fun _ _ ih => ih) (fun _ => fun _ _ ih => ih) (fun _ _ => fun _ _ ih => ih) (fun _ => fun _ _ ih => ih) (fun _ => fun _ _ ih => ih) (fun _ _ ih => ih)) i
noncomputable def exitS (l : List SI) : Nat → Option (List SI) := (List.rec (motive := fun _ => Nat → Option (List SI)) (fun _ => none) (fun i k ih => fun id => exit2 i id k (ih id))) l
def gotoS (l : Nat) : List SI → Option (List SI)
  | .inScope body :: k => match findLabel body l with
    | some rest => some (.code rest :: .inScope body :: k)
    | none => gotoS l k
  | _ :: k => gotoS l k
  | [] => none
noncomputable def boolOf1 (v : Value) : Option Bool := (Value.rec (motive_1 := fun _ => Option Bool) (motive_2 := fun _ => Unit) (motive_3 := fun _ => Unit) (fun b => some b) (fun _ _ => none) (fun _ _ => none) (fun _ _ _ => none) (fun _ => none) (fun _ => none) (fun _ _ _ => none) (fun _ => none) (fun _ => none) (fun _ _ _ _ _ => none) (none) (fun _ _ _ => none) (none) (fun _ _ => none) (fun _ _ => none) (fun _ _ => ()) () (fun _ _ _ _ => ())) v
noncomputable def boolOf (v : SV) : Option Bool := (SV.rec (motive_1 := fun _ => Option Bool) (motive_2 := fun _ => Unit) (fun v => boolOf1 v) (fun _ _ => none) (fun _ _ _ _ _ => none) (none) (fun _ => none) (fun _ _ _ _ _ => none) (fun _ => none) (fun _ _ _ => none) (fun _ _ => none) (fun _ _ => none) (none) () (fun _ _ _ _ => ())) v
noncomputable def yield2 (d : Option Tmp) : T SV → Option Bool := (Option.rec (motive := fun _ => T SV → Option Bool) (fun _ => none) (fun d => fun t => boolOf (sget (pa d) t))) d
noncomputable def yield1 (o : Option Oper) : T SV → Option Bool := (Option.rec (motive := fun _ => T SV → Option Bool) (fun _ => none) (fun o => yield2 (dstOf o))) o
noncomputable def syielded (ops : Array Oper) (t : T SV) (j : Nat) : Option Bool := yield1 (nthO j ops.toList) t
noncomputable def resultC (cs : Option (List SV)) : Option Bool → Option SV := (Option.rec (motive := fun _ => Option Bool → Option SV) (fun _ => none) (fun cs => fun b => mkVal b cs)) cs
noncomputable def resultV (r : ResultVar) : Program → Glob → H → T SV → Option SV := match r with
  | .tmp t => fun _ _ _ tm => some (sget (pa t) tm)
  | .cell a t => fun P G h tm => resultC (loadN (sizeO P t) (sget (pa a) tm) G h) (aggT P t)
noncomputable def consO2 (o : Option SV) : Option (List SV) → Option (List SV) := (Option.rec (motive := fun _ => Option (List SV) → Option (List SV)) (fun _ => none) (fun v => fun l => consS l v)) o
noncomputable def resultsL (l : List ResultVar) : Program → Glob → H → T SV → Option (List SV) :=
  (List.rec (motive := fun _ => Program → Glob → H → T SV → Option (List SV)) (fun _ _ _ _ => some []) (fun r _ ih => fun P G h tm => consO2 (resultV r P G h tm) (ih P G h tm))) l
noncomputable def tup2 (l : List SV) : List SV → SV → SV := (List.rec (motive := fun _ => List SV → SV → SV) (fun _ v => v) (fun _ _ _ => fun vs _ => .tup vs)) l
noncomputable def tup1 (l : List SV) : List SV → SV := (List.rec (motive := fun _ => List SV → SV) (fun _ => .tup []) (fun v l _ => fun vs => tup2 l vs v)) l
noncomputable def tupO (l : Option (List SV)) : Option SV := (Option.rec (motive := fun _ => Option SV) (none) (fun l => some (tup1 l l))) l
noncomputable def results1 (fn : Option Func) : Program → Glob → H → T SV → Option SV := (Option.rec (motive := fun _ => Program → Glob → H → T SV → Option SV) (fun _ _ _ _ => none) (fun fn => fun P G h tm => tupO (resultsL fn.results.toList P G h tm))) fn
def retDeferred (c : SF) (rest : List SF) (h : H) : Res := match c with
  | .mk fi tm todo de mode => match mode with
    | .pan ((_, true) :: _) => .next (.mk fi tm todo de .ret) rest h
    | .run => .bad
    | mode => .next (.mk fi tm todo de mode) rest h
noncomputable def doReturn2 (kind : CallKind) : SF → List SF → SV → H → Res := (CallKind.rec (motive := fun _ => SF → List SF → SV → H → Res) (fun c rest v h => finishK c v fun c => .next c rest h) (fun c rest _ h => retDeferred c rest h) (fun _ _ _ _ => .bad) (fun _ _ _ _ => .bad) (fun _ _ _ _ => .bad)) kind
noncomputable def doneN (kind : CallKind) : SV → H → Res := (CallKind.rec (motive := fun _ => SV → H → Res) (fun v h => .done v h) (fun _ _ => .bad) (fun _ _ => .bad) (fun _ _ => .bad) (fun _ _ => .bad)) kind
noncomputable def doReturnS (cs : List SF) : CallKind → SV → H → Res := (List.rec (motive := fun _ => CallKind → SV → H → Res) (doneN) (fun c rest _ => fun kind v h => doReturn2 kind c rest v h)) cs
noncomputable def retO (v : Option SV) : List SF → CallKind → H → Res := (Option.rec (motive := fun _ => List SF → CallKind → H → Res) (fun _ _ _ => .bad) (fun v => fun cs kind h => doReturnS cs kind v h)) v
def isNone' (o : Option Code) : Bool := match o with | none => true | some _ => false
def jumpState (o : Option Code) : LoopState := match o with | none => .ready | some _ => .done
noncomputable def roundRet (cs : List SF) : CallKind → SV → H → Res := (List.rec (motive := fun _ => CallKind → SV → H → Res) (fun _ _ _ => .bad) (fun c rest _ => fun kind v h => doReturn2 kind c rest v h)) cs
noncomputable def endRoundS (ob : SO) : CallKind → List SF → H → Pa → Option Code → Res := (SO.rec (motive := fun _ => CallKind → List SF → H → Pa → Option Code → Res) (fun _ _ _ _ _ => .bad) (fun _ _ _ => fun _ _ _ _ _ => .bad) (fun _ _ _ => fun _ _ _ _ _ => .bad) (fun _ _ => fun _ _ _ _ _ => .bad) (fun _ _ _ _ => fun _ _ _ _ _ => .bad) (fun _ _ fn tmps params assign body d => fun kind cs h l jump => putR h l (.loop (jumpState jump) jump fn tmps params assign body d) fun h => roundRet cs kind (.lit (.bool (isNone' jump))) h) (fun _ => fun _ _ _ _ _ => .bad)) ob
noncomputable def leaveNow (de : List SDef) : Program → Glob → FuncId → CallKind → T SV → List SI → List SF → H → List SDef → Res := (List.rec (motive := fun _ => Program → Glob → FuncId → CallKind → T SV → List SI → List SF → H → List SDef → Res) (fun P G fn kind tm _ cs h _ => retO (results1 (funcO P fn) P G h tm) cs kind h) (fun _ _ _ => fun _ _ fn kind tm todo cs h de => .next (.mk (.mk fn kind none) tm todo de .ret) cs h)) de
def isRet (c : Option Code) : Bool := match c with | none => true | some .ret => true | _ => false
noncomputable def leave3 (b : Bool) : List SDef → Program → Glob → FuncId → CallKind → T SV → List SI → List SF → H → Res := (Bool.rec (motive := fun _ => List SDef → Program → Glob → FuncId → CallKind → T SV → List SI → List SF → H → Res) (fun _ _ _ _ _ _ _ _ _ => .bad) (fun de P G fn kind tm todo cs h => leaveNow de P G fn kind tm todo cs h de)) b
noncomputable def isNil (l : List SDef) : Bool := (List.rec (motive := fun _ => Bool) (true) (fun _ _ _ => false)) l
noncomputable def leave4 (b : Bool) : CallKind → List SF → H → Pa → Option Code → Res := (Bool.rec (motive := fun _ => CallKind → List SF → H → Pa → Option Code → Res) (fun _ _ _ _ _ => .bad) (fun kind cs h l jump => endRoundS (hget h l) kind cs h l jump)) b
noncomputable def leave2 (ro : Option Pa) : Program → Glob → FuncId → CallKind → T SV → List SI → List SDef → List SF → H → Option Code → Res := (Option.rec (motive := fun _ => Program → Glob → FuncId → CallKind → T SV → List SI → List SDef → List SF → H → Option Code → Res) (fun P G fn kind tm todo de cs h jump => leave3 (isRet jump) de P G fn kind tm todo cs h) (fun l => fun _ _ _ kind _ _ de cs h jump => leave4 (isNil de) kind cs h l jump)) ro
noncomputable def leave (fi : FI) : Program → Glob → T SV → List SI → List SDef → List SF → H → Option Code → Res := (FI.rec (motive := fun _ => Program → Glob → T SV → List SI → List SDef → List SF → H → Option Code → Res) (fun fn kind ro => fun P G tm todo de cs h jump => leave2 ro P G fn kind tm todo de cs h jump)) fi
noncomputable def leaveB (b : Bd) : Program → Glob → T SV → List SI → H → Option Code → Res := (Bd.rec (motive := fun _ => Program → Glob → T SV → List SI → H → Option Code → Res) (fun fi de cs _ => fun P G tm todo h jump => leave fi P G tm todo de cs h jump)) b
noncomputable def zipSetK (ps : List Tmp) : List SV → T SV → (T SV → Res) → Res :=
  (List.rec (motive := fun _ => List SV → T SV → (T SV → Res) → Res) (fun _ t K => K t) (fun p _ ih => fun l t K => (List.rec (motive := fun _ => Tmp → (List SV → T SV → (T SV → Res) → Res) → T SV → (T SV → Res) → Res) (fun _ _ t K => K t) (fun v l _ => fun p ih t K => sset (pa p) v t fun t => ih l t K)) l p ih t K)) ps
noncomputable def recoverE (fi : FI) (f : SF) (cs : List SF) (h : H) : Res := match fi with
  | .mk _ kind ro => match ro with
    | some _ => .bad
    | none => match kind with
      | .deferred => match cs with
        | .mk fi' tm' todo' de' (.pan ((v, false) :: older)) :: rest => finishK f v fun f => .next f (.mk fi' tm' todo' de' (.pan ((v, true) :: older)) :: rest) h
        | .mk fi' tm' todo' de' .ret :: rest => finishK f (.lit .nilIface) fun f => .next f (.mk fi' tm' todo' de' .ret :: rest) h
        | _ => .bad
      | .normal => finishK f (.lit .nilIface) fun f => .next f cs h
      | _ => .bad
noncomputable def round2 (b : Bool) : FuncId → Pa → List Tmp → List SV → T SV → Code → Code → SF → List SF → H → Res := (Bool.rec (motive := fun _ => FuncId → Pa → List Tmp → List SV → T SV → Code → Code → SF → List SF → H → Res) (fun _ _ _ _ _ _ _ _ _ _ => .bad) (fun fn l ps args tmps assign body f cs h => zipSetK ps args tmps fun tm' => .next (.mk (.mk fn .normal (some l)) tm' [.code assign, .beginRound, .code body] [] .run) (f :: cs) h)) b
noncomputable def round1 (ob : SO) : Pa → List SV → SF → List SF → H → Res := (SO.rec (motive := fun _ => Pa → List SV → SF → List SF → H → Res) (fun _ _ _ _ _ => .bad) (fun _ _ _ => fun _ _ _ _ _ => .bad) (fun _ _ _ => fun _ _ _ _ _ => .bad) (fun _ _ => fun _ _ _ _ _ => .bad) (fun _ _ _ _ => fun _ _ _ _ _ => .bad) (fun _ _ fn tmps params assign body _ => fun l args f cs h => round2 (Nat.beq (lenS args) params.size) fn l params.toList args tmps assign body f cs h) (fun _ => fun _ _ _ _ _ => .bad)) ob
noncomputable def roOf (fi : FI) : Option Pa := (FI.rec (motive := fun _ => Option Pa) (fun _ _ ro => ro)) fi
noncomputable def fnOf (fi : FI) : FuncId := (FI.rec (motive := fun _ => FuncId) (fun fn _ _ => fn)) fi
noncomputable def deferE (ro : Option Pa) (f : SF) (cs : List SF) (h : H) (d : SDef) : Res := match ro with
  | some _ => .bad
  | none => match f with
    | .mk fi tm todo de mode => finishK (.mk fi tm todo (d :: de) mode) undefS fun f => .next f cs h
/-- What an operation's effect does in a frame that runs and has the operation at the head of todo. -/
noncomputable def effE (e : Eff) : Program → FI → T SV → List SI → List SDef → List SF → H → Res := (Eff.rec (motive := fun _ => Program → FI → T SV → List SI → List SDef → List SF → H → Res) (fun v h' => fun _ fi tm todo de cs _ => finishK (.mk fi tm todo de .run) v fun f => .next f cs h') (fun g args => fun P fi tm todo de cs h => enterK P g args .normal fun f => .next f (.mk fi tm todo de .run :: cs) h) (fun l args => fun _ fi tm todo de cs h => round1 (hget h l) l args (.mk fi tm todo de .run) cs h) (fun _ fi tm todo de cs h => recoverE fi (.mk fi tm todo de .run) cs h) (fun d => fun _ fi tm todo de cs h => deferE (roOf fi) (.mk fi tm todo de .run) cs h d) (fun v => fun _ fi tm todo de cs h => .next (.mk fi tm todo de (.pan [(v, false)])) cs h) (fun _ _ _ _ _ _ _ => .bad)) e
noncomputable def effB (b : Bd) : Eff → Array Oper → List SI → Oper → List Oper → Program → T SV → H → Res := (Bd.rec (motive := fun _ => Eff → Array Oper → List SI → Oper → List Oper → Program → T SV → H → Res) (fun fi de cs _ => fun e ops k o rest P tm h => effE e P fi tm (.inReg ops (o :: rest) :: k) de cs h)) b
noncomputable def effC (c : Cx) : Eff → Oper → List Oper → Program → T SV → H → Res := (Cx.rec (motive := fun _ => Eff → Oper → List Oper → Program → T SV → H → Res) (fun ops b k => fun e o rest P tm h => effB b e ops k o rest P tm h)) c

-- the operations of a region in their order
/-- An operation, made ready: 'pure': a value out of the slots. -/
inductive CO where
  | pure (d : Pa) (f : T SV → SV)
  | gen (d : Option Tmp) (f : T SV → H → Eff)
  | grd (j : Nat) (want : Bool) (d : Option Tmp) (f : T SV → H → Eff)
noncomputable def comp3 (op : Op) : Op → Tmp → TypeId → Program → Glob → CO := (Op.rec (motive := fun _ => Op → Tmp → TypeId → Program → Glob → CO) (fun x => fun _ d _ _ _ => .pure (pa d) (ev x)) (fun x => fun _ d _ _ _ => .pure (pa d) (ev x)) (fun _ _ _ => fun op d ty P G => .gen (some d) (sop op ty P G)) (fun _ => fun op d ty P G => .gen (some d) (sop op ty P G)) (fun _ _ => fun op d ty P G => .gen (some d) (sop op ty P G)) (fun _ _ => fun op d ty P G => .gen (some d) (sop op ty P G)) (fun _ _ _ => fun op d ty P G => .gen (some d) (sop op ty P G)) (fun _ _ _ _ => fun op d ty P G => .gen (some d) (sop op ty P G)) (fun _ _ => fun op d ty P G => .gen (some d) (sop op ty P G)) (fun _ _ _ => fun op d ty P G => .gen (some d) (sop op ty P G)) (fun _ => fun op d ty P G => .gen (some d) (sop op ty P G)) (fun _ => fun op d ty P G => .gen (some d) (sop op ty P G)) (fun _ => fun op d ty P G => .gen (some d) (sop op ty P G)) (fun _ _ _ _ _ => fun op d ty P G => .gen (some d) (sop op ty P G)) (fun _ _ _ => fun op d ty P G => .gen (some d) (sop op ty P G)) (fun _ _ _ => fun op d ty P G => .gen (some d) (sop op ty P G)) (fun _ _ => fun op d ty P G => .gen (some d) (sop op ty P G)) (fun _ _ => fun op d ty P G => .gen (some d) (sop op ty P G)) (fun _ _ _ => fun op d ty P G => .gen (some d) (sop op ty P G)) (fun _ _ => fun op d ty P G => .gen (some d) (sop op ty P G)) (fun _ _ => fun op d ty P G => .gen (some d) (sop op ty P G)) (fun _ _ _ => fun op d ty P G => .gen (some d) (sop op ty P G)) (fun _ _ _ _ _ => fun op d ty P G => .gen (some d) (sop op ty P G)) (fun _ _ _ => fun op d ty P G => .gen (some d) (sop op ty P G)) (fun _ _ _ => fun op d ty P G => .gen (some d) (sop op ty P G)) (fun _ _ _ => fun op d ty P G => .gen (some d) (sop op ty P G)) (fun _ _ _ => fun op d ty P G => .gen (some d) (sop op ty P G)) (fun _ _ _ _ => fun op d ty P G => .gen (some d) (sop op ty P G)) (fun _ _ _ _ => fun op d ty P G => .gen (some d) (sop op ty P G)) (fun _ _ _ => fun op d ty P G => .gen (some d) (sop op ty P G)) (fun _ _ _ _ => fun op d ty P G => .gen (some d) (sop op ty P G)) (fun _ _ => fun op d ty P G => .gen (some d) (sop op ty P G)) (fun _ _ => fun op d ty P G => .gen (some d) (sop op ty P G)) (fun _ => fun op d ty P G => .gen (some d) (sop op ty P G)) (fun _ _ _ _ => fun op d ty P G => .gen (some d) (sop op ty P G)) (fun _ _ => fun op d ty P G => .gen (some d) (sop op ty P G)) (fun _ => fun op d ty P G => .gen (some d) (sop op ty P G)) (fun _ => fun op d ty P G => .gen (some d) (sop op ty P G)) (fun _ => fun op d ty P G => .gen (some d) (sop op ty P G)) (fun _ => fun op d ty P G => .gen (some d) (sop op ty P G)) (fun _ _ => fun op d ty P G => .gen (some d) (sop op ty P G)) (fun _ _ _ => fun op d ty P G => .gen (some d) (sop op ty P G)) (fun _ _ => fun op d ty P G => .gen (some d) (sop op ty P G))) op
noncomputable def comp2 (d : Option Tmp) : Op → TypeId → Program → Glob → CO := (Option.rec (motive := fun _ => Op → TypeId → Program → Glob → CO) (fun op ty P G => .gen none (sop op ty P G)) (fun d => fun op ty P G => comp3 op op d ty P G)) d
noncomputable def comp1 (g : Option (Nat × Bool)) : Option Tmp → Op → TypeId → Program → Glob → CO := (Option.rec (motive := fun _ => Option Tmp → Op → TypeId → Program → Glob → CO) (comp2) (fun g => fun d op ty P G => .grd g.1 g.2 d (sop op ty P G))) g
noncomputable def comp (o : Oper) : Program → Glob → CO := (Oper.rec (motive := fun _ => Program → Glob → CO) (fun d op ty _ _ g => fun P G => comp1 g d op ty P G)) o
noncomputable def guard1 (b : Bool) : Bool → Bool := (Bool.rec (motive := fun _ => Bool → Bool) (notB) (fun w => w)) b
noncomputable def guardB (y : Option Bool) : Bool → Bool := (Option.rec (motive := fun _ => Bool → Bool) (fun _ => false) (fun b => guard1 b)) y
noncomputable def opsOf (c : Cx) : Array Oper := (Cx.rec (motive := fun _ => Array Oper) (fun ops _ _ => ops)) c
noncomputable def runEff (e : Eff) : Eff → Option Tmp → Oper → List Oper → Program → Cx → T SV → H → (T SV → H → Res) → Res := (Eff.rec (motive := fun _ => Eff → Option Tmp → Oper → List Oper → Program → Cx → T SV → H → (T SV → H → Res) → Res) (fun v h' => fun _ d _ _ _ _ tm _ K => setO d v tm fun tm => K tm h') (fun _ _ => fun e _ o rest P c tm h _ => effC c e o rest P tm h) (fun _ _ => fun e _ o rest P c tm h _ => effC c e o rest P tm h) (fun e _ o rest P c tm h _ => effC c e o rest P tm h) (fun _ => fun e _ o rest P c tm h _ => effC c e o rest P tm h) (fun _ => fun e _ o rest P c tm h _ => effC c e o rest P tm h) (fun _ _ _ _ _ _ _ _ _ => .bad)) e
noncomputable def runGrd (w : Bool) : Option Tmp → (T SV → H → Eff) → Oper → List Oper → Program → Cx → T SV → H → (T SV → H → Res) → Res := (Bool.rec (motive := fun _ => Option Tmp → (T SV → H → Eff) → Oper → List Oper → Program → Cx → T SV → H → (T SV → H → Res) → Res) (fun d _ _ _ _ _ tm h K => setO d undefS tm fun tm => K tm h) (fun d f o rest P c tm h K => runEff (f tm h) (f tm h) d o rest P c tm h K)) w
noncomputable def runCO (q : CO) : Oper → List Oper → Program → Cx → T SV → H → (T SV → H → Res) → Res := (CO.rec (motive := fun _ => Oper → List Oper → Program → Cx → T SV → H → (T SV → H → Res) → Res) (fun d f => fun _ _ _ _ tm h K => sset d (f tm) tm fun tm => K tm h) (fun d f => fun o rest P c tm h K => runEff (f tm h) (f tm h) d o rest P c tm h K) (fun j want d f => fun o rest P c tm h K => runGrd (guardB (syielded (opsOf c) tm j) want) d f o rest P c tm h K)) q
noncomputable def endOps (c : Cx) : T SV → H → Res := (Cx.rec (motive := fun _ => T SV → H → Res) (fun _ b k => fun tm h => nextB b tm k h)) c
noncomputable def runOps (l : List Oper) : Program → Glob → Cx → T SV → H → Res :=
  (List.rec (motive := fun _ => Program → Glob → Cx → T SV → H → Res) (fun _ _ c tm h => endOps c tm h) (fun o rest ih => fun P G c tm h => runCO (comp o P G) o rest P c tm h (ih P G c))) l

noncomputable def appD (l : List SDef) : List SDef → List SDef := (List.rec (motive := fun _ => List SDef → List SDef) (fun m => m) (fun x _ ih => fun m => x :: ih m)) l
noncomputable def isVal (e : Eff) : Bool := (Eff.rec (motive := fun _ => Bool) (fun _ _ => true) (fun _ _ => false) (fun _ _ => false) (false) (fun _ => false) (fun _ => false) (false)) e
noncomputable def enterRF3 (b : Bd) (P : Program) (tm : T SV) (k : List SI) (h : H) (l : Pa) (mark : List SDef) (e : Eff) : Res := match b with
  | .mk fi de cs _ => effE e P fi tm (.inRF l :: k) (appD mark de) cs h
noncomputable def enterRF2 (P : Program) (b : Bd) (tm : T SV) (k : List SI) (h : H) (l : Pa) (mark : List SDef) (g : SV) : Res := match isVal (callV g P h [.yld l]) with
  | true => .bad
  | false => enterRF3 b P tm k h l mark (callV g P h [.yld l])
noncomputable def enterRF1 (fi : FI) (P : Program) (b : Bd) (tm : T SV) (k : List SI) (h : H) (g : Operand) (params : Array Tmp) (assign body : Code) : Res := match fi with
  | .mk fn _ ro => match ro with
    | some l => match hget h l with
      | .loop _ _ _ _ _ _ _ d => newR h (.loop .ready none fn tm params assign body d) fun l h => enterRF2 P b tm k h l [] (ev g tm)
      | _ => .bad
    | none => newR h (.deferred (some [])) fun d h => newR h (.loop .ready none fn tm params assign body d) fun l h => enterRF2 P b tm k h l [.collected d] (ev g tm)
noncomputable def fiB (b : Bd) : FI := (Bd.rec (motive := fun _ => FI) (fun fi _ _ _ => fi)) b

-- regions that draw their order
noncomputable def unwindP (cs : List SF) : List (SV × Bool) → H → Res := (List.rec (motive := fun _ => List (SV × Bool) → H → Res) (fun chain h => .pan chain h) (fun c rest _ => fun chain h => .next (raise c chain) rest h)) cs
noncomputable def heavyB (b : Builtin) : Bool := (Builtin.rec (motive := fun _ => Bool) (true) (false) (true) (true) (true) (true) (true) (true) (false) (true) (false) (false) (true) (true) (true) (true) (true) (true) (true) (true) (true) (true) (true) (true) (true) (true)) b
noncomputable def heavyC (c : Callee) : Bool := (Callee.rec (motive := fun _ => Bool) (fun _ => true) (fun _ _ => true) (fun b => heavyB b)) c
/-- Does the operation run code, or write? -/
noncomputable def heavyOp (op : Op) : Bool := (Op.rec (motive := fun _ => Bool) (fun _ => false) (fun _ => false) (fun _ _ _ => false) (fun _ => false) (fun _ _ => false) (fun _ _ => false) (fun _ _ _ => false) (fun _ _ _ _ => true) (fun _ _ => false) (fun _ _ _ => true) (fun _ => true) (fun _ => true) (fun _ => false) (fun _ _ _ _ _ => false) (fun _ _ _ => false) (fun _ _ _ => false) (fun _ _ => false) (fun _ _ => false) (fun _ _ _ => false) (fun _ _ => false) (fun _ _ => true) (fun _ _ _ => false) (fun _ _ _ _ _ => false) (fun _ _ _ => false) (fun _ _ _ => false) (fun _ _ _ => false) (fun _ _ _ => false) (fun _ _ _ _ => true) (fun _ _ _ _ => true) (fun _ _ _ => true) (fun _ _ _ _ => true) (fun _ _ => true) (fun _ _ => true) (fun _ => true) (fun _ _ _ _ => false) (fun _ _ => false) (fun c => heavyC c.callee) (fun _ => true) (fun _ => true) (fun _ => true) (fun _ _ => true) (fun _ _ _ => true) (fun _ _ => true)) op
/-- An operation of a region that draws: its place, itself, is it heavy, the places that come before it in every order (bits). -/
inductive PI where
  | mk (i : Nat) (o : Oper) (heavy : Bool) (mask : Nat)
def PI.i (p : PI) : Nat := match p with | .mk i _ _ _ => i
def PI.heavy (p : PI) : Bool := match p with | .mk _ _ h _ => h
def PI.mask (p : PI) : Nat := match p with | .mk _ _ _ m => m
def PI.o (p : PI) : Oper := match p with | .mk _ o _ _ => o
def maskE (ms : List Nat) : List Edge → Nat
  | [] => 0
  | e :: l => match Region.binds .any e with
    | true => Nat.lor (Nat.lor (Nat.pow 2 e.on) (ms.getD e.on 0)) (maskE ms l)
    | false => maskE ms l
def masks : List Oper → List Nat → List Nat
  | [], ms => ms
  | o :: l, ms => masks l (ms ++ [maskE ms o.after.toList])
noncomputable def items : List Oper → List Nat → Nat → List PI
  | o :: l, m :: ms, i => .mk i o (heavyOp o.op) m :: items l ms (Nat.succ i)
  | _, _, _ => []
def sub (a b : Nat) : Bool := Nat.beq (Nat.land a b) a
def heavyMask : List PI → Nat
  | [] => 0
  | p :: l => match p.heavy with
    | true => Nat.lor (Nat.pow 2 p.i) (heavyMask l)
    | false => heavyMask l
/-- The light operations as early as they may come. -/
def orderP (H : Nat) : List PI → List PI → Nat → List PI
  | [], pend, _ => pend
  | h :: hs, pend, hm => pend.filter (fun p => sub (Nat.land p.mask H) hm) ++ h :: orderP H hs (pend.filter (fun p => !sub (Nat.land p.mask H) hm)) (Nat.lor hm (Nat.pow 2 h.i))
def planned (l : List PI) : List PI := orderP (heavyMask l) (l.filter (·.heavy)) (l.filter (!·.heavy)) 0
/-- Each comes once, behind those that must come before it; the heavy ones lie in one chain, and what comes behind one of them must. em: those that have come; hm: the heavy ones among them. -/
def planOk : List PI → Nat → Nat → Option Nat
  | [], em, _ => some em
  | p :: l, em, hm => match Nat.testBit em p.i, sub p.mask em, sub hm p.mask with
    | false, true, true => planOk l (Nat.lor em (Nat.pow 2 p.i)) (match p.heavy with | true => Nat.lor hm (Nat.pow 2 p.i) | false => hm)
    | _, _, _ => none
def tmpsOf (o : Op) : List Tmp := o.operands.toList.filterMap fun | .tmp t => some t | _ => none
/-- The slots that operations write: slot, place. -/
def writers : List Oper → Nat → List (Tmp × Nat)
  | [], _ => []
  | o :: l, i => match o.dst with
    | some d => (d, i) :: writers l (Nat.succ i)
    | none => writers l (Nat.succ i)
def findW (t : Tmp) : List (Tmp × Nat) → Option Nat
  | [] => none
  | p :: l => match Nat.beq p.1 t with
    | true => some p.2
    | false => findW t l
def apartW (ms : List Nat) (j : Nat) (w : Option Nat) : Bool := match w with
  | none => true
  | some i => Nat.beq i j || Nat.testBit (ms.getD j 0) i || Nat.testBit (ms.getD i 0) j
def guardOk (ops : List Oper) (ms : List Nat) (j : Nat) (g : Option (Nat × Bool)) : Bool := match g with
  | none => true
  | some (i, _) => Nat.testBit (ms.getD j 0) i
/-- Each slot has one writer, and whoever reads it is ordered with that one. -/
def slotsOk (all : List Oper) (ms : List Nat) (w : List (Tmp × Nat)) : List Oper → Nat → Bool
  | [], _ => true
  | o :: l, j => (match o.dst with | some d => (match findW d w with | some i => Nat.beq i j | none => false) | none => true)
      && (tmpsOf o.op).all (fun t => apartW ms j (findW t w)) && guardOk all ms j o.guard && slotsOk all ms w l (Nat.succ j)
def edgesIn (md : Region.Mode) (m : Nat) (o : Oper) : Bool := o.after.toList.all fun e => !Region.binds md e || Nat.testBit m e.on
/-- Does the order l (places) come to every operation, each behind what binds it? -/
def orderOk (md : Region.Mode) (ops : List Oper) : List Nat → Nat → Bool
  | [], m => Nat.beq m (Nat.sub (Nat.pow 2 ops.length) 1)
  | i :: l, m => match ops[i]? with
    | some o => edgesIn md m o && orderOk md ops l (Nat.lor m (Nat.pow 2 i))
    | none => false
def gcPass (l : List (Oper × Nat)) (m : Nat) : List (Oper × Nat) × List Nat × Nat := l.foldl (fun (rest, out, m) (o, i) => match edgesIn .gc m o with
  | true => (rest, out ++ [i], Nat.lor m (Nat.pow 2 i))
  | false => (rest ++ [(o, i)], out, m)) ([], [], m)
def gcOrder : Nat → List (Oper × Nat) → Nat → List Nat
  | 0, _, _ => []
  | _ + 1, [], _ => []
  | n + 1, l, m => (gcPass l m).2.1 ++ gcOrder n (gcPass l m).1 (gcPass l m).2.2
def departOk (b : Bool) (ops : List Oper) : Bool := match b with
  | true => orderOk .gc ops (gcOrder 8 ops.zipIdx 0) 0
  | false => true
noncomputable def planB (b : Bool) (l : List PI) : Option (List PI) := match b with
  | true => some (planned l)
  | false => none
noncomputable def planE (em : Option Nat) (n : Nat) : Bool := match em with
  | some m => Nat.beq m (Nat.sub (Nat.pow 2 n) 1)
  | none => false
noncomputable def planL (ops : List Oper) (ms : List Nat) (dep : Bool) : Option (List PI) :=
  planB (planE (planOk (planned (items ops ms 0)) 0 0) ops.length && slotsOk ops ms (writers ops 0) ops 0 && orderOk .text ops (List.range ops.length) 0 && departOk dep ops) (items ops ms 0)
noncomputable def plan (ops : Array Oper) : Option (List PI) := planL ops.toList (masks ops.toList []) (Region.departs ops)

/-- The object that a light operation reads. -/
noncomputable def ptrO (v : SV) : Option Pa := (SV.rec (motive_1 := fun _ => Option Pa) (motive_2 := fun _ => Unit) (fun _ => none) (fun o _ => some o) (fun o _ _ _ _ => some o) (none) (fun o => some o) (fun _ _ _ _ _ => none) (fun _ => none) (fun _ _ _ => none) (fun _ _ => none) (fun _ _ => none) (none) () (fun _ _ _ _ => ())) v
noncomputable def headO (l : List Operand) : T SV → Option Pa := (List.rec (motive := fun _ => T SV → Option Pa) (fun _ => none) (fun x _ _ => fun t => ptrO (ev x t))) l
noncomputable def readsO (op : Op) : T SV → Option Pa := (Op.rec (motive := fun _ => T SV → Option Pa) (fun _ => fun _ => none) (fun _ => fun _ => none) (fun _ _ _ => fun _ => none) (fun _ => fun _ => none) (fun _ _ => fun _ => none) (fun _ _ => fun _ => none) (fun _ _ _ => fun _ => none) (fun _ _ _ _ => fun _ => none) (fun _ a => fun t => ptrO (ev a t)) (fun _ _ _ => fun _ => none) (fun _ => fun _ => none) (fun _ => fun _ => none) (fun _ => fun _ => none) (fun _ _ _ _ _ => fun _ => none) (fun _ _ _ => fun _ => none) (fun _ _ x => fun t => ptrO (ev x t)) (fun _ _ => fun _ => none) (fun _ _ => fun _ => none) (fun _ _ _ => fun _ => none) (fun _ _ => fun _ => none) (fun _ _ => fun _ => none) (fun _ _ _ => fun _ => none) (fun _ x _ _ _ => fun t => ptrO (ev x t)) (fun _ _ _ => fun _ => none) (fun _ _ _ => fun _ => none) (fun _ _ _ => fun _ => none) (fun _ _ _ => fun _ => none) (fun _ _ _ _ => fun _ => none) (fun _ _ _ _ => fun _ => none) (fun _ _ _ => fun _ => none) (fun _ _ _ _ => fun _ => none) (fun _ _ => fun _ => none) (fun _ _ => fun _ => none) (fun _ => fun _ => none) (fun _ _ _ _ => fun _ => none) (fun _ _ => fun _ => none) (fun c => headO c.args.toList) (fun _ => fun _ => none) (fun _ => fun _ => none) (fun _ => fun _ => none) (fun _ _ => fun _ => none) (fun _ _ _ => fun _ => none) (fun _ _ => fun _ => none)) op
noncomputable def dimO (hide : Bool) (o : SO) : SO := (Bool.rec (motive := fun _ => SO → SO) (fun o => (SO.rec (motive := fun _ => SO → SO) (fun _ => .none) (fun vs e _ => fun _ => .cells vs e false) (fun es c _ => fun _ => .mapo es c false) (fun _ _ => fun _ => .none) (fun _ _ _ _ => fun _ => .none) (fun _ _ _ _ _ _ _ _ => fun _ => .none) (fun _ => fun _ => .none)) o o) (fun _ => .none)) hide o
noncomputable def nOf (h : H) : Pa := (H.rec (motive := fun _ => Pa) (fun n _ => n)) h
noncomputable def one (o : Pa) (ob : SO) : T SO := Pa.rec (motive := fun _ => SO → T SO) (fun ob => .node ob .nil .nil) (fun _ ih ob => .node .none (ih ob) .nil) (fun _ ih ob => .node .none .nil (ih ob)) o ob
/-- The heap with the one object that is read, not to be written; or with none. -/
noncomputable def smallH (o : Option Pa) (h : H) : H := (Option.rec (motive := fun _ => H → H) (fun h => .mk (nOf h) .nil) (fun o => fun h => .mk (nOf h) (one o (dimO false (hget h o))))) o h
/-- What has been read, or made, by a light operation: its place, the object, is it new? -/
abbrev Fl := List (Nat × Pa × Bool)
noncomputable def flR (o : Option Pa) : Nat → Fl → Fl := (Option.rec (motive := fun _ => Nat → Fl → Fl) (fun _ l => l) (fun o => fun i l => (i, o, false) :: l)) o
abbrev LightK := SV → H → Fl → Res
noncomputable def lightN2 (b : Bool) : SV → Pa → SO → H → Nat → Fl → LightK → Res := (Bool.rec (motive := fun _ => SV → Pa → SO → H → Nat → Fl → LightK → Res) (fun _ _ _ _ _ _ _ => .bad) (fun v n ob h i fl K => newR h ob fun _ h => K v h ((i, n, true) :: fl))) b
noncomputable def lightN (b : Bool) : SV → Pa → Pa → T SO → H → Nat → Fl → LightK → Res := (Bool.rec (motive := fun _ => SV → Pa → Pa → T SO → H → Nat → Fl → LightK → Res) (fun v n n' ob h i fl K => lightN2 (Pa.beq n' (Pa.succ n)) v n (oget n ob) h i fl K) (fun v _ _ _ h _ fl K => K v h fl)) b
noncomputable def lightH (hs : H) : SV → H → Nat → Fl → LightK → Res := (H.rec (motive := fun _ => SV → H → Nat → Fl → LightK → Res) (fun n' ob => fun v h i fl K => lightN (Pa.beq n' (nOf h)) v (nOf h) n' ob h i fl K)) hs
noncomputable def lightE (e : Eff) : H → Nat → Fl → LightK → Res := (Eff.rec (motive := fun _ => H → Nat → Fl → LightK → Res) (fun v hs => fun h i fl K => lightH hs v h i fl K) (fun _ _ => fun _ _ _ _ => .bad) (fun _ _ => fun _ _ _ _ => .bad) (fun _ _ _ _ => .bad) (fun _ => fun _ _ _ _ => .bad) (fun _ => fun _ _ _ _ => .bad) (fun _ _ _ _ => .bad)) e
/-- The heap as a heavy operation sees it. -/
noncomputable def dimB (b : Bool) : Pa → Bool → H → (H → List (Pa × SO) → Res) → List (Pa × SO) → Res := (Bool.rec (motive := fun _ => Pa → Bool → H → (H → List (Pa × SO) → Res) → List (Pa × SO) → Res) (fun o hide h K u => putR h o (dimO hide (hget h o)) fun h' => K h' ((o, hget h o) :: u)) (fun _ _ h K u => K h u)) b
noncomputable def dimK (fl : Fl) : Nat → H → List (Pa × SO) → (H → List (Pa × SO) → Res) → Res := (List.rec (motive := fun _ => Nat → H → List (Pa × SO) → (H → List (Pa × SO) → Res) → Res) (fun _ h u K => K h u) (fun p _ ih => fun m h u K => dimB (Nat.testBit m p.1) p.2.1 p.2.2 h (fun h u => ih m h u K) u)) fl
noncomputable def undimK (u : List (Pa × SO)) : H → (H → Res) → Res := (List.rec (motive := fun _ => H → (H → Res) → Res) (fun h K => K h) (fun p _ ih => fun h K => putR h p.1 p.2 fun h => ih h K)) u
noncomputable def deB (b : Bd) : List SDef := (Bd.rec (motive := fun _ => List SDef) (fun _ de _ _ => de)) b
noncomputable def csB (b : Bd) : List SF := (Bd.rec (motive := fun _ => List SF) (fun _ _ cs _ => cs)) b
noncomputable def runB (b : Bd) : RunF := (Bd.rec (motive := fun _ => RunF) (fun _ _ _ R => R)) b
noncomputable def panB (b : Bool) : Bd → List (SV × Bool) → H → Res := (Bool.rec (motive := fun _ => Bd → List (SV × Bool) → H → Res) (fun _ _ _ => .bad) (fun b chain h => unwindP (csB b) chain h)) b
noncomputable def subR (r : Res) : Bd → List (Pa × SO) → (SV → H → Res) → Res := (Res.rec (motive := fun _ => Bd → List (Pa × SO) → (SV → H → Res) → Res) (fun _ _ _ => fun _ _ _ => .bad) (fun v h => fun _ u K => undimK u h fun h => K v h) (fun chain h => fun b u _ => undimK u h fun h => panB (isNil (deB b)) b chain h) (fun _ _ _ => .bad)) r
noncomputable def heavyE (e : Eff) : Program → Bd → H → List (Pa × SO) → (SV → H → Res) → Res := (Eff.rec (motive := fun _ => Program → Bd → H → List (Pa × SO) → (SV → H → Res) → Res) (fun v h' => fun _ _ _ u K => undimK u h' fun h => K v h) (fun f args => fun P b h u K => enterK P f args .normal fun f => subR (runB b f [] h) b u K) (fun _ _ => fun _ _ _ _ _ => .bad) (fun _ _ _ _ _ => .bad) (fun _ => fun _ _ _ _ _ => .bad) (fun v => fun _ b h u _ => undimK u h fun h => panB (isNil (deB b)) b [(v, false)] h) (fun _ _ _ _ _ => .bad)) e
abbrev DrawK := T SV → H → Fl → Res
noncomputable def drawH (heavy : Bool) : Nat → Nat → Op → TypeId → Program → Glob → Bd → T SV → H → Fl → LightK → Res := (Bool.rec (motive := fun _ => Nat → Nat → Op → TypeId → Program → Glob → Bd → T SV → H → Fl → LightK → Res) (fun i _ op ty P G _ tm h fl K => lightE (sop op ty P G tm (smallH (readsO op tm) h)) h i (flR (readsO op tm) i fl) K) (fun _ mask op ty P G b tm h fl K => dimK fl mask h [] fun h u => heavyE (sop op ty P G tm h) P b h u fun v h => K v h fl)) heavy
noncomputable def drawW (want : Bool) : Bool → Nat → Nat → Op → TypeId → Program → Glob → Bd → T SV → H → Fl → LightK → Res := (Bool.rec (motive := fun _ => Bool → Nat → Nat → Op → TypeId → Program → Glob → Bd → T SV → H → Fl → LightK → Res) (fun _ _ _ _ _ _ _ _ _ h fl K => K undefS h fl) (drawH)) want
noncomputable def wantG (g : Option (Nat × Bool)) : Array Oper → T SV → Bool := (Option.rec (motive := fun _ => Array Oper → T SV → Bool) (fun _ _ => true) (fun g => fun ops tm => guardB (syielded ops tm g.1) g.2)) g
noncomputable def drawO (o : Oper) : Nat → Bool → Nat → Array Oper → Program → Glob → Bd → T SV → H → Fl → DrawK → Res := (Oper.rec (motive := fun _ => Nat → Bool → Nat → Array Oper → Program → Glob → Bd → T SV → H → Fl → DrawK → Res) (fun d op ty _ _ g => fun i heavy mask ops P G b tm h fl K => drawW (wantG g ops tm) heavy i mask op ty P G b tm h fl fun v h fl => setO d v tm fun tm => K tm h fl)) o
noncomputable def drawI (p : PI) : Array Oper → Program → Glob → Bd → T SV → H → Fl → DrawK → Res := PI.rec (motive := fun _ => Array Oper → Program → Glob → Bd → T SV → H → Fl → DrawK → Res) (fun i o heavy mask ops P G b tm h fl K => drawO o i heavy mask ops P G b tm h fl K) p
noncomputable def drawL (l : List PI) : Array Oper → Program → Glob → Bd → T SV → List SI → H → Fl → Res :=
  (List.rec (motive := fun _ => Array Oper → Program → Glob → Bd → T SV → List SI → H → Fl → Res) (fun _ _ _ b tm k h _ => nextB b tm k h) (fun p _ ih => fun ops P G b tm k h fl => drawI p ops P G b tm h fl fun tm h fl => ih ops P G b tm k h fl)) l
noncomputable def drawR (l : Option (List PI)) : Array Oper → Program → Glob → Bd → T SV → List SI → H → Res := (Option.rec (motive := fun _ => Array Oper → Program → Glob → Bd → T SV → List SI → H → Res) (fun _ _ _ _ _ _ _ => .bad) (fun l => fun ops P G b tm k h => drawL l ops P G b tm k h [])) l

noncomputable def exitR (o : Option (List SI)) : Program → Glob → Bd → T SV → List SI → H → Code → Res := (Option.rec (motive := fun _ => Program → Glob → Bd → T SV → List SI → H → Code → Res) (fun P G b tm todo h c => leaveB b P G tm todo h (some c)) (fun k => fun _ _ b tm _ h _ => nextB b tm k h)) o
noncomputable def condW (v : Value) : (Bool → Res) → Res := (Value.rec (motive_1 := fun _ => (Bool → Res) → Res) (motive_2 := fun _ => Unit) (motive_3 := fun _ => Unit) (fun b => fun K => K b) (fun _ _ => fun _ => .bad) (fun _ _ => fun _ => .bad) (fun _ _ _ => fun _ => .bad) (fun _ => fun _ => .bad) (fun _ => fun _ => .bad) (fun _ _ _ => fun _ => .bad) (fun _ => fun _ => .bad) (fun _ => fun _ => .bad) (fun _ _ _ _ _ => fun _ => .bad) (fun _ => .bad) (fun _ _ _ => fun _ => .bad) (fun _ => .bad) (fun _ _ => fun _ => .bad) (fun _ _ => fun _ => .bad) (fun _ _ => ()) () (fun _ _ _ _ => ())) v
noncomputable def condV (v : SV) : (Bool → Res) → Res := (SV.rec (motive_1 := fun _ => (Bool → Res) → Res) (motive_2 := fun _ => Unit) (fun v => condW v) (fun _ _ => fun _ => .bad) (fun _ _ _ _ _ => fun _ => .bad) (fun _ => .bad) (fun _ => fun _ => .bad) (fun _ _ _ _ _ => fun _ => .bad) (fun _ => fun _ => .bad) (fun _ _ _ => fun _ => .bad) (fun _ _ => fun _ => .bad) (fun _ _ => fun _ => .bad) (fun _ => .bad) () (fun _ _ _ _ => ())) v
abbrev CodeF := Program → Glob → Bd → T SV → List SI → H → Res
noncomputable def condB (b : Bool) : CodeF → CodeF → CodeF := (Bool.rec (motive := fun _ => CodeF → CodeF → CodeF) (fun _ y => y) (fun x _ => x)) b
noncomputable def region (draw : Bool) : Array Oper → CodeF := (Bool.rec (motive := fun _ => Array Oper → CodeF) (fun ops P G b tm k h => runOps ops.toList P G (.mk ops b k) tm h) (fun ops P G b tm k h => drawR (plan ops) ops P G b tm k h)) draw
noncomputable def stepCode (c : Code) : CodeF :=
  Code.rec (motive := fun _ => CodeF)
    (fun _ _ b tm k h => nextB b tm k h)
    (fun _ ops draw => region draw ops)
    (fun _ y iha _ P G b tm k h => iha P G b tm (.code y :: k) h)
    (fun c _ _ iha ihb P G b tm k h => condV (ev c tm) fun t => condB t iha ihb P G b tm k h)
    (fun id _ ih P G b tm k h => ih P G b tm (.inBlock id :: k) h)
    (fun y ih P G b tm k h => ih P G b tm (.inLoop y :: k) h)
    (fun g params assign body _ _ P G b tm k h => enterRF1 (fiB b) P b tm k h g params assign body)
    (fun id P G b tm k h => exitR (exitS k id) P G b tm (.code (.exit id) :: k) h (.exit id))
    (fun y ih P G b tm k h => ih P G b tm (.inScope y :: k) h)
    (fun _ _ _ b tm k h => nextB b tm k h)
    (fun l P G b tm k h => exitR (gotoS l k) P G b tm (.code (.goto l) :: k) h (.goto l))
    (fun P G b tm k h => leaveB b P G tm (.code .ret :: k) h (some .ret))
    (fun _ _ _ _ _ _ _ => .bad) c
def pendK (p : Option Code) (k : List SI) : List SI := match p with | some c => .code c :: k | none => k
noncomputable def endRF (ob : SO) : Pa → Bd → T SV → List SI → H → Res := (SO.rec (motive := fun _ => Pa → Bd → T SV → List SI → H → Res) (fun _ _ _ _ _ => .bad) (fun _ _ _ => fun _ _ _ _ _ => .bad) (fun _ _ _ => fun _ _ _ _ _ => .bad) (fun _ _ => fun _ _ _ _ _ => .bad) (fun _ _ _ _ => fun _ _ _ _ _ => .bad) (fun st pend fn tmps params assign body d => fun l b tm k h => (match st with | .busy => .bad | _ => putR h l (.loop .exhausted pend fn tmps params assign body d) fun h => nextB b tm (pendK pend k) h)) (fun _ => fun _ _ _ _ _ => .bad)) ob
noncomputable def beginR2 (ob : SO) : Pa → Bd → T SV → List SI → H → Res := (SO.rec (motive := fun _ => Pa → Bd → T SV → List SI → H → Res) (fun _ _ _ _ _ => .bad) (fun _ _ _ => fun _ _ _ _ _ => .bad) (fun _ _ _ => fun _ _ _ _ _ => .bad) (fun _ _ => fun _ _ _ _ _ => .bad) (fun _ _ _ _ => fun _ _ _ _ _ => .bad) (fun st pend fn tmps params assign body d => fun l b tm k h => (match st with | .ready => putR h l (.loop .busy pend fn tmps params assign body d) fun h => nextB b tm k h | _ => .bad)) (fun _ => fun _ _ _ _ _ => .bad)) ob
noncomputable def beginR (ro : Option Pa) : Bd → T SV → List SI → H → Res := (Option.rec (motive := fun _ => Bd → T SV → List SI → H → Res) (fun _ _ _ _ => .bad) (fun l => fun b tm k h => beginR2 (hget h l) l b tm k h)) ro
noncomputable def stepItem (i : SI) : CodeF := (SI.rec (motive := fun _ => CodeF) (fun c => stepCode c) (fun _ => fun _ _ b tm k h => nextB b tm k h) (fun c => fun P G b tm k h => stepCode c P G b tm (.inLoop c :: k) h) (fun _ => fun _ _ b tm k h => nextB b tm k h) (fun ops l => fun P G b tm k h => runOps l P G (.mk ops b k) tm h) (fun _ => fun _ _ _ _ _ _ => .bad) (fun l => fun _ _ b tm k h => endRF (hget h l) l b tm k h) (fun _ _ b tm k h => beginR (roOf (fiB b)) b tm k h)) i
noncomputable def stepRun (todo : List SI) : Program → Glob → Bd → T SV → H → Res := (List.rec (motive := fun _ => Program → Glob → Bd → T SV → H → Res) (fun P G b tm h => leaveB b P G tm [] h none) (fun i k _ => fun P G b tm h => stepItem i P G b tm k h)) todo
noncomputable def collectE (ob : SO) (d : Pa) (fi : FI) (tm : T SV) (todo : List SI) (ds : List SDef) (mode : SMode) (cs : List SF) (h : H) : Res := match ob with
  | .deferred (some cl) => putR h d (.deferred none) fun h => .next (.mk fi tm todo (appD cl ds) mode) cs h
  | _ => .bad
noncomputable def unwind2 (fi : FI) : Program → Glob → T SV → List SF → H → Res := (FI.rec (motive := fun _ => Program → Glob → T SV → List SF → H → Res) (fun fn kind ro => fun P G tm cs h => (match ro with | none => retO (results1 (funcO P fn) P G h tm) cs kind h | some _ => .bad))) fi
noncomputable def unwind1 (mode : SMode) : Program → Glob → FI → T SV → List SF → H → Res := (SMode.rec (motive := fun _ => Program → Glob → FI → T SV → List SF → H → Res) (fun _ _ _ _ _ _ => .bad) (fun P G fi tm cs h => unwind2 fi P G tm cs h) (fun chain => fun _ _ _ _ cs h => unwindP cs chain h)) mode
noncomputable def plainF (fn : Option Func) : Bool := (Option.rec (motive := fun _ => Bool) (false) (fun fn => notB (fn.name == "runtime.NumGoroutine"))) fn
noncomputable def ifR (b : Bool) : Res → Res := (Bool.rec (motive := fun _ => Res → Res) (fun _ => .bad) (fun r => r)) b
noncomputable def unwindD (d : SDef) : Program → FI → T SV → List SI → List SDef → SMode → List SF → H → Res := (SDef.rec (motive := fun _ => Program → FI → T SV → List SI → List SDef → SMode → List SF → H → Res) (fun f args => fun P fi tm todo ds mode cs h => ifR (plainF (funcO P f)) (enterK P f args .deferred fun f => .next f (.mk fi tm todo ds mode :: cs) h)) (fun d => fun _ fi tm todo ds mode cs h => collectE (hget h d) d fi tm todo ds mode cs h)) d
noncomputable def unwindS (de : List SDef) : Program → Glob → FI → T SV → List SI → SMode → List SF → H → Res := (List.rec (motive := fun _ => Program → Glob → FI → T SV → List SI → SMode → List SF → H → Res) (fun P G fi tm _ mode cs h => unwind1 mode P G fi tm cs h) (fun d ds _ => fun P _ fi tm todo mode cs h => unwindD d P fi tm todo ds mode cs h)) de
noncomputable def stepM (mode : SMode) : SMode → RunF → Program → Glob → FI → T SV → List SI → List SDef → List SF → H → Res := (SMode.rec (motive := fun _ => SMode → RunF → Program → Glob → FI → T SV → List SI → List SDef → List SF → H → Res) (fun _ R P G fi tm todo de cs h => stepRun todo P G (.mk fi de cs R) tm h) (fun m _ P G fi tm todo de cs h => unwindS de P G fi tm todo m cs h) (fun _ => fun m _ P G fi tm todo de cs h => unwindS de P G fi tm todo m cs h)) mode
noncomputable def step (f : SF) : RunF → Program → Glob → List SF → H → Res := (SF.rec (motive := fun _ => RunF → Program → Glob → List SF → H → Res) (fun fi tm todo de mode => fun R P G cs h => stepM mode mode R P G fi tm todo de cs h)) f
noncomputable def runR (r : Res) : RunF → Res := (Res.rec (motive := fun _ => RunF → Res) (fun f cs h => fun ih => ih f cs h) (fun v h => fun _ => .done v h) (fun c h => fun _ => .pan c h) (fun _ => .bad)) r
noncomputable def runF (P : Program) (G : Glob) (n : Nat) : RunF :=
  Nat.rec (motive := fun _ => RunF) (fun f cs h => .next f cs h) (fun _ ih f cs h => runR (step f ih P G cs h) ih) n
noncomputable def start (P : Program) (G : Glob) (n : Nat) (f : FuncId) (args : List SV) (h : H) : Res :=
  enterK P f args .normal fun f => runF P G n f [] h
/-- A run step by step, the operations that draw with a fuel of their own. -/
noncomputable def runM (P : Program) (G : Glob) (big : RunF) (n : Nat) : RunF :=
  Nat.rec (motive := fun _ => RunF) (fun f cs h => .next f cs h) (fun _ ih f cs h => runR (step f big P G cs h) ih) n
noncomputable def startM (P : Program) (G : Glob) (big n : Nat) (f : FuncId) (args : List SV) (h : H) : Res :=
  enterK P f args .normal fun f => runM P G (runF P G big) n f [] h
-- what is forgotten between two runs
/-- May a value be forgotten? -/
def anyOk : Value → Bool
  | .bool _ | .agg _ | .tuple _ => false
  | _ => true
def fgLit (b : Bool) (v : Value) : SV := match b with
  | true => .any
  | false => .lit v
mutual
def fgV : SV → SV
  | .lit v => fgLit (anyOk v) v
  | .agg l => .agg (fgL l)
  | .tup l => .tup (fgL l)
  | _ => .any
def fgL : List SV → List SV
  | [] => []
  | v :: l => fgV v :: fgL l
end
def mapT (t : T SV) : T SV := match t with
  | .nil => .nil
  | .node v l r => .node (fgV v) (mapT l) (mapT r)
def putT1 : Pa → SV → T SV → T SV
  | .e, x, .nil => .node x .nil .nil
  | .e, x, .node _ l r => .node x l r
  | .l p, x, .nil => .node undefS (putT1 p x .nil) .nil
  | .l p, x, .node v l r => .node v (putT1 p x l) r
  | .r p, x, .nil => .node undefS .nil (putT1 p x .nil)
  | .r p, x, .node v l r => .node v l (putT1 p x r)
def putO1 : Pa → SO → T SO → T SO
  | .e, x, .nil => .node x .nil .nil
  | .e, x, .node _ l r => .node x l r
  | .l p, x, .nil => .node .none (putO1 p x .nil) .nil
  | .l p, x, .node v l r => .node v (putO1 p x l) r
  | .r p, x, .nil => .node .none .nil (putO1 p x .nil)
  | .r p, x, .node v l r => .node v l (putO1 p x r)
def ovrT (t : T SV) : List (Pa × SV) → T SV
  | [] => t
  | p :: l => putT1 p.1 p.2 (ovrT t l)
def mkHeap (n : Pa) (l : List (Pa × SO)) : H := .mk n (l.foldr (fun p t => putO1 p.1 p.2 t) .nil)
noncomputable def pickT (t : T SV) : List Pa → List (Pa × SV)
  | [] => []
  | p :: l => (p, sget p t) :: pickT t l
noncomputable def pickH (h : H) : List Pa → List (Pa × SO)
  | [] => []
  | p :: l => (p, hget h p) :: pickH h l
noncomputable def cutF (keep : List Pa) : SF → SF
  | .mk fi tm todo de mode => .mk fi (ovrT (mapT tm) (pickT tm keep)) todo de mode
noncomputable def cutFs : List (List Pa) → List SF → List SF
  | k :: ks, f :: fs => cutF k f :: cutFs ks fs
  | _, fs => fs
noncomputable def cutR (keep : List Pa) (keeps : List (List Pa)) (objs : List Pa) (r : Res) : Res := match r with
  | .next f cs h => .next (cutF keep f) (cutFs keeps cs) (mkHeap (nOf h) (pickH h objs))
  | _ => .bad
/-- A part of a function's code. -/
def codeAt : Code → List Nat → Code
  | c, [] => c
  | .seq a _, 0 :: p => codeAt a p
  | .seq _ b, _ :: p => codeAt b p
  | .cond _ a _, 0 :: p => codeAt a p
  | .cond _ _ b, _ :: p => codeAt b p
  | .block _ a, _ :: p => codeAt a p
  | .loop a, _ :: p => codeAt a p
  | .scope a, _ :: p => codeAt a p
  | .rangeFunc _ _ a _, 0 :: p => codeAt a p
  | .rangeFunc _ _ _ b, _ :: p => codeAt b p
  | c, _ => c
def bodyCode (f : Func) : Code := match f.body with | some c => c | none => .skip
def opsAt : Code → Array Oper
  | .region _ ops _ => ops
  | _ => #[]
def isTrue (r : Res) : Bool := match r with
  | .done (.lit (.bool true)) _ => true
  | _ => false
def isNext (r : Res) : Bool := match r with
  | .next _ _ _ => true
  | _ => false
end Go.Play
