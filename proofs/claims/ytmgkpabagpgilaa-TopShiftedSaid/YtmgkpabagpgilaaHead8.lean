/-
  Contracts of small functions, several texts laid into one. Not a statement of the seat.
-/
import Derived.Test.YtmgkpabagpgilaaHiR3
import Derived.BigQuiet
import Derived.Deep.Cut
import Derived.Deep.CutRange
import Derived.Deep.DeepCutAuto
import Derived.Deep.RegionHeld3
import Derived.Lib.QuietBelow
import Derived.Test.YtmgkpabagpgilaaOrMath
namespace Go.Proofs.Ytmgkpabagpgilaa.Hi
open Go.ChangeShapes Go.WideShapes Go.ChangeAt Go.RowKit Base F Tx BigFrame Go.Sort
def boxV (t k n : Int) : Obj := .cells #[.int .i64 t, .int .i64 k, .int .i64 n] 80
theorem cellsV {w : World} {g : Nat} {t k n : Int} (h : w.heap[g]? = some (boxV t k n)) : g < w.heap.size ∧ w.cell? ⟨g, 0, none⟩ = some (.int .i64 t) ∧ w.cell? ⟨g, 1, none⟩ = some (.int .i64 k) ∧ w.cell? ⟨g, 2, none⟩ = some (.int .i64 n) := by
  refine ⟨heap_lt h, ?_⟩
  unfold boxV at h
  simp [World.cell?, h]
/-- Whether a version is there. -/
def hasB (h : Hist) (t k n : Int) : Bool := if t = 0 ∧ n = 0 then idB k else match findT h.txs t with
  | some x => decide (1 ≤ n ∧ n ≤ ((wrN x.ops k : Nat) : Int))
  | none => false
theorem hasB_init {h : Hist} {k : Int} : hasB h 0 k 0 = idB k := by rw [hasB, if_pos ⟨rfl, rfl⟩]
theorem hasB_none {h : Hist} {t k n : Int} (h0 : ¬ (t = 0 ∧ n = 0)) (hf : findT h.txs t = none) : hasB h t k n = false := by rw [hasB, if_neg h0, hf]
theorem hasB_some {h : Hist} {t k n : Int} {x : Txn} (h0 : ¬ (t = 0 ∧ n = 0)) (hf : findT h.txs t = some x) : hasB h t k n = decide (1 ≤ n ∧ n ≤ ((wrN x.ops k : Nat) : Int)) := by rw [hasB, if_neg h0, hf]
theorem findT_mem : ∀ {l : List Txn} {id : Int} {x : Txn}, findT l id = some x → x ∈ l
  | t :: l, id, x, h => by
    unfold findT at h
    split at h
    · injection h with h; rw [← h]; exact List.mem_cons_self ..
    · exact List.mem_cons_of_mem _ (findT_mem h)
end Go.Proofs.Ytmgkpabagpgilaa.Hi
namespace Go.Proofs.Ytmgkpabagpgilaa.Hi
open F Tx
/-- The ids rise, and each transaction is right. -/
def risesT : Int → List Txn → Bool
  | _, [] => true
  | la, t :: l => if t.id ≤ la then false else if rightT t.id t.ops = 0 then risesT t.id l else false
/-- How often an id writes a key. -/
def cntW : List Txn → Int → Int → Nat
  | [], _, _ => 0
  | x :: l, t, k => (if x.id = t then wrN x.ops k else 0) + cntW l t k
/-- The writers of a key that are done. -/
def wrsL (l : List Txn) (key : Int) : List Int := (l.filter (fun t => t.dn && decide (0 < wrN t.ops key))).map Txn.id
/-- All keys that those write who are done. -/
def allK (l : List Txn) : List Int := l.flatMap (fun t => if t.dn then (bareL t.ops).map Opr.k else [])
def KW (l : List Txn) : List Int := keysL (allK l)
def lackB (xs : List Txn) (t : Txn) : Bool := (needsL t.id t.ops).any fun v => decide ((cntW xs v.t v.k : Int) < v.n)
def ordsB (f : Int → List Int) : Int → List Ordr → Bool
  | _, [] => true
  | la, o :: l => if o.key ≤ la then false else if f o.key = [] then false else if Om.permB o.txs (f o.key) then ordsB f o.key l else false
/-- Whether a history is right. -/
def rightH (h : Hist) : Bool := if 4096 < h.txs.length then false else if risesT 0 h.txs then (if h.txs.any (lackB h.txs) then false else if h.ords.length = (KW h.txs).length then ordsB (wrsL h.txs) 0 h.ords else false) else false
theorem cnt_take (xs : List Txn) (k : Nat) (hk : k < xs.length) (t key : Int) : cntW (xs.take (k + 1)) t key = cntW (xs.take k) t key + (if (xs.getD k Txn.zero).id = t then wrN (xs.getD k Txn.zero).ops key else 0) := by
  induction xs generalizing k with
  | nil => simp at hk
  | cons x l ih =>
    cases k with
    | zero => simp [cntW]
    | succ k =>
      have := ih k (by simpa using hk)
      simp only [List.take_succ_cons, cntW, List.getD_cons_succ] at this ⊢
      omega
theorem cnt_bd : ∀ (xs : List Txn) (t key : Int), (∀ x ∈ xs, x.ops.length ≤ 100000) → cntW xs t key ≤ 100000 * xs.length
  | [], _, _, _ => by simp [cntW]
  | x :: l, t, key, h => by
    have h1 := cnt_bd l t key fun y hy => h y (List.mem_cons_of_mem _ hy)
    have h2 := h x List.mem_cons_self
    have h3 := wrN_le x.ops key
    rw [cntW]
    simp only [List.length_cons]
    split <;> omega
theorem wrN_take (l : List Opr) (j : Nat) (hj : j < l.length) (key : Int) : wrN (l.take (j + 1)) key = wrN (l.take j) key + (if (l.getD j Opr.zero).rd = false ∧ (l.getD j Opr.zero).k = key then 1 else 0) := by
  rw [take_snoc l Opr.zero j hj, wrN_snoc]
theorem getD_memO {l : List Opr} {k : Nat} (h : k < l.length) : l.getD k Opr.zero ∈ l := by
  rw [List.getD_eq_getElem?_getD, List.getElem?_eq_getElem h]
  exact List.getElem_mem h
end Go.Proofs.Ytmgkpabagpgilaa.Hi
