/-
  'm[k]++' as the machine does it: the entry is found, or made, and then stored into. Not a statement of the seat.
-/
import Derived.Test.YtmgkpabagpgilaaMp
import Derived.WideKeyEntry
namespace Go.Proofs.Ytmgkpabagpgilaa.Mp
open Go.ChangeShapes Go.WideShapes Go.ChangeAt Go.RowKit Go.Maps Base Go.MapKept Go.ChangeMaps Go.WideElems
section
variable {P : Program} {w : World} {t k e : TypeId} {R : Value → Option (DataW Unit × List MemPlace)} {b : Nat} {es : Array MapEntry} {clock : Nat}
/-- The entry's finding leaves what a store of the value that is there would leave; a store into it, what a store at the key would. -/
theorem entry_upd (K : Keyed P k) (ht : P.underlying t = some (.map k e)) {z : Value} (hz : ∀ u : World, (zeroValue e).run P u = .ok z u) (hb : w.heap[b]? = some (.map es clock)) (F : Fit P k R es clock) {key : Value} {kl : Lit} (hkey : keyOf P k key = some kl) :
    ∃ (v0 : Value) (st : Nat) (w1 : World) (es1 : Array MapEntry) (c1 : Nat), (Instr.mapEntry t (.map (some b)) key).run P w = .ok (.tuple #[v0, goInt st]) w1 ∧ w1.heap[b]? = some (.map es1 c1) ∧
      (Instr.mapUpdate t (.map (some b)) key v0).run P w = .ok () w1 ∧ (Instr.lookup t (.map (some b)) key false).run P w = .ok v0 w ∧
      ∀ (w2 : World) (val : Value), w2.heap[b]? = some (.map es1 c1) → ∃ es' c', (Instr.entryStore t (.map (some b)) (goInt st) val).run P w2 = .ok () (setBlock w2 b (.map es' c')) ∧
        (Instr.mapUpdate t (.map (some b)) key val).run P w = .ok () (setBlock w b (.map es' c')) := by
  obtain ⟨s1, s2, _⟩ := F.stamped
  have hk : ∀ x ∈ es.toList, ∃ l, keyOf P k x.key = some l := F.keys
  rcases K.find w hkey es.toList hk with ⟨h1, h2⟩ | ⟨j, e0, h1, h2, h3⟩
  · refine ⟨z, clock, setBlock w b (.map (es.push ⟨key, z, clock⟩) (clock + 1)), es.push ⟨key, z, clock⟩, clock + 1, ?_, heap_setBlock_same hb _, ?_, ?_, fun w2 val hw2 => ⟨es.push ⟨key, val, clock⟩, clock + 1, ?_, ?_⟩⟩
    · simp [Instr.mapEntry, run_underlying ht, MapKept.run_getObj_map hb, K.check w false hkey, h1, hz, MapKept.run_setObj_map _ hb, Result.andThen, setBlock]
    · simp [Instr.mapUpdate, run_underlying ht, MapKept.run_getObj_map hb, K.check w false hkey, h1, MapKept.run_setObj_map _ hb, Result.andThen, setBlock]
    · simp [Instr.lookup, run_underlying ht, MapKept.run_getObj_map hb, K.check w _ hkey, h1, hz, Result.andThen]
    · have hidx : (es.push ⟨key, z, clock⟩).findIdx? (fun e => ((e.born : Nat) : Int) == ((clock : Nat) : Int)) = some es.size := by
        rw [findIdx_arr]
        refine findIdx_born (l := (es.push ⟨key, z, clock⟩).toList) (j := es.size) (e0 := ⟨key, z, clock⟩) ?_ (by simp)
        simp only [Array.toList_push, List.map_append, List.map_cons, List.map_nil]
        refine List.nodup_append.2 ⟨s2, by simp, fun a ha c hc e1 => ?_⟩
        simp only [List.mem_singleton] at hc
        obtain ⟨x, hx, rfl⟩ := List.mem_map.1 ha
        have := s1 x hx
        omega
      have hmod : (es.push ⟨key, z, clock⟩).modify es.size (fun e => { e with val := val }) = es.push ⟨key, val, clock⟩ := by
        apply Array.ext'
        rw [Array.toList_modify, Array.toList_push, Array.toList_push, ← Array.length_toList, modify_last]
      simp [Instr.entryStore, MapKept.run_getObj_map hw2, asInt, asIntOf, goInt, hidx, hmod, MapKept.run_setObj_map _ hw2, Result.andThen, setBlock]
    · simp [Instr.mapUpdate, run_underlying ht, MapKept.run_getObj_map hb, K.check w false hkey, h1, MapKept.run_setObj_map _ hb, Result.andThen, setBlock]
  · have hj : es[j]? = some e0 := by simpa using h2
    have hsame : es.modify j (fun e => { e with key := key }) = es := by
      apply Array.ext'
      rw [Array.toList_modify, modify_eq_set _ _ _ _ h2]
      have : ({ e0 with key := key } : MapEntry) = e0 := by rw [← h3]
      rw [this]
      exact set_self _ _ _ h2
    have hsame2 : es.modify j (fun e' => { e' with key := key, val := e0.val }) = es := by
      apply Array.ext'
      rw [Array.toList_modify, modify_eq_set _ _ _ _ h2]
      have : ({ e0 with key := key, val := e0.val } : MapEntry) = e0 := by rw [← h3]
      rw [this]
      exact set_self _ _ _ h2
    refine ⟨e0.val, e0.born, setBlock w b (.map es clock), es, clock, ?_, heap_setBlock_same hb _, ?_, ?_, fun w2 val hw2 => ⟨es.modify j (fun e' => { e' with key := key, val := val }), clock, ?_, ?_⟩⟩
    · simp [Instr.mapEntry, run_underlying ht, MapKept.run_getObj_map hb, K.check w false hkey, h1, hj, h3, K.stays w hkey, hsame, MapKept.run_setObj_map _ hb, Result.andThen, setBlock]
    · simp [Instr.mapUpdate, run_underlying ht, MapKept.run_getObj_map hb, K.check w false hkey, h1, hj, h3, K.stays w hkey, hsame2, MapKept.run_setObj_map _ hb, Result.andThen, setBlock]
    · simp [Instr.lookup, run_underlying ht, MapKept.run_getObj_map hb, K.check w _ hkey, h1, Result.andThen]
    · have hidx : es.findIdx? (fun e => ((e.born : Nat) : Int) == ((e0.born : Nat) : Int)) = some j := by
        rw [findIdx_arr]
        exact findIdx_born s2 h2
      have hmod : es.modify j (fun e => { e with val := val }) = es.modify j (fun e' => { e' with key := key, val := val }) := by
        apply Array.ext'
        rw [Array.toList_modify, Array.toList_modify, modify_eq_set _ _ _ _ h2, modify_eq_set _ _ _ _ h2, ← h3]
      simp [Instr.entryStore, MapKept.run_getObj_map hw2, asInt, asIntOf, goInt, hidx, hmod, MapKept.run_setObj_map _ hw2, Result.andThen, setBlock]
    · simp [Instr.mapUpdate, run_underlying ht, MapKept.run_getObj_map hb, K.check w false hkey, h1, hj, h3, K.stays w hkey, MapKept.run_setObj_map _ hb, Result.andThen, setBlock]
end
variable {α : Type} {P : Program} {k e : TypeId} {g : α → Value}
/-- On a map of ints. -/
theorem MI.entry {w : World} {b n : Nat} {f : α → Int} (h : MI P k e g w b n f) {t : TypeId} (K : Keyed P k) (ht : P.underlying t = some (.map k e)) (he : P.underlying e = some (.int .i64)) (hz : ∀ u : World, (zeroValue e).run P u = .ok (.int .i64 0) u) (hn : n < maxLen) (x : α) {kl : Lit} (hkey : keyOf P k (g x) = some kl)
    (hinj : ∀ y, g y = g x → f y = f x) (hw : (Lit.int .i64 (f x)).wf = true) :
    ∃ st w1, (Instr.mapEntry t (.map (some b)) (g x)).run P w = .ok (.tuple #[.int .i64 (f x), goInt st]) w1 ∧ MI P k e g w1 b (n + 1) f ∧ w.grownBy w1 (some b) ∧
      ∀ (w2 : World) (c : Int) (f' : α → Int), w2.heap[b]? = w1.heap[b]? → (Lit.int .i64 c).wf = true → (∀ y, g y = g x → f' y = c) → (∀ y, g y ≠ g x → f' y = f y) →
        ∃ w3, (Instr.entryStore t (.map (some b)) (goInt st) (.int .i64 c)).run P w2 = .ok () w3 ∧ MI P k e g w3 b (n + 1) f' ∧ w2.grownBy w3 (some b) := by
  have hlk := h.look K ht he (hz w) x hkey
  have hst := fun c hc f' h1 h2 => h.store K ht he hn x hkey c hc (f' := f') h1 h2
  obtain ⟨D, ⟨es, clock, hb, F, _⟩, _⟩ := h
  obtain ⟨v0, st, w1, es1, c1, r1, r2, r3, r4, r5⟩ := entry_upd K ht hz hb F hkey
  rw [hlk] at r4
  obtain rfl : v0 = .int .i64 (f x) := by simpa using r4.symm
  obtain ⟨w', h1, h2, h3⟩ := hst (f x) hw f hinj (fun _ _ => rfl)
  rw [r3] at h1
  obtain rfl : w1 = w' := by simpa using h1
  refine ⟨st, w1, r1, h2, h3, fun w2 c f' hh hc hs ho => ?_⟩
  rw [r2] at hh
  obtain ⟨es', c', q1, q2⟩ := r5 w2 (.int .i64 c) hh
  obtain ⟨w3, q3, q4, q5⟩ := hst c hc f' hs ho
  rw [q2] at q3
  obtain rfl : setBlock w b (.map es' c') = w3 := by simpa using q3
  exact ⟨_, q1, q4.heap (by rw [heap_setBlock_same hh, heap_setBlock_same hb]), ⟨rfl, rfl, rfl, by simp [setBlock], fun i _ hi => heap_setBlock_other hh _ (fun e1 => hi (by rw [e1]))⟩⟩
section
variable {w : World} {ops : Array Oper} {o : Oper} {a : Act} {K : Act → World → Prop} {Q : Exit → Act → World → Prop} {E : Prop} {t : TypeId} {b : Nat}
/-- The entry's finding as a step of a region that draws. -/
theorem step_entry (hgd : o.guard = none) (m x : Operand) (hop : o.op = Op.mapEntry t m x) {key v : Value} {w1 : World} (hm : a.eval m = .map (some b)) (hx : a.eval x = key) (hr : (Instr.mapEntry t (.map (some b)) key).run P w = .ok v w1) (hK : K (a.put o.dst v) w1) :
    if Region.wanted o (yielded ops a.tmps) = true then Oper.wp P o a w K Q else E := by
  rw [if_pos (by simp [Region.wanted, hgd])]
  unfold Oper.wp
  simp [execOp, hop, hm, hx, hr, Result.andThen]
  exact hK
theorem step_entryStore (hgd : o.guard = none) (m s x : Operand) (hop : o.op = Op.entryStore t m s x) {st val : Value} {w1 : World} (hm : a.eval m = .map (some b)) (hs : a.eval s = st) (hx : a.eval x = val) (hr : (Instr.entryStore t (.map (some b)) st val).run P w = .ok () w1) (hK : K (a.put o.dst undef) w1) :
    if Region.wanted o (yielded ops a.tmps) = true then Oper.wp P o a w K Q else E := by
  rw [if_pos (by simp [Region.wanted, hgd])]
  unfold Oper.wp
  simp [execOp, hop, hm, hs, hx, hr, Result.andThen]
  exact hK
end
end Go.Proofs.Ytmgkpabagpgilaa.Mp
