/-
  Sequences: what lives and the walks of the statements ask of them. Not a statement of the seat.
-/
import Derived.Test.YtbgepeokadmemaaPsMov
import Derived.Test.YtbgepeokadmemaaHead5
import Derived.Test.YtbgepeokadmemaaLstSame
import Derived.Test.YtbgepeokadmemaaHead4
namespace Go.Proofs.Ytbgepeokadmemaa.Q
open Go.ChangeShapes Go.WideShapes Go.ChangeAt Go.RowKit Base F
theorem join3 {α β γ : Type} {P : Prop} (J : α → β → γ → Prop) (G : α → β → γ → Prop) (h1 : (∀ x y u, J x y u → G x y u) → P) (h2 : ∀ x y u, J x y u → G x y u) : P := h1 h2
theorem join4 {α β γ δ : Type} {P : Prop} (J : α → β → γ → δ → Prop) (G : α → β → γ → δ → Prop) (h1 : (∀ x y z u, J x y z u → G x y z u) → P) (h2 : ∀ x y z u, J x y z u → G x y z u) : P := h1 h2
theorem wp_alloc_seq {o : Oper} {a : Act} {w : World} {K : Act → World → Prop} {Q : Exit → Act → World → Prop} (ho : o.op = .alloc 27)
    (h : ∀ g w', g = w.heap.size → w' = w.alloc (boxS (.pointer none) 0) → K (a.put o.dst (.pointer (some ⟨g, 0, none⟩))) w') : o.wp Try.prog a w K Q := by
  obtain ⟨dst, op, type, pos, after, guard⟩ := o
  simp only at ho
  subst ho
  go_simp
  exact h _ _ rfl rfl
theorem arnew_b (n : Int) (w : World) : Calls Try.prog 5 #[.int .i64 n] w fun e w' => ∃ b, e = .returned (.pointer (some ⟨b, 0, none⟩)) ∧ b = w.heap.size ∧ ArAt w' b none (roomOf n) [] ∧ Below w.heap.size w w' :=
  (arnew_any n w).mono fun _ _ ⟨h1, h2, h3⟩ => ⟨_, h1, rfl, h2, h3⟩
theorem sameI_yes {b1 b2 : Nat} {v u : Value} {xs : List Int} {w : World} (hx : Lst.Ints b1 w v xs) (hy : Lst.Ints b2 w u xs) : Calls Try.prog 15 #[v, u] w fun e w' => e = .returned (.bool true) ∧ Below w.heap.size w w' :=
  (Lst.sameInts_yes hx hy).mono fun _ _ ⟨h, n, h2⟩ => ⟨h, by rw [h2]; exact below_drewN (Below.refl _ _) n⟩
def T1 : Tre := Tre.insAt 0 7 .nil
def T2 : Tre := Tre.insAt 0 8 T1
def T3 : Tre := Tre.setAt 1 6 T2
theorem T1_k0 : K0 T1 := chg_k0 (f := fun _ => Tre.node .nil 0 7 .nil) (fun _ _ => ⟨rfl, trivial, trivial⟩) _ _ trivial
theorem T2_k0 : K0 T2 := chg_k0 (f := fun _ => Tre.node .nil 0 8 .nil) (fun _ _ => ⟨rfl, trivial, trivial⟩) _ _ T1_k0
theorem T1_f : T1.size = 1 ∧ T1.high = 1 := by decide
theorem T2_f : T2.size = 2 ∧ T2.high = 2 ∧ T2.vals = [8, 7] := by decide
theorem T3_f : T3.size = 2 ∧ T3.vals = [8, 6] := by decide
theorem mk2_f : (mkN T2.vals).vals = [8, 7] ∧ (mkN T2.vals).size = 2 := by rw [mkN_vals _ _ rfl, mkN_size, T2_f.2.2]; exact ⟨rfl, rfl⟩
theorem LS2 : ((T2.size : Nat) : Int) = 2 := by decide
theorem LS0 : ((Tre.nil.size : Nat) : Int) = 0 := by decide
theorem LH0 : ((Tre.nil.high : Nat) : Int) = 0 := by decide
theorem LI7 : idxS 7 T2.vals 0 = 1 := by rw [T2_f.2.2]; decide
theorem LI5 : idxS 5 T2.vals 0 = -1 := by rw [T2_f.2.2]; decide
theorem ints_two {w : World} {g : Nat} {x y : Int} (h : w.heap[g]? = some (.cells #[.int .i64 x, .int .i64 y] 3)) : Lst.Ints 0 w (.slice (some ⟨g, 0, none⟩) 2 2) [x, y] := by
  refine .inr ⟨g, 0, 2, rfl, Nat.zero_le _, heap_lt h, by simp, fun k hk => ?_⟩
  match k, hk with
  | 0, _ => simp [World.cell?, h]
  | 1, _ => simp [World.cell?, h]
theorem res_ok {room n : Nat} {zs : List Cel} {T : Tre} {zs' : List Cel} {root' why : Int} (hM : MRes (PutP zs n T) (room < zs.length + n) zs zs' root' why) (hz : zs.length + n ≤ room) : why = 0 ∧ (∃ new, zs' = zs ++ new) ∧ zs'.length ≤ zs.length + n ∧ Tr zs' T root' := by
  rcases hM with ⟨h0, ⟨new, he, hn⟩, ht⟩ | ⟨_, _, _, h⟩
  · exact ⟨h0, ⟨new, he⟩, by rw [he, List.length_append]; omega, ht⟩
  · omega
theorem ps_new0 {w0 w w' : World} {b room : Nat} (h : Below w0.heap.size w0 w) (hbe : b = w.heap.size) (hA : ArAt w' b none room []) (hb : Below w.heap.size w w') : PS w0 w' (.pointer (some ⟨b, 0, none⟩)) none room [] (.slice none 0 0) [] [] :=
  ⟨AI.new hA (h.trans (hb.mono h.size)) (by rw [hbe]; exact h.size), QS.nil _ _ _, fun p hp => by cases hp⟩
theorem ps_new {w0 w w' : World} {b room g : Nat} {ob : Obj} (h : Below w0.heap.size w0 w) (hg : w.heap[g]? = some ob) (hbe : b = w.heap.size) (hA : ArAt w' b none room []) (hb : Below w.heap.size w w') : PS w0 w' (.pointer (some ⟨b, 0, none⟩)) none room [] (.slice none 0 0) [] [(g, ob)] :=
  ⟨AI.new hA (h.trans (hb.mono h.size)) (by rw [hbe]; exact h.size), QS.nil _ _ _, fun p hp => by
    rw [List.mem_singleton.1 hp]
    refine ⟨(hb.block _ (heap_lt hg)).trans hg, fun k => ?_⟩
    have := heap_lt hg
    rcases k with k | k
    · injection k with k; injection k with k; injection k with k; omega
    · cases k⟩
end Go.Proofs.Ytbgepeokadmemaa.Q
