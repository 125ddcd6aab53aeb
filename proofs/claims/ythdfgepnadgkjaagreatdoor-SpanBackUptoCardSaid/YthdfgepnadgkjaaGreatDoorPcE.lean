/-
  span: rows of pieces; the pieces of a text, read one behind another.
-/
import Derived.Test.YthdfgepnadgkjaaGreatDoorPcD
import Derived.Laws.AppendOwnNone
set_option linter.unusedVariables false
set_option linter.unusedSimpArgs false
namespace Go.Proofs.YthdfgepnadgkjaaGreatDoor
open Go.RowKit Go.Shelf
namespace Sn
open Oc Tg Ac

def encC1 (p : Pc) : List Value := [.string (str p.media), .int .i64 p.sp.1, .int .i64 p.sp.2, .int .i64 p.size, .string (str p.body)]
def encC (ps : List Pc) : List Value := ps.flatMap encC1
theorem encC_snoc (ps : List Pc) (p : Pc) : encC (ps ++ [p]) = encC ps ++ encC1 p := by unfold encC; rw [List.flatMap_append]; simp
theorem encC_len : ∀ ps : List Pc, (encC ps).length = ps.length * 5
  | [] => rfl
  | p :: ps => by
    have := encC_len ps
    unfold encC at *
    rw [List.flatMap_cons, List.length_append, this, List.length_cons]
    show 5 + _ = _
    omega
def OwnC (T B : Nat) (v : Value) (ps : List Pc) (w : World) : Prop := w.ownsRow B T 5 v ps.length (encC ps)
theorem ownC_nil (T B : Nat) (w : World) : OwnC T B (.slice none 0 0) [] w := World.ownsRow_nil w B T 5
theorem ownC_empty {B : Nat} (T : Nat) (w : World) (hB : B ≤ w.heap.size) : OwnC T B (.slice (some ⟨w.heap.size, 0, none⟩) 0 0) [] (w.alloc (.cells #[] T)) :=
  ⟨by simp [encC], .inr ⟨w.heap.size, 0, #[], rfl, hB, heap_alloc_new w _, by simp, by decide, by simp, by simp [encC]⟩⟩
theorem OwnC.form {T B : Nat} {v : Value} {t : List Pc} {w : World} (h : OwnC T B v t w) : ∃ a c, v = .slice a t.length c := by
  rcases h.2 with ⟨rfl, h0⟩ | ⟨g, cap, cur, rfl, _⟩
  · exact ⟨none, 0, by rw [h0]⟩
  · exact ⟨_, _, rfl⟩
theorem OwnC.chg {T B g : Nat} {v : Value} {t : List Pc} {w w' : World} (h : OwnC T B v t w) (c : Chg g w w') (hg : g < B) : OwnC T B v t w' := by
  refine ⟨h.1, ?_⟩
  rcases h.2 with hn | ⟨k, cap, cur, rfl, hb, hk, rest⟩
  · exact .inl hn
  · refine .inr ⟨k, cap, cur, rfl, hb, ?_, rest⟩
    rw [c.block k (Array.getElem?_eq_some_iff.1 hk).1 (by omega)]
    exact hk
theorem OwnC.below {T B : Nat} {v : Value} {t : List Pc} {w w' : World} (h : OwnC T B v t w) (b : Below w.heap.size w w') : OwnC T B v t w' := by
  refine ⟨h.1, ?_⟩
  rcases h.2 with hn | ⟨k, cap, cur, rfl, hb, hk, rest⟩
  · exact .inl hn
  · refine .inr ⟨k, cap, cur, rfl, hb, ?_, rest⟩
    rw [b.block k (Array.getElem?_eq_some_iff.1 hk).1]
    exact hk
theorem infoC9 : (Tryz.prog.info? 40).map (fun i => (i.zero, i.size, i.bytes)) = some (some (.agg #[.string ⟨#[]⟩, .int .i64 0, .int .i64 0, .int .i64 0, .string ⟨#[]⟩]), 5, 56) := by kernel_rfl

/-- A piece appended. -/
theorem wp_appC9 {ops : Array Oper} {rest : List Oper} {o : Oper} {a : Act} {Q : Exit → Act → World → Prop} (T S : Nat) (hinfo : (Tryz.prog.info? T).map (fun i => (i.zero, i.size, i.bytes)) = some (some (.agg #[.string ⟨#[]⟩, .int .i64 0, .int .i64 0, .int .i64 0, .string ⟨#[]⟩]), 5, 56))
    (hund : Tryz.prog.underlying S = some (.slice T)) (hgd : o.guard = none) (s x : Operand)
    (ho : o.op = .call { callee := .builtin .append, args := #[s, x], argTypes := #[S, S] }) (B : Nat) (v : Value) (t : List Pc) (W : World) (p : Pc) (n1 n2 : ByteArray) (h1 : n1 = str p.media) (h2 : n2 = str p.body) (f1 f2 f3 : Int) (k1 : f1 = p.sp.1) (k2 : f2 = p.sp.2) (k3 : f3 = p.size)
    (hs : a.eval s = v) (hown : OwnC T B v t W) (g : Nat) (hx : a.eval x = .slice (some ⟨g, 0, none⟩) 1 1) (hg : g = W.heap.size) (hlen : t.length + 1 ≤ 1073741824) (hB : B ≤ W.heap.size)
    (h : ∀ v' w', OwnC T B v' (t ++ [p]) w' → Below B W w' → wpList Tryz.prog ops Q rest (a.put o.dst v') w') : wpList Tryz.prog ops Q (o :: rest) a (W.alloc (.cells #[.string n1, .int .i64 f1, .int .i64 f2, .int .i64 f3, .string n2] T)) := by
  subst h1 h2 hg k1 k2 k3
  obtain ⟨i0, hi, hz0, hz1, hz2⟩ := info_parts hinfo
  refine wpList_append_own _ hgd s x S ho B T i0 (.agg #[.string ⟨#[]⟩, .int .i64 0, .int .i64 0, .int .i64 0, .string ⟨#[]⟩]) 5 56 hund hi hz0 hz1 hz2 rfl (by decide) v t.length _ hs (World.ownsRow.alloc hown _) ⟨W.heap.size, 0, none⟩ 1 1 (encC1 p) hx rfl ?_ ?_ ?_ ?_ ?_ ?_
  · intro j u hj
    unfold encC1 at hj
    match j, hj with
    | 0, hj => simp at hj; subst hj; simp [Addr.add]
    | 1, hj => simp at hj; subst hj; simp [Addr.add]
    | 2, hj => simp at hj; subst hj; simp [Addr.add]
    | 3, hj => simp at hj; subst hj; simp [Addr.add]
    | 4, hj => simp at hj; subst hj; simp [Addr.add]
  · intro u hu
    unfold encC1 at hu
    simp at hu
    rcases hu with rfl | rfl | rfl | rfl | rfl <;> rfl
  · unfold maxLen; omega
  · omega
  · simp; omega
  · intro v' w' h1 h2 _
    refine h v' w' ?_ (((Below.refl B W).alloc hB _).grown h2 (by simp; omega) (fun k hk => (World.ownsRow.lt hown k hk).1))
    unfold OwnC
    rw [encC_snoc, List.length_append]
    exact h1

/-- The marks that are due. -/
def mksP (op cl : List UInt8) (acc : List Pc) : List (List UInt8) := if acc = [] then [op] else [op, cl]
/-- All pieces from a place on, at which a mark is due: the pieces, the error, the place. -/
def goA (op cl l : List UInt8) : Nat → Nat → List Pc → List Pc × Int × Nat
  | 0, a, acc => ([], 0, a)
  | f + 1, a, acc =>
    if (takeP (l.drop a) 92 (mksP op cl acc)).2.1 ≠ 0 then ([], (takeP (l.drop a) 92 (mksP op cl acc)).2.1, a + (takeP (l.drop a) 92 (mksP op cl acc)).2.2)
    else if (takeP (l.drop a) 92 (mksP op cl acc)).1 = op then
      if (pieceP (l.drop (a + op.length))).2.1 ≠ 0 then ([], (pieceP (l.drop (a + op.length))).2.1, a + op.length + (pieceP (l.drop (a + op.length))).2.2)
      else goA op cl l f (a + op.length + (pieceP (l.drop (a + op.length))).2.2) (acc ++ [(pieceP (l.drop (a + op.length))).1])
    else if a + (takeP (l.drop a) 92 (mksP op cl acc)).2.2 < l.length then ([], 92, a + (takeP (l.drop a) 92 (mksP op cl acc)).2.2) else (acc, 0, a + (takeP (l.drop a) 92 (mksP op cl acc)).2.2)
theorem takeP_ok (r op cl : List UInt8) (acc : List Pc) (h : (takeP r 92 (mksP op cl acc)).2.1 = 0) : (takeP r 92 (mksP op cl acc)).2.2 = (takeP r 92 (mksP op cl acc)).1.length := by
  have key : ∀ (ts : List (List UInt8)) (f : Int), f ≠ 0 → (takeP r f ts).2.1 = 0 → (takeP r f ts).2.2 = (takeP r f ts).1.length := by
    intro ts
    induction ts with
    | nil => intro f hf h; unfold takeP at h; split at h <;> simp_all
    | cons t ts ih =>
      intro f hf h
      unfold takeP at h ⊢
      split
      · rfl
      · rename_i hn
        rw [if_neg hn] at h
        refine ih _ ?_ h
        split
        · decide
        · exact hf
  exact key _ 92 (by decide) h
theorem pieceP_far (r : List UInt8) : (pieceP r).2.2 ≤ r.length := by
  have f1 := lineP_far r ctH
  have f2 := lineP_far (r.drop (lineP r ctH).2.2) crH
  have f3 := takeP_far (r.drop ((lineP r ctH).2.2 + (lineP (r.drop (lineP r ctH).2.2) crH).2.2)) [[13, 10]] 93
  have t3 := take_crlf (r.drop ((lineP r ctH).2.2 + (lineP (r.drop (lineP r ctH).2.2) crH).2.2))
  rw [List.length_drop] at f2 f3
  unfold pieceP
  generalize lineP r ctH = L1 at *
  generalize lineP (r.drop L1.2.2) crH = L2 at *
  generalize takeP (r.drop (L1.2.2 + L2.2.2)) 93 [[13, 10]] = K at *
  generalize tolR L2.1 = X at *
  split
  · dsimp only; omega
  · split
    · dsimp only; omega
    · split
      · dsimp only; omega
      · split
        · dsimp only; omega
        · rename_i hk
          have := t3 (by simpa using hk)
          split
          · dsimp only; omega
          · dsimp only
            rename_i hlt
            omega

end Sn
end Go.Proofs.YthdfgepnadgkjaaGreatDoor
