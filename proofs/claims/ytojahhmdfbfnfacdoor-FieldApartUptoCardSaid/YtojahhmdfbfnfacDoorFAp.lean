/-
  A field appended beside another row of fields; fields of other names put between, plain.
-/
import Derived.Test.YtojahhmdfbfnfacDoorFTk
import Derived.Test.YtojahhmdfbfnfacDoorFRm
set_option linter.unusedVariables false
set_option linter.unusedSimpArgs false
namespace Go.Proofs.YtojahhmdfbfnfacDoor
open Go.RowKit Go.Shelf
namespace Fd
open Oc Tg

/-- Two slices lie in blocks of their own. -/
def Sep (u v : Value) : Prop := ∀ g, u.ownBlock = some g → v.ownBlock ≠ some g
theorem Sep.symm {u v : Value} (h : Sep u v) : Sep v u := fun g h1 h2 => h g h2 h1
theorem sep_nil (v : Value) : Sep (.slice none 0 0) v := fun g h => by cases h
theorem OwnF.blk {T B : Nat} {v : Value} {t : List Fl} {w : World} (h : OwnF T B v t w) (g : Nat) (hg : v.ownBlock = some g) : g < w.heap.size := (World.ownsRow.lt h g hg).2

/-- A field appended to a slice of the call's own; another one stays. -/
theorem wp_appF2 {ops : Array Oper} {rest : List Oper} {o : Oper} {a : Act} {Q : Exit → Act → World → Prop} (T S : Nat) (hinfo : (Tryd.prog.info? T).map (fun i => (i.zero, i.size, i.bytes)) = some (some (.agg #[.string ⟨#[]⟩, .string ⟨#[]⟩]), 2, 32))
    (hund : Tryd.prog.underlying S = some (.slice T)) (hgd : o.guard = none) (s x : Operand)
    (ho : o.op = .call { callee := .builtin .append, args := #[s, x], argTypes := #[S, S] }) (B : Nat) (v : Value) (t : List Fl) (W : World) (p : Fl) (n1 n2 : ByteArray) (h1 : n1 = str p.1) (h2 : n2 = str p.2)
    (hs : a.eval s = v) (hown : OwnF T B v t W) (g : Nat) (hx : a.eval x = .slice (some ⟨g, 0, none⟩) 1 1) (hg : g = W.heap.size) (hlen : t.length + 1 ≤ 2147483648) (hB : B ≤ W.heap.size)
    (h : ∀ v' w', OwnF T B v' (t ++ [p]) w' → Below B W w' → (∀ B2 u t2, OwnF T B2 u t2 W → Sep u v → OwnF T B2 u t2 w' ∧ Sep u v') → (∀ k, k < W.heap.size → v.ownBlock ≠ some k → w'.heap[k]? = W.heap[k]?) → wpList Tryd.prog ops Q rest (a.put o.dst v') w') : wpList Tryd.prog ops Q (o :: rest) a (W.alloc (.cells #[.string n1, .string n2] T)) := by
  subst h1 h2 hg
  obtain ⟨i0, hi, hz0, hz1, hz2⟩ := info_parts hinfo
  refine wpList_append_own_at _ hgd s x S ho B T i0 (.agg #[.string ⟨#[]⟩, .string ⟨#[]⟩]) 2 32 hund hi hz0 hz1 hz2 rfl (by decide) v t.length _ hs (World.ownsRow.alloc hown _) ⟨W.heap.size, 0, none⟩ 1 1 (encF1 p) hx rfl ?_ ?_ ?_ ?_ ?_ ?_
  · intro j u hj
    unfold encF1 at hj
    match j, hj with
    | 0, hj => simp at hj; subst hj; simp [Addr.add]
    | 1, hj => simp at hj; subst hj; simp [Addr.add]
  · intro u hu
    unfold encF1 at hu
    simp at hu
    rcases hu with rfl | rfl <;> rfl
  · unfold maxLen; omega
  · omega
  · simp; omega
  · intro v' w' h1 h2 _ h4
    refine h v' w' ?_ (((Below.refl B W).alloc hB _).grown h2 (by simp; omega) (fun k hk => (World.ownsRow.lt hown k hk).1)) ?_ (fun k hk hne => (h2.block k (by simp; omega) (fun e => hne e.symm)).trans (Lib.alloc_old W _ k hk))
    · unfold OwnF
      rw [encF_snoc, List.length_append]
      exact h1
    · intro B2 u t2 hu hsep
      refine ⟨World.ownsRow.kept (World.ownsRow.alloc hu _) h2 ?_, fun g hg => ?_⟩
      · cases hb : u.ownBlock with
        | none => exact .inl rfl
        | some g => exact .inr fun e => hsep g hb e.symm
      · rcases h4 with e | e
        · rw [e]; exact hsep g hg
        · rw [e]
          intro e2
          have := hu.blk g hg
          injection e2 with e2
          simp at e2
          omega

/-- Fields with others of other names between. -/
def mixN (s : List UInt8) (t o : List Fl) : Nat → List Fl
  | 0 => []
  | k + 1 => mixN s t o k ++ [nth t k] ++ (if k < o.length ∧ alike s (nth o k) = false then [nth o k] else [])
theorem mix_vals (s : List UInt8) (t o : List Fl) : ∀ k, k ≤ t.length → vals s (mixN s t o k) = vals s (t.take k)
  | 0, _ => rfl
  | k + 1, h => by
    have ih := mix_vals s t o k (by omega)
    have hx : vals s (if k < o.length ∧ alike s (nth o k) = false then [nth o k] else []) = [] := by
      split
      · rename_i hh
        unfold vals
        rw [List.filter_cons, hh.2]
        rfl
      · rfl
    unfold mixN
    rw [take_nth t k (by omega)]
    unfold vals at ih hx ⊢
    rw [List.filter_append, List.filter_append, List.filter_append, List.map_append, List.map_append, List.map_append, ih, hx, List.append_nil]
theorem sumF_app (a b : List Fl) : sumF (a ++ b) = sumF a + sumF b := by simp [sumF]
theorem mix_sum (s : List UInt8) (t o : List Fl) : ∀ k, k ≤ t.length → sumF (mixN s t o k) ≤ sumF (t.take k) + sumF (o.take k)
  | 0, _ => by simp [mixN, sumF]
  | k + 1, h => by
    have ih := mix_sum s t o k (by omega)
    unfold mixN
    rw [take_nth t k (by omega), sumF_app, sumF_app, sumF_app]
    by_cases hk : k < o.length
    · rw [take_nth o k hk, sumF_app]
      split
      · omega
      · simp only [sumF, List.map_nil, List.sum_nil] at *
        omega
    · rw [if_neg (by omega), List.take_of_length_le (show o.length ≤ k + 1 by omega)]
      rw [List.take_of_length_le (show o.length ≤ k by omega)] at ih
      simp only [sumF, List.map_nil, List.sum_nil] at *
      omega
theorem sumF_take (t : List Fl) (k : Nat) : sumF (t.take k) ≤ sumF t := by
  conv => rhs; rw [← List.take_append_drop k t]
  rw [sumF_app]
  omega
theorem split_len (s : List UInt8) (t : List Fl) : (t.filter (unlike s)).length + (vals s t).length = t.length := by
  unfold vals
  rw [List.length_map]
  induction t with
  | nil => rfl
  | cons p t ih =>
    rw [List.filter_cons, List.filter_cons]
    unfold unlike at *
    cases h : alike s p <;> simp at ih ⊢ <;> omega

end Fd
end Go.Proofs.YtojahhmdfbfnfacDoor
