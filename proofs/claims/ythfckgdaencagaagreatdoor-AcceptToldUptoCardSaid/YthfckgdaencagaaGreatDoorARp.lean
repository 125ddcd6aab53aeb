/-
  The document's parts.
-/
import Derived.Test.YthfckgdaencagaaGreatDoorAMe
import Derived.Test.YthfckgdaencagaaGreatDoorMgP
import Derived.Test.YthfckgdaencagaaGreatDoorMgB1
import Derived.Test.YthfckgdaencagaaGreatDoorARm
import Derived.Deep.Cut
import Derived.Deep.CutRange
import Derived.Deep.CutBlock
import Derived.Deep.RegionWith
import Derived.Deep.RegionLaw
import Derived.Deep.AppendLies
import Derived.Deep.RegionHeld3
import Derived.Laws.AppendOwn
import Derived.Test.YthfckgdaencagaaGreatDoorMgW
set_option linter.unusedVariables false
set_option linter.unusedSimpArgs false
namespace Go.Proofs.YthfckgdaencagaaGreatDoor
open Go.RowKit Go.Shelf
namespace Ac
open Oc Tg

theorem some_lt {W : World} {b : Nat} {o : Obj} (h : W.heap[b]? = some o) : b < W.heap.size := (Array.getElem?_eq_some_iff.1 h).1
theorem keepA {W : World} {b : Nat} {o o' : Obj} (h : W.heap[b]? = some o) : (W.alloc o').heap[b]? = some o := by
  have hlt := some_lt h
  show (W.heap.push o')[b]? = _
  rw [Array.getElem?_push_lt hlt]
  rw [Array.getElem?_eq_getElem hlt] at h
  exact h
theorem newA2 (W : World) (o o' : Obj) : ((W.alloc o).alloc o').heap[W.heap.size + 1]? = some o' := by
  have h := heap_alloc_new (W.alloc o) o'
  have e : (W.alloc o).heap.size = W.heap.size + 1 := by simp
  rw [e] at h
  exact h
theorem keepB {W w' : World} {b : Nat} {o : Obj} (hb : Below W.heap.size W w') (h : W.heap[b]? = some o) : w'.heap[b]? = some o := (hb.block b (some_lt h)).trans h
theorem keepS {W : World} {p q j : Nat} {o : Obj} {u : Value} (h : W.heap[q]? = some o) (hne : q ≠ p) : (W.setCell ⟨p, j, none⟩ u).heap[q]? = some o := by
  rw [heap_setCell_other W ⟨p, j, none⟩ q u (fun e => hne (by simpa using e))]; exact h
theorem set3P {W : World} {p : Nat} {x y z a b c : Value} {T : TypeId} (h : W.heap[p]? = some (.cells #[x, y, z] T (0, 0))) :
    (((W.setCell ⟨p, 0, none⟩ a).setCell ⟨p, 1, none⟩ b).setCell ⟨p, 2, none⟩ c).heap[p]? = some (.cells #[a, b, c] T (0, 0)) := by
  have h1 := heap_setCell_same W p 0 #[x, y, z] T a h
  have h2 := heap_setCell_same _ p 1 _ T b h1
  have h3 := heap_setCell_same _ p 2 _ T c h2
  exact h3

theorem gen_frameP {P : Program} {c : Code} {Q : Exit → Act → World → Prop} {a : Act} {w : World} (h : ∀ fr, fr = a → Code.wp P c Q fr w) : Code.wp P c Q a w := h a rfl
theorem bl_al {x W : World} (h : Below x.heap.size x W) (o : Obj) : Below x.heap.size x (W.alloc o) := h.alloc h.size o
theorem bl_dr {x W : World} (h : Below x.heap.size x W) : Below x.heap.size x W.drew := h.drew
theorem bl_on {x W W' : World} (h : Below x.heap.size x W) (b : Below W.heap.size W W') : Below x.heap.size x W' := bel_trans h b

theorem keepV {T B0 B : Nat} {v : Value} {t : List Prm} {W w' : World} (h : OwnP T B0 v t W) (hlt : ∀ g, v.ownBlock = some g → g < B) (b : Below B W w') : OwnP T B0 v t w' := by
  refine ⟨h.1, ?_⟩
  rcases h.2 with hn | ⟨g, cap, cur, rfl, hb, hg, rest⟩
  · exact .inl hn
  · exact .inr ⟨g, cap, cur, rfl, hb, (b.block g (hlt g rfl)).trans hg, rest⟩
theorem ownP_lt {T B : Nat} {v : Value} {t : List Prm} {w : World} (h : OwnP T B v t w) {k : Nat} (e : v.ownBlock = some k) : k < w.heap.size := (World.ownsRow.lt h k e).2
theorem step_appP3 {ops : Array Oper} {o : Oper} {a : Act} {K : Act → World → Prop} {Q : Exit → Act → World → Prop} {E : Prop} (T S : Nat) (hinfo : (Tryz.prog.info? T).map (fun i => (i.zero, i.size, i.bytes)) = some (some (.agg #[.string ⟨#[]⟩, .string ⟨#[]⟩, .bool false]), 3, 40))
    (hund : Tryz.prog.underlying S = some (.slice T)) (hgd : o.guard = none) (s x : Operand)
    (ho : o.op = .call { callee := .builtin .append, args := #[s, x], argTypes := #[S, S] }) (B : Nat) (v : Value) (t : List Prm) (W : World) (p : Prm) (n1 n2 : ByteArray) (h1 : n1 = str p.1) (h2 : n2 = str p.2.1) (b : Bool) (h3 : b = p.2.2)
    (hs : a.eval s = v) (hown : OwnP T B v t W) (g : Nat) (hx : a.eval x = .slice (some ⟨g, 0, none⟩) 1 1) (hg : g = W.heap.size) (hlen : t.length + 1 ≤ 2147483648) (hB : B ≤ W.heap.size)
    (h : ∀ v' w', OwnP T B v' (t ++ [p]) w' → Below B W w' → (∀ k, k < W.heap.size → v.ownBlock ≠ some k → w'.heap[k]? = W.heap[k]?) → K (a.put o.dst v') w') : if Region.wanted o (yielded ops a.tmps) = true then Oper.wp Tryz.prog o a (W.alloc (.cells #[.string n1, .string n2, .bool b] T)) K Q else E := by
  subst h1 h2 h3 hg
  have hw : Region.wanted o (yielded ops a.tmps) = true := by simp [Region.wanted, hgd]
  rw [if_pos hw]
  obtain ⟨i0, hi, hz0, hz1, hz2⟩ := info_parts hinfo
  refine wp_append_own _ s x S ho B T i0 (.agg #[.string ⟨#[]⟩, .string ⟨#[]⟩, .bool false]) 3 40 hund hi hz0 hz1 hz2 rfl (by decide) v t.length _ hs (World.ownsRow.alloc hown _) ⟨W.heap.size, 0, none⟩ 1 1 (enc1 p) hx rfl ?_ ?_ ?_ ?_ ?_ ?_
  · intro j u hj
    unfold enc1 at hj
    match j, hj with
    | 0, hj => simp at hj; subst hj; simp [Addr.add]
    | 1, hj => simp at hj; subst hj; simp [Addr.add]
    | 2, hj => simp at hj; subst hj; simp [Addr.add]
  · intro u hu
    unfold enc1 at hu
    simp at hu
    rcases hu with rfl | rfl | rfl <;> rfl
  · unfold maxLen; omega
  · omega
  · simp; omega
  · intro v' w' h1 h2 _
    refine h v' w' ?_ (((Below.refl B W).alloc hB _).grown h2 (by simp; omega) (fun k hk => (World.ownsRow.lt hown k hk).1)) (fun k hk hne => (h2.block k (by simp; omega) (fun e => hne e.symm)).trans (Lib.alloc_old W _ k hk))
    unfold OwnP
    rw [encP_snoc, List.length_append]
    exact h1
theorem nth_low (ps : List Prm) (k : Nat) (hk : k < ps.length) : (ps.map lowP).take (k + 1) = (ps.map lowP).take k ++ [(lower (nth ps k).1, (nth ps k).2.1, (nth ps k).2.2)] := by
  rw [List.take_add_one, List.getElem?_map, List.getElem?_eq_getElem hk]
  unfold nth
  rw [List.getD_eq_getElem?_getD, List.getElem?_eq_getElem hk]
  rfl

theorem czP {W : World} {p : Nat} {x y z : Value} {T : TypeId} (h : W.heap[p]? = some (.cells #[x, y, z] T (0, 0))) : W.cell? ⟨p, 0, none⟩ = some x ∧ W.cell? ⟨p, 1, none⟩ = some y ∧ W.cell? ⟨p, 2, none⟩ = some z ∧ W.frozen? ⟨p, 0, none⟩ = false ∧ W.frozen? ⟨p, 1, none⟩ = false ∧ W.frozen? ⟨p, 2, none⟩ = false :=
  ⟨Lib.cell_of_heap h 0, Lib.cell_of_heap h 1, Lib.cell_of_heap h 2, Lib.frozen_of_heap h 0, Lib.frozen_of_heap h 1, Lib.frozen_of_heap h 2⟩

theorem bl_set {x W : World} (h : Below x.heap.size x W) {p j : Nat} (hp : x.heap.size ≤ p) (u : Value) : Below x.heap.size x (W.setCell ⟨p, j, none⟩ u) := h.setCell (p := ⟨p, j, none⟩) hp u

/-- What region 12 leaves: the media type's block and its empty row. -/
def Rel12 (w3 : World) (LA LB : List UInt8) (s9 : Value) (wx : World) : Prop := ∃ p q : Nat, s9 = .pointer (some ⟨p, 0, none⟩) ∧ w3.heap.size ≤ p ∧ w3.heap.size ≤ q ∧ Hid (wx.heap[p]? = some (.cells #[.string (str LA), .string (str LB), .slice (some ⟨q, 0, none⟩) 0 0] 40 (0, 0))) ∧ Hid (wx.heap[q]? = some (.cells #[] 84 (0, 0))) ∧ Hid (Below w3.heap.size w3 wx)
theorem relA1 {w3 w6 : World} {LA LB : List UInt8} (h : Below w3.heap.size w3 w6) : Rel12 w3 LA LB (.pointer (some ⟨w6.heap.size + 1, 0, none⟩)) ((w6.alloc (.cells #[] 84)).alloc (.cells #[.string (str LA), .string (str LB), .slice (some ⟨w6.heap.size, 0, none⟩) 0 0] 40)) :=
  ⟨_, _, rfl, Nat.le_succ_of_le h.size, h.size, newA2 _ _ _, keepA (heap_alloc_new _ _), bl_al (bl_al h _) _⟩
theorem relA2 {w3 w6 : World} {LA LB : List UInt8} (h : Below w3.heap.size w3 w6) : Rel12 w3 LA LB (.pointer (some ⟨w6.heap.size, 0, none⟩)) ((w6.alloc (.cells #[.string (str LA), .string (str LB), .slice (some ⟨w6.heap.size + 1, 0, none⟩) 0 0] 40)).alloc (.cells #[] 84)) :=
  ⟨_, _, rfl, h.size, Nat.le_succ_of_le h.size, keepA (heap_alloc_new _ _), newA2 _ _ _, bl_al (bl_al h _) _⟩
theorem relB {w3 w6 : World} {LA LB : List UInt8} {q : Nat} (h : Below w3.heap.size w3 w6) (e : w6.heap[q]? = some (.cells #[] 84 (0, 0))) (hq : w3.heap.size ≤ q) : Rel12 w3 LA LB (.pointer (some ⟨w6.heap.size, 0, none⟩)) (w6.alloc (.cells #[.string (str LA), .string (str LB), .slice (some ⟨q, 0, none⟩) 0 0] 40)) :=
  ⟨_, _, rfl, h.size, hq, heap_alloc_new _ _, keepA e, bl_al h _⟩
theorem relC {w3 w6 : World} {LA LB : List UInt8} {p q : Nat} (h : Below w3.heap.size w3 w6) (z : w6.heap[p]? = some (.cells #[.string ⟨#[]⟩, .string ⟨#[]⟩, .slice none 0 0] 40 (0, 0))) (e : w6.heap[q]? = some (.cells #[] 84 (0, 0))) (hp : w3.heap.size ≤ p) (hq : w3.heap.size ≤ q) : Rel12 w3 LA LB (.pointer (some ⟨p, 0, none⟩)) (((w6.setCell ⟨p, 0, none⟩ (.string (str LA))).setCell ⟨p, 1, none⟩ (.string (str LB))).setCell ⟨p, 2, none⟩ (.slice (some ⟨q, 0, none⟩) 0 0)) := by
  have hne : q ≠ p := fun e' => by
    subst e'
    rw [z] at e
    simp at e
  exact ⟨_, _, rfl, hp, hq, set3P z, keepS (keepS (keepS e hne) hne) hne, bl_set (bl_set (bl_set h hp _) hp _) hp _⟩
theorem relD {w3 w6 : World} {LA LB : List UInt8} {p : Nat} (h : Below w3.heap.size w3 w6) (z : w6.heap[p]? = some (.cells #[.string ⟨#[]⟩, .string ⟨#[]⟩, .slice none 0 0] 40 (0, 0))) (hp : w3.heap.size ≤ p) : Rel12 w3 LA LB (.pointer (some ⟨p, 0, none⟩)) ((((w6.alloc (.cells #[] 84)).setCell ⟨p, 0, none⟩ (.string (str LA))).setCell ⟨p, 1, none⟩ (.string (str LB))).setCell ⟨p, 2, none⟩ (.slice (some ⟨w6.heap.size, 0, none⟩) 0 0)) := by
  have hlt := some_lt z
  have hne : w6.heap.size ≠ p := by omega
  exact ⟨_, _, rfl, hp, h.size, set3P (keepA z), keepS (keepS (keepS (heap_alloc_new _ _) hne) hne) hne, bl_set (bl_set (bl_set (bl_al h _) hp _) hp _) hp _⟩

theorem tok_in (l : List UInt8) (k : Nat) (h : k < tokLen l) : tokB (l.getD k 0) = true := by
  have hl := tokLen_le l
  refine tw_take (p := tokB) l _ ?_
  have hk : k < (l.take (tokLen l)).length := by rw [List.length_take]; omega
  have e : (l.take (tokLen l))[k] = l.getD k 0 := by
    rw [List.getElem_take, List.getD_eq_getElem?_getD, List.getElem?_eq_getElem (by omega)]; rfl
  rw [← e]
  exact List.getElem_mem hk
theorem tok_out (l : List UInt8) (h : tokLen l < l.length) : tokB (l.getD (tokLen l) 0) = false := by
  refine tw_drop (p := tokB) l _ ?_
  show (l.drop (tokLen l)).head? = _
  rw [List.drop_eq_getElem_cons h, List.getD_eq_getElem?_getD, List.getElem?_eq_getElem h]; rfl
theorem drop_getD2 (l : List UInt8) (a k : Nat) : (l.drop a).getD k 0 = l.getD (a + k) 0 := by
  rw [List.getD_eq_getElem?_getD, List.getD_eq_getElem?_getD, List.getElem?_drop]

set_option maxRecDepth 100000 in
set_option maxHeartbeats 40000000 in
theorem rparts_any (s : ByteArray) (hs : s.size ≤ 134217728) (w : World) :
    Calls Tryz.prog 14 #[.string s] w fun e w' => ∃ v, e = .returned (.tuple #[.agg #[.string (str (mdT (partsR s.data.toList))), .string (str (mdS (partsR s.data.toList))), v], .bool (partsR s.data.toList).isSome]) ∧ OwnP 84 w.heap.size v (mdP (partsR s.data.toList)) w' ∧ Below w.heap.size w w' := by
  obtain ⟨w2, hw2⟩ : ∃ w2, w2 = w.alloc (.cells #[.string ⟨#[]⟩, .string ⟨#[]⟩, .slice none 0 0] 40) := ⟨_, rfl⟩
  have HR1 : Hid (w2.heap[w.heap.size]? = some (.cells #[.string ⟨#[]⟩, .string ⟨#[]⟩, .slice none 0 0] 40 (0, 0))) := by
    show _ = _; rw [hw2]; exact heap_alloc_new w _
  have HB2 : Hid (Below w.heap.size w w2) := by show Below _ _ _; rw [hw2]; exact (Below.refl _ w).alloc (Nat.le_refl _) _
  have hz2 : w.heap.size < w2.heap.size := by rw [hw2]; simp
  have hI := tokLen_le s.data.toList
  have hJ := tokLen_le (s.data.toList.drop (tokLen s.data.toList + 1))
  rw [size_list] at hI
  rw [List.length_drop, size_list] at hJ
  have T1 : Hid (∀ k, k < tokLen s.data.toList → tokI (byt s k) = true) := (fun k hk => tok_in _ k hk : ∀ k, k < tokLen s.data.toList → tokI (byt s k) = true)
  have T2 : Hid (tokLen s.data.toList < s.size → tokI (byt s (tokLen s.data.toList)) = false) := (fun h => tok_out _ (by rw [size_list]; exact h) : _ → tokI (byt s _) = false)
  have T3 : Hid (∀ k, k < tokLen (s.data.toList.drop (tokLen s.data.toList + 1)) → tokI (byt s (tokLen s.data.toList + 1 + k)) = true) := (fun k hk => by
    have := tok_in _ k hk
    rw [drop_getD2] at this
    exact this : ∀ k, _ → tokI (byt s (_ + k)) = true)
  have T4 : Hid (tokLen s.data.toList + 1 + tokLen (s.data.toList.drop (tokLen s.data.toList + 1)) < s.size → tokI (byt s (tokLen s.data.toList + 1 + tokLen (s.data.toList.drop (tokLen s.data.toList + 1)))) = false) := (fun h => by
    have := tok_out (s.data.toList.drop (tokLen s.data.toList + 1)) (by rw [List.length_drop, size_list]; omega)
    rw [drop_getD2] at this
    exact this : _ → tokI (byt s _) = false)
  have PN : Hid (¬ (0 < tokLen s.data.toList ∧ tokLen s.data.toList < s.size ∧ byt s (tokLen s.data.toList) = 47 ∧ 0 < tokLen (s.data.toList.drop (tokLen s.data.toList + 1))) → partsR s.data.toList = none) := (fun h => by
    unfold partsR
    rw [if_neg]
    rintro ⟨⟨c1, c2, c3, c4⟩, _⟩
    rw [size_list] at c2
    exact h ⟨c1, c2, by unfold byt; rw [c3]; rfl, c4⟩ : _ → partsR s.data.toList = none)
  have PM : Hid (0 < tokLen s.data.toList ∧ tokLen s.data.toList < s.size ∧ byt s (tokLen s.data.toList) = 47 ∧ 0 < tokLen (s.data.toList.drop (tokLen s.data.toList + 1)) → ¬ ((paramsR (s.data.toList.drop (tokLen s.data.toList + 1 + tokLen (s.data.toList.drop (tokLen s.data.toList + 1))))).2.2 = 0 ∧ (tokLen s.data.toList + 1 + tokLen (s.data.toList.drop (tokLen s.data.toList + 1)) : Nat) + (paramsR (s.data.toList.drop (tokLen s.data.toList + 1 + tokLen (s.data.toList.drop (tokLen s.data.toList + 1))))).2.1 = s.size) → partsR s.data.toList = none) := (fun h1 h => by
    unfold partsR
    rw [if_neg]
    rintro ⟨_, hf⟩
    unfold full jAt at hf
    rw [List.length_drop, size_list] at hf
    exact h ⟨hf.1, by omega⟩ : _ → _ → partsR s.data.toList = none)
  have PS : Hid (0 < tokLen s.data.toList ∧ tokLen s.data.toList < s.size ∧ byt s (tokLen s.data.toList) = 47 ∧ 0 < tokLen (s.data.toList.drop (tokLen s.data.toList + 1)) → ((paramsR (s.data.toList.drop (tokLen s.data.toList + 1 + tokLen (s.data.toList.drop (tokLen s.data.toList + 1))))).2.2 = 0 ∧ (tokLen s.data.toList + 1 + tokLen (s.data.toList.drop (tokLen s.data.toList + 1)) : Nat) + (paramsR (s.data.toList.drop (tokLen s.data.toList + 1 + tokLen (s.data.toList.drop (tokLen s.data.toList + 1))))).2.1 = s.size) → partsR s.data.toList = some (lower (s.data.toList.take (tokLen s.data.toList)), lower ((s.data.toList.drop (tokLen s.data.toList + 1)).take (tokLen (s.data.toList.drop (tokLen s.data.toList + 1)))), (paramsR (s.data.toList.drop (tokLen s.data.toList + 1 + tokLen (s.data.toList.drop (tokLen s.data.toList + 1))))).1.map lowP)) := (fun h1 h => by
    unfold partsR
    rw [if_pos]
    · rfl
    · refine ⟨⟨h1.1, by rw [size_list]; exact h1.2.1, UInt8.toNat_inj.1 (by have := h1.2.2.1; unfold byt at this; show _ = 47; omega), h1.2.2.2⟩, ?_⟩
      unfold full jAt
      rw [List.length_drop, size_list]
      exact ⟨h.1, by omega⟩ : _ → _ → partsR s.data.toList = _)
  have HE : Hid ((s.extract (tokLen s.data.toList + 1 + tokLen (s.data.toList.drop (tokLen s.data.toList + 1))) s.size).data.toList = s.data.toList.drop (tokLen s.data.toList + 1 + tokLen (s.data.toList.drop (tokLen s.data.toList + 1)))) := Lib.extract_to_end s _
  have HP : Hid (∀ w, Calls Tryz.prog 32 #[.string (s.extract (tokLen s.data.toList + 1 + tokLen (s.data.toList.drop (tokLen s.data.toList + 1))) s.size)] w fun e w' => ∃ v, e = .returned (.tuple #[v, .int .i64 (paramsR (s.data.toList.drop (tokLen s.data.toList + 1 + tokLen (s.data.toList.drop (tokLen s.data.toList + 1))))).2.1, .int .i64 (paramsR (s.data.toList.drop (tokLen s.data.toList + 1 + tokLen (s.data.toList.drop (tokLen s.data.toList + 1))))).2.2]) ∧ OwnP 84 w.heap.size v (paramsR (s.data.toList.drop (tokLen s.data.toList + 1 + tokLen (s.data.toList.drop (tokLen s.data.toList + 1))))).1 w' ∧ Below w.heap.size w w') := fun w => by
    have := rParams_any (s.extract (tokLen s.data.toList + 1 + tokLen (s.data.toList.drop (tokLen s.data.toList + 1))) s.size) (by simp; omega) w
    rw [HE.out] at this
    exact this
  obtain ⟨b0, b1, b2, b3⟩ := params_bd (s.data.toList.drop (tokLen s.data.toList + 1 + tokLen (s.data.toList.drop (tokLen s.data.toList + 1))))
  rw [List.length_drop, size_list] at b1 b2 b3
  have HEach : Hid (EachP _ _) := b2
  have HLA : Hid (∀ w, Calls Tryz.prog 33 #[.string (s.extract 0 (tokLen s.data.toList))] w fun e w' => e = .returned (.string (str (lower (s.data.toList.take (tokLen s.data.toList))))) ∧ Below w.heap.size w w') := fun w => by
    have := rLower_any (s.extract 0 (tokLen s.data.toList)) (by simp; unfold maxLen; omega) w
    unfold lowS at this
    rw [show (s.extract 0 (tokLen s.data.toList)).data.toList = s.data.toList.take (tokLen s.data.toList) by simp] at this
    exact this
  have HLB : Hid (∀ w, Calls Tryz.prog 33 #[.string (s.extract (tokLen s.data.toList + 1) (tokLen s.data.toList + 1 + tokLen (s.data.toList.drop (tokLen s.data.toList + 1))))] w fun e w' => e = .returned (.string (str (lower ((s.data.toList.drop (tokLen s.data.toList + 1)).take (tokLen (s.data.toList.drop (tokLen s.data.toList + 1))))))) ∧ Below w.heap.size w w') := fun w => by
    have := rLower_any (s.extract (tokLen s.data.toList + 1) (tokLen s.data.toList + 1 + tokLen (s.data.toList.drop (tokLen s.data.toList + 1)))) (by simp; unfold maxLen; omega) w
    unfold lowS at this
    rw [show (s.extract (tokLen s.data.toList + 1) (tokLen s.data.toList + 1 + tokLen (s.data.toList.drop (tokLen s.data.toList + 1)))).data.toList = (s.data.toList.drop (tokLen s.data.toList + 1)).take (tokLen (s.data.toList.drop (tokLen s.data.toList + 1))) by simp [List.drop_take]] at this
    exact this
  clear b2 HE
  generalize lower ((s.data.toList.drop (tokLen s.data.toList + 1)).take (tokLen (s.data.toList.drop (tokLen s.data.toList + 1)))) = LB at *
  generalize lower (s.data.toList.take (tokLen s.data.toList)) = LA at *
  generalize partsR s.data.toList = PR at *
  generalize (paramsR (s.data.toList.drop (tokLen s.data.toList + 1 + tokLen (s.data.toList.drop (tokLen s.data.toList + 1))))).1 = ps at *
  generalize (paramsR (s.data.toList.drop (tokLen s.data.toList + 1 + tokLen (s.data.toList.drop (tokLen s.data.toList + 1))))).2.1 = n at *
  generalize (paramsR (s.data.toList.drop (tokLen s.data.toList + 1 + tokLen (s.data.toList.drop (tokLen s.data.toList + 1))))).2.2 = er at *
  generalize tokLen (s.data.toList.drop (tokLen s.data.toList + 1)) = M at *
  generalize tokLen s.data.toList = I at *
  go_enter Tryz.func14, Tryz.ntmps14
  go_wp2
  rw [← hw2]
  clear hw2
  go_loopw [4] (fun iv wr => ∃ k : Nat, k ≤ I ∧ iv = .int .i64 k ∧ w2 = wr) (fun iv _ => I - (intOf iv).toNat)
  case atStart => exact ⟨0, Nat.zero_le _, rfl, rfl⟩
  case round =>
    obtain ⟨k, hk, rfl, rfl⟩ := hrel
    by_cases hlt : k < I
    · have hks : k < s.size := by omega
      have hby : ((s[k].toNat : Nat) : Int) = byt s k := byt_at s k hks
      obtain ⟨d0, d1⟩ := byt_bd s k
      have ht := T1.out k hlt
      go_wp2_with (go_at_call 31; refine (IsSign_any _ (by omega) (by omega) _).mono ?_; rintro e w' ⟨rfl, hw'⟩; rw [hw']; clear hw' w')
      go_roundw
      case rel => exact ⟨k + 1, by omega, by go_num, trivial⟩
      case measure => simp [intOf]; omega
    · obtain rfl : k = I := by omega
      by_cases hIs : k < s.size
      · have hby : ((s[k].toNat : Nat) : Int) = byt s k := byt_at s k hIs
        obtain ⟨d0, d1⟩ := byt_bd s k
        have ht := T2.out hIs
        go_upto_block 2 with (go_at_call 31; refine (IsSign_any _ (by omega) (by omega) _).mono ?_; rintro e w' ⟨rfl, hw'⟩; rw [hw']; clear hw' w')
        go_cut [5] from 11 (fun s5 wx => s5 = .int .i64 ((k : Int) + 1 + (M : Int)) ∧ w2 = wx)
        case first =>
          go_wp2_with fail
          go_loopw [5] (fun jv wr => ∃ m : Nat, m ≤ M ∧ jv = .int .i64 ((k : Int) + 1 + m) ∧ w2 = wr) (fun jv _ => k + 1 + M - (intOf jv).toNat)
          case atStart => exact ⟨0, Nat.zero_le _, by simp, rfl⟩
          case round =>
            obtain ⟨m, hm, rfl, rfl⟩ := hrel
            by_cases hltm : m < M
            · have hks : k + 1 + m < s.size := by omega
              have hbym : ((s[k + 1 + m].toNat : Nat) : Int) = byt s (k + 1 + m) := byt_at s (k + 1 + m) hks
              obtain ⟨f0, f1⟩ := byt_bd s (k + 1 + m)
              have htm := T3.out m hltm
              have hlz : (k : Int) + 1 + (m : Int) < (s.size : Int) := by omega
              go_wp2_with (go_at_call 31; refine (IsSign_any _ (by omega) (by omega) _).mono ?_; rintro e w' ⟨rfl, hw'⟩; rw [hw']; clear hw' w')
              go_roundw
              case rel => exact ⟨m + 1, by omega, by simp; omega, trivial⟩
              case measure => simp [intOf]; omega
            · obtain rfl : m = M := by omega
              by_cases hjs : k + 1 + m < s.size
              · have hbym : ((s[k + 1 + m].toNat : Nat) : Int) = byt s (k + 1 + m) := byt_at s (k + 1 + m) hjs
                obtain ⟨f0, f1⟩ := byt_bd s (k + 1 + m)
                have htm := T4.out hjs
                have hlz : (k : Int) + 1 + (m : Int) < (s.size : Int) := by omega
                go_wp2_with (go_at_call 31; refine (IsSign_any _ (by omega) (by omega) _).mono ?_; rintro e w' ⟨rfl, hw'⟩; rw [hw']; clear hw' w')
                go_meet
                exact ⟨rfl, rfl⟩
              · have hlz : ¬ ((k : Int) + 1 + (m : Int) < (s.size : Int)) := by omega
                go_wp2_with fail
                go_meet
                exact ⟨rfl, rfl⟩
        case rest =>
          obtain ⟨rfl, rfl⟩ := hcut
          obtain ⟨m, hmM⟩ : ∃ m, m = M := ⟨M, rfl⟩
          subst hmM
          by_cases hgood : 0 < k ∧ byt s k = 47 ∧ 0 < m
          · obtain ⟨g1, g2, g3⟩ := hgood
            have HNo : Hid (¬ (er = 0 ∧ ((k + 1 + m : Nat) : Int) + n = s.size) → PR = none) := PM.out ⟨g1, hIs, g2, g3⟩
            have HYes : Hid (er = 0 ∧ ((k + 1 + m : Nat) : Int) + n = s.size → PR = some (LA, LB, ps.map lowP)) := PS.out ⟨g1, hIs, g2, g3⟩
            have hgez : decide ((s.size : Int) ≤ (k : Int)) = false := decide_eq_false (by omega)
            have h1 : ((k : Int) == 0) = false := by simp; omega
            have h2 : (byt s k != 47) = false := by simp [g2]
            have h3 : ((k : Int) + 1 + (m : Int) == (k : Int) + 1) = false := by simp; omega
            clear PN PM PS T1 T2 T3 g2
            have hjl : (k : Int) + 1 + (m : Int) ≤ (s.size : Int) := by omega
            have hjn : ((k : Int) + 1 + (m : Int)).toNat = k + 1 + m := by omega
            go_wp2_with fail
            all_goals
              clear T4
              refine (HP.out _).mono ?_
              rintro e w3 ⟨v, rfl, ho, hb3⟩
              have HB3 : Hid (Below w2.heap.size w2 w3) := hb3
              have HO3 : Hid (OwnP 84 w2.heap.size v ps w3) := ho
              clear ho
              have R1 := (hb3.block _ hz2).trans HR1.out
              clear hb3
              have c0 := Lib.cell_of_heap R1 0
              have c1 := Lib.cell_of_heap R1 1
              have c2 := Lib.cell_of_heap R1 2
              have fc0 := Lib.frozen_of_heap R1 0
              have fc1 := Lib.frozen_of_heap R1 1
              have fc2 := Lib.frozen_of_heap R1 2
              simp at c0 c1 c2
              have hor : (er != 0) = true ∨ ((er != 0) = false ∧ ((k : Int) + 1 + (m : Int) + n != (s.size : Int)) = true) ∨ ((er != 0) = false ∧ ((k : Int) + 1 + (m : Int) + n != (s.size : Int)) = false) := by
                by_cases h1 : er = 0
                · right
                  by_cases h2 : (k : Int) + 1 + (m : Int) + n = s.size
                  · right; exact ⟨by simp [h1], by simp [h2]⟩
                  · left; exact ⟨by simp [h1], by simp [h2]⟩
                · left; simp [h1]
              rcases hor with q1 | ⟨q1, q2⟩ | ⟨q1, q2⟩
              · have HN : Hid (PR = none) := HNo.out (fun h => by simp [h.1] at q1)
                clear R1
                go_wp2
                refine bodyPost_ret (v := .tuple #[.agg #[.string ⟨#[]⟩, .string ⟨#[]⟩, .slice none 0 0], .bool false]) (by simp [results, Tryz.results14, go_sem, c0, c1, c2]) rfl ?_
                rw [HN.out]
                exact ⟨_, rfl, ownP_nil _ _ _, (Below.setCell (p := ⟨w.heap.size, 2, none⟩) (Below.setCell (p := ⟨w.heap.size, 1, none⟩) (Below.setCell (p := ⟨w.heap.size, 0, none⟩) (HB2.out.trans (HB3.out.mono (by omega))) (by simp) _) (by simp) _) (by simp) _)⟩
              · have HN : Hid (PR = none) := HNo.out (fun h => by have := h.2; simp at q2; omega)
                clear R1
                go_wp2
                refine bodyPost_ret (v := .tuple #[.agg #[.string ⟨#[]⟩, .string ⟨#[]⟩, .slice none 0 0], .bool false]) (by simp [results, Tryz.results14, go_sem, c0, c1, c2]) rfl ?_
                rw [HN.out]
                exact ⟨_, rfl, ownP_nil _ _ _, (Below.setCell (p := ⟨w.heap.size, 2, none⟩) (Below.setCell (p := ⟨w.heap.size, 1, none⟩) (Below.setCell (p := ⟨w.heap.size, 0, none⟩) (HB2.out.trans (HB3.out.mono (by omega))) (by simp) _) (by simp) _) (by simp) _)⟩
              · have HN : Hid (PR = some (LA, LB, ps.map lowP)) := HYes.out ⟨by simpa using q1, by simp at q2; omega⟩
                clear HNo HYes c0 c1 c2 fc0 fc1 fc2
                have HR3 : Hid (_) := R1
                clear R1
                have hwk : IntKind.i64.wrap ((k : Int) + 1) = (k : Int) + 1 := by rw [IntKind.wrap_i64]; omega
                go_wp2_with fail
                clear HP hgez h2 h3 h1 q1 q2 ht d0 d1 hby
                go_cut [9] from 77 (fun s9 wx => Rel12 w3 LA LB s9 wx)
                case first =>
                  refine gen_frameP (fun fr hfr => ?_)
                  have fsz : fr.tmps.size = 115 := by rw [hfr]; rfl
                  have f0 : fr.tmps[0]'(by rw [fsz]; decide) = .string s := by subst hfr; rfl
                  have f4 : fr.tmps[4]'(by rw [fsz]; decide) = .int .i64 (k : Int) := by subst hfr; rfl
                  have f5 : fr.tmps[5]'(by rw [fsz]; decide) = .int .i64 ((k : Int) + 1 + (m : Int)) := by subst hfr; rfl
                  have HFR : Hid (fr = _) := hfr
                  clear hfr HN HO3 HB3 HR3 HB2 HEach
                  have hk0 : (0 : Int) ≤ (k : Int) := by omega
                  have hk1 : (k : Int) ≤ (s.size : Int) := by omega
                  have hk2 : (k : Int) + 1 ≤ (k : Int) + 1 + (m : Int) := by omega
                  have hk3 : (0 : Int) ≤ (k : Int) + 1 := by omega
                  have hkn : ((k : Int) + 1).toNat = k + 1 := by omega
                  go_region_with (first | (go_at_call 33; (with_reducible refine (HLA.out _).mono ?_); rintro e w5 ⟨rfl, hb5⟩; have s5 := hb5.size; (try (first | (have z5 : w5.heap[w3.heap.size]? = some (.cells #[.string ⟨#[]⟩, .string ⟨#[]⟩, .slice none 0 0] 40 (0, 0)) := (by first | with_reducible exact keepB hb5 (heap_alloc_new _ _) | with_reducible exact keepB hb5 (keepA (heap_alloc_new _ _)))) | (have z5 : w5.heap[w3.heap.size + 1]? = some (.cells #[.string ⟨#[]⟩, .string ⟨#[]⟩, .slice none 0 0] 40 (0, 0)) := (by first | with_reducible exact keepB hb5 (newA2 _ _ _))))); (try (first | (have e5 : w5.heap[w3.heap.size]? = some (.cells #[] 84 (0, 0)) := (by first | with_reducible exact keepB hb5 (heap_alloc_new _ _) | with_reducible exact keepB hb5 (keepA (heap_alloc_new _ _)))) | (have e5 : w5.heap[w3.heap.size + 1]? = some (.cells #[] 84 (0, 0)) := (by first | with_reducible exact keepB hb5 (newA2 _ _ _))))); (try (have cq5 := czP z5; obtain ⟨ca5, cb5, cc5, fa5, fb5, fc5⟩ := cq5)); have HB5 : Hid (Below w3.heap.size w3 w5) := bl_on (by repeat (first | exact Below.refl _ _ | refine bl_al ?_ _ | refine bl_dr ?_)) hb5; (try clear hb5)) | (go_at_call 33; (with_reducible refine (HLB.out _).mono ?_); rintro e w6 ⟨rfl, hb6⟩; have s6 := hb6.size; (try (first | (have z6 := keepB hb6 z5) | (have z6 := keepB hb6 (keepA z5)) | (have z6 := keepB hb6 (keepA (keepA z5))) | (have z6 : w6.heap[w5.heap.size]? = some (.cells #[.string ⟨#[]⟩, .string ⟨#[]⟩, .slice none 0 0] 40 (0, 0)) := (by first | with_reducible exact keepB hb6 (heap_alloc_new _ _) | with_reducible exact keepB hb6 (keepA (heap_alloc_new _ _)))) | (have z6 : w6.heap[w5.heap.size + 1]? = some (.cells #[.string ⟨#[]⟩, .string ⟨#[]⟩, .slice none 0 0] 40 (0, 0)) := (by first | with_reducible exact keepB hb6 (newA2 _ _ _))))); (try (first | (have e6 := keepB hb6 e5) | (have e6 := keepB hb6 (keepA e5)) | (have e6 := keepB hb6 (keepA (keepA e5))) | (have e6 : w6.heap[w5.heap.size]? = some (.cells #[] 84 (0, 0)) := (by first | with_reducible exact keepB hb6 (heap_alloc_new _ _) | with_reducible exact keepB hb6 (keepA (heap_alloc_new _ _)))) | (have e6 : w6.heap[w5.heap.size + 1]? = some (.cells #[] 84 (0, 0)) := (by first | with_reducible exact keepB hb6 (newA2 _ _ _))))); (try (have cq6 := czP z6; obtain ⟨ca6, cb6, cc6, fa6, fb6, fc6⟩ := cq6)); (try (have cq7 := czP (keepA (o' := .cells #[] 84) z6); obtain ⟨da6, db6, dc6, ga6, gb6, gc6⟩ := cq7)); have HB6 : Hid (Below w3.heap.size w3 w6) := bl_on (by repeat (first | exact Below.refl _ _ | exact HB5.out | refine bl_al ?_ _ | refine bl_dr ?_)) hb6; (try clear hb6)))
                  all_goals as_aux_lemma =>
                    rw [HFR.out]
                    clear f0 f4 f5 fsz HFR
                    have q5 := HB5.out.size
                    have q6 := HB6.out.size
                    go_simp
                    go_step
                    go_meet
                    first | with_reducible exact relA1 HB6.out | with_reducible exact relA2 HB6.out | with_reducible exact relB HB6.out e6 (by omega) | with_reducible exact relC HB6.out z6 e6 (by omega) (by omega) | with_reducible exact relD HB6.out z6 (by omega)
                case rest =>
                  obtain ⟨p, q, rfl, hp3, hq3, HPp, HQq, HBx⟩ := hcut
                  have HVl : Hid (∀ g, v.ownBlock = some g → g < w3.heap.size) := fun g e => ownP_lt HO3.out e
                  have HO4 : Hid (OwnP 84 w2.heap.size v ps wc) := HO3.out.below HBx.out
                  have HE4 : Hid (OwnP 84 w3.heap.size (.slice (some ⟨q, 0, none⟩) 0 0) [] wc) := ⟨by simp [encP], .inr ⟨q, 0, #[], rfl, hq3, HQq.out, by simp, by decide, by simp, by simp [encP]⟩⟩
                  have HZ4 : Hid (wc.heap[w.heap.size]? = some (.cells #[.string ⟨#[]⟩, .string ⟨#[]⟩, .slice none 0 0] 40 (0, 0))) := (HBx.out.block _ (some_lt HR3.out)).trans HR3.out
                  have HB4 : Hid (Below w.heap.size w wc) := bel_trans (bel_trans HB2.out HB3.out) HBx.out
                  have hz3 : Hid (w.heap.size < w3.heap.size) := some_lt HR3.out
                  have hz4 : Hid (w3.heap.size ≤ wc.heap.size) := HBx.out.size
                  have hpl : ps.length ≤ 134217728 := by omega
                  obtain ⟨va, vc, rfl, _⟩ := OwnP.rd HO3.out
                  clear HO3 HBx HR3 HB3 HQq HLA HLB hq3
                  go_wp2
                  go_loopw [10] (fun kv wr => ∃ (kk : Nat) (ua : Option Addr) (uc : Nat), kk ≤ ps.length ∧ kv = .int .i64 kk ∧ Hid (OwnP 84 w2.heap.size (.slice va ps.length vc) (lowK kk ps) wr) ∧ Hid (OwnP 84 w3.heap.size (.slice ua kk uc) ((ps.map lowP).take kk) wr) ∧ Hid (wr.heap[p]? = some (.cells #[.string (str LA), .string (str LB), .slice ua kk uc] 40 (0, 0))) ∧ Hid (wr.heap[w.heap.size]? = some (.cells #[.string ⟨#[]⟩, .string ⟨#[]⟩, .slice none 0 0] 40 (0, 0))) ∧ Hid (Below w.heap.size w wr) ∧ Hid (w3.heap.size ≤ wr.heap.size)) (fun kv _ => ps.length - (intOf kv).toNat)
                  case atStart => exact ⟨0, some ⟨q, 0, none⟩, 0, Nat.zero_le _, rfl, (by rw [lowK_zero]; exact HO4.out : OwnP _ _ _ _ _), HE4, HPp, HZ4, HB4, hz4⟩
                  case round =>
                    clear HO4 HE4 HPp HZ4 HB4 hz4
                    obtain ⟨kk, ua, uc, hkk, rfl, HOv, HOu, HP1, HZ1, HB1, hz1⟩ := hrel
                    by_cases hlt3 : kk < ps.length
                    · have hE := HEach.out.at kk hlt3
                      have HLw : Hid (∀ W, Calls Tryz.prog 33 #[.string (str (nth ps kk).1)] W fun e w' => e = .returned (.string (str (lower (nth ps kk).1))) ∧ Below (World.heap W).size W w') := fun W => by
                        have := rLower_any (str (nth ps kk).1) (by rw [str_size]; unfold maxLen; omega) W
                        unfold lowS at this
                        rwa [str_list] at this
                      have HLs : Hid ((lowK kk ps).set kk (lower (nth ps kk).1, (nth ps kk).2.1, (nth ps kk).2.2) = lowK (kk + 1) ps) := lowK_set kk ps hlt3
                      have HTk : Hid ((ps.map lowP).take (kk + 1) = (ps.map lowP).take kk ++ [(lower (nth ps kk).1, (nth ps kk).2.1, (nth ps kk).2.2)]) := nth_low ps kk hlt3
                      have HAt : Hid (nth (lowK kk ps) kk = nth ps kk) := lowK_at kk ps hlt3
                      have HLl : Hid ((lowK kk ps).length = ps.length) := lowK_len kk ps
                      have HNx : Hid (nth (lowK (kk + 1) ps) kk = (lower (nth ps kk).1, (nth ps kk).2.1, (nth ps kk).2.2)) := (by
                        rw [← HLs.out]
                        unfold nth
                        rw [List.getD_eq_getElem?_getD, List.getElem?_set_self (by rw [lowK_len]; exact hlt3)]
                        rfl : _ = _)
                      have hml : Hid (((ps.map lowP).take kk).length + 1 ≤ 2147483648) := (by rw [List.length_take]; omega : _ + 1 ≤ 2147483648)
                      obtain ⟨g, rfl⟩ : ∃ g, va = some ⟨g, 0, none⟩ := by
                        rcases HOv.out.2 with ⟨hv0, _⟩ | ⟨g, cap, cur, hv0, _⟩
                        · injection hv0 with _ h0 _
                          omega
                        · injection hv0 with h0 _ _
                          exact ⟨g, h0⟩
                      have HgB : Hid (g < w3.heap.size) := HVl.out g rfl
                      have HCe : Hid (∀ W, OwnP 84 w2.heap.size (.slice (some ⟨g, 0, none⟩) ps.length vc) (lowK kk ps) W → W.cell? ⟨g, kk * 3, none⟩ = some (.string (str (nth ps kk).1)) ∧ W.cell? ⟨g, kk * 3 + 1, none⟩ = some (.string (str (nth ps kk).2.1)) ∧ W.cell? ⟨g, kk * 3 + 2, none⟩ = some (.bool (nth ps kk).2.2) ∧ W.frozen? ⟨g, kk * 3, none⟩ = false ∧ ps.length ≤ vc) := fun W h => by
                        have h' := h
                        obtain ⟨a', c', e', hcs⟩ := OwnP.rd h
                        injection e' with e1 _ e2
                        rcases hcs with hn | ⟨g', o', e3, hlc, hcell⟩
                        · rw [hn] at HLl
                          have := HLl.out
                          simp at this
                          omega
                        · rw [← e1] at e3
                          injection e3 with e3
                          injection e3 with e4 e5 _
                          subst e4 e5
                          obtain ⟨d0, d1, d2⟩ := hcell kk (by rw [HLl.out]; exact hlt3)
                          rw [HAt.out, Nat.zero_add] at d0 d1 d2
                          refine ⟨d0, d1, d2, ?_, by rw [e2, ← HLl.out]; exact hlc⟩
                          rcases h'.2 with ⟨hv0, _⟩ | ⟨g2, cap, cur, hv0, _, hg, _⟩
                          · cases hv0
                          · injection hv0 with h0 _ _
                            injection h0 with h0
                            injection h0 with h0
                            subst h0
                            exact Lib.frozen_of_heap hg _
                      obtain ⟨d0, d1, d2, d3, hvc⟩ := HCe.out wr HOv.out
                      have hki3 : (kk : Int) < (ps.length : Int) := by omega
                      clear d1 d2 d3 hE
                      generalize hP : nth ps kk = P at *
                      obtain ⟨pn, pv, pb⟩ := P
                      dsimp only at *
                      clear hP
                      go_wp2_with fail
                      refine (HLw.out _).mono ?_
                      rintro e w4 ⟨rfl, hb4⟩
                      have HOv4 : Hid (OwnP 84 w2.heap.size (.slice (some ⟨g, 0, none⟩) ps.length vc) (lowK kk ps) w4) := HOv.out.below hb4
                      have HOu4 : Hid (OwnP 84 w3.heap.size (.slice ua kk uc) ((ps.map lowP).take kk) w4) := HOu.out.below hb4
                      have HP4 : Hid (w4.heap[p]? = some (.cells #[.string (str LA), .string (str LB), .slice ua kk uc] 40 (0, 0))) := keepB hb4 HP1.out
                      have HZ4 : Hid (w4.heap[w.heap.size]? = some (.cells #[.string ⟨#[]⟩, .string ⟨#[]⟩, .slice none 0 0] 40 (0, 0))) := keepB hb4 HZ1.out
                      have HB4 : Hid (Below w.heap.size w w4) := bel_trans HB1.out hb4
                      have hz4 : Hid (w3.heap.size ≤ w4.heap.size) := Nat.le_trans hz1.out hb4.size
                      obtain ⟨d0, d1, d2, d3, _⟩ := HCe.out w4 HOv4.out
                      clear hb4 HOv HOu HP1 HZ1 HB1 hz1
                      have hgl : w2.heap.size ≤ g := (World.ownsRow.lt HOv4.out g rfl).1
                      have hg3 := HgB.out
                      have HOv5 : Hid (OwnP 84 w2.heap.size (.slice (some ⟨g, 0, none⟩) ps.length vc) (lowK (kk + 1) ps) (w4.setCell ⟨g, kk * 3, none⟩ (.string (str (lower pn))))) := (by
                        have h := OwnP.setName HOv4.out kk (by rw [HLl.out]; exact hlt3) (lower pn)
                        rw [HAt.out] at h
                        rw [← HLs.out]
                        exact h : OwnP _ _ _ _ _)
                      have HOu5 : Hid (OwnP 84 w3.heap.size (.slice ua kk uc) ((ps.map lowP).take kk) (w4.setCell ⟨g, kk * 3, none⟩ (.string (str (lower pn))))) := OwnP.setOther HOu4.out (fun e => by have := (World.ownsRow.lt HOu4.out g e).1; omega) _
                      have HP5 : Hid ((w4.setCell ⟨g, kk * 3, none⟩ (.string (str (lower pn)))).heap[p]? = some (.cells #[.string (str LA), .string (str LB), .slice ua kk uc] 40 (0, 0))) := keepS HP4.out (by omega)
                      have HZ5 : Hid ((w4.setCell ⟨g, kk * 3, none⟩ (.string (str (lower pn)))).heap[w.heap.size]? = some (.cells #[.string ⟨#[]⟩, .string ⟨#[]⟩, .slice none 0 0] 40 (0, 0))) := keepS HZ4.out (by omega)
                      have HB5 : Hid (Below w.heap.size w (w4.setCell ⟨g, kk * 3, none⟩ (.string (str (lower pn))))) := HB4.out.setCell (p := ⟨g, kk * 3, none⟩) (by simp; omega) _
                      have hz5 : Hid (w3.heap.size ≤ (w4.setCell ⟨g, kk * 3, none⟩ (.string (str (lower pn)))).heap.size) := (by simp only [World.size_setCell]; exact hz4.out : _ ≤ _)
                      have HC5 : Hid ((w4.setCell ⟨g, kk * 3, none⟩ (.string (str (lower pn)))).cell? ⟨g, kk * 3, none⟩ = some (.string (str (lower pn))) ∧ (w4.setCell ⟨g, kk * 3, none⟩ (.string (str (lower pn)))).cell? ⟨g, kk * 3 + 1, none⟩ = some (.string (str pv)) ∧ (w4.setCell ⟨g, kk * 3, none⟩ (.string (str (lower pn)))).cell? ⟨g, kk * 3 + 2, none⟩ = some (.bool pb)) := (by
                        have h := HOv5.out
                        obtain ⟨a', c', e', hcs⟩ := OwnP.rd h
                        injection e' with e1 _ e2
                        rcases hcs with hn | ⟨g', o', e3, hlc, hcell⟩
                        · have hl1 := lowK_len (kk + 1) ps
                          rw [hn] at hl1
                          simp at hl1
                          omega
                        · rw [← e1] at e3
                          injection e3 with e3
                          injection e3 with e4 e5 _
                          subst e4 e5
                          have := hcell kk (by rw [lowK_len]; exact hlt3)
                          rw [HNx.out, Nat.zero_add] at this
                          exact this : _ ∧ _ ∧ _)
                      clear d1 d2
                      go_wp2_with fail
                      clear d0 d3 HOv4 HOu4 HP4 HZ4 HB4 hz4
                      generalize w4.setCell ⟨g, kk * 3, none⟩ (.string (str (lower pn))) = w5 at *
                      obtain ⟨d0, d1, d2⟩ := HC5.out
                      obtain ⟨_, _, x2, _, _, fx2⟩ := czP HP5.out
                      have HB5d : Hid (Below w5.heap.size w5 w5.drew) := (Below.refl _ _).drew
                      generalize hln : str (lower pn) = LN at *
                      generalize hvn : str pv = VN at *
                      have x2a : (w5.alloc (.cells #[.string LN, .string VN, .bool pb] 84)).cell? ⟨p, 2, none⟩ = some (.slice ua kk uc) := (czP (keepA HP5.out)).2.2.1
                      go_region_law (refine step_appP3 84 38 infoP2 Tryz.underlying38 rfl (.tmp 106) (.tmp 111) rfl w3.heap.size (.slice ua kk uc) ((ps.map lowP).take kk) _ (lower pn, pv, pb) _ _ hln.symm hvn.symm _ rfl (by simp [Act.eval, Act.put]) (HOu5.out.below HB5d.out) _ (by simp [Act.eval, Act.put]) rfl hml.out hz5.out ?_; intro v7 w7 hown7 hb7 hkeep; have HP7 : Hid (w7.heap[p]? = some (.cells #[.string (str LA), .string (str LB), .slice ua kk uc] 40 (0, 0))) := (hkeep p (some_lt HP5.out) (OwnP.notBlk HOu5.out HP5.out (by decide))).trans HP5.out; obtain ⟨_, _, y2, _, _, fy2⟩ := czP HP7.out; obtain ⟨u7, c7, e7, _⟩ := OwnP.rd hown7; rw [List.length_append, List.length_take, List.length_map, Nat.min_eq_left (Nat.le_of_lt hlt3)] at e7; subst e7)
                      all_goals
                        have HOv7 : Hid (OwnP 84 w2.heap.size (.slice (some ⟨g, 0, none⟩) ps.length vc) (lowK (kk + 1) ps) w7) := keepV (HOv5.out.below HB5d.out) HVl.out hb7
                        have HOu7 : Hid (OwnP 84 w3.heap.size (.slice u7 (kk + 1) c7) ((ps.map lowP).take (kk + 1)) w7) := (by rw [HTk.out]; exact hown7 : OwnP _ _ _ _ _)
                        have HZ7 : Hid (w7.heap[w.heap.size]? = some (.cells #[.string ⟨#[]⟩, .string ⟨#[]⟩, .slice none 0 0] 40 (0, 0))) := (hb7.block _ hz3.out).trans HZ5.out
                        have HB7 : Hid (Below w.heap.size w w7) := (bel_trans HB5.out HB5d.out).trans (hb7.mono (Nat.le_of_lt hz3.out))
                        have hz7 : Hid (w3.heap.size ≤ w7.heap.size) := Nat.le_trans hz5.out hb7.size
                        have hpz : Hid (w.heap.size < p) := Nat.lt_of_lt_of_le hz3.out hp3
                        clear hown7 hb7 hkeep y2 fy2 x2 fx2 x2a d0 d1 d2
                        go_wp2
                        go_roundw
                        case rel =>
                          refine ⟨kk + 1, u7, c7, by omega, by go_num, ?_, ?_, ?_, ?_, ?_, ?_⟩
                          · exact OwnP.setOther HOv7.out (fun e => by have e' : g = p := (by simpa [Value.ownBlock] using e); omega) _
                          · exact OwnP.setOther HOu7.out (OwnP.notBlk HOu7.out HP7.out (by decide)) _
                          · exact heap_setCell_same w7 p 2 _ _ _ HP7.out
                          · exact keepS HZ7.out (by have := hpz.out; omega)
                          · exact HB7.out.setCell (p := ⟨p, 2, none⟩) (Nat.le_of_lt hpz.out) _
                          · show _ ≤ _
                            simp only [World.size_setCell]
                            exact hz7.out
                        case measure => simp [intOf]; omega
                    · obtain rfl : kk = ps.length := by omega
                      have e0 := Lib.cell_of_heap HP1.out 0
                      have e1 := Lib.cell_of_heap HP1.out 1
                      have e2 := Lib.cell_of_heap HP1.out 2
                      have y0 := Lib.cell_of_heap HZ1.out 0
                      have y1 := Lib.cell_of_heap HZ1.out 1
                      have y2 := Lib.cell_of_heap HZ1.out 2
                      have fy0 := Lib.frozen_of_heap HZ1.out 0
                      have fy1 := Lib.frozen_of_heap HZ1.out 1
                      have fy2 := Lib.frozen_of_heap HZ1.out 2
                      simp only [List.getElem?_toArray, List.getElem?_cons_zero, List.getElem?_cons_succ] at e0 e1 e2 y0 y1 y2
                      have hS := set3P (a := .string (str LA)) (b := .string (str LB)) (c := .slice ua ps.length uc) HZ1.out
                      obtain ⟨s0, s1, s2, _⟩ := czP hS
                      have HS : Hid (_ ∧ _ ∧ _) := ⟨s0, s1, s2⟩
                      clear hS s0 s1 s2
                      go_wp2
                      refine bodyPost_ret (v := .tuple #[.agg #[.string (str LA), .string (str LB), .slice ua ps.length uc], .bool true]) (by simp [results, Tryz.results14, go_sem, HS.out.1, HS.out.2.1, HS.out.2.2]) rfl ?_
                      rw [HN.out]
                      have HU := HOu.out
                      rw [List.take_of_length_le (by simp)] at HU
                      refine ⟨_, rfl, ?_, (Below.setCell (p := ⟨w.heap.size, 2, none⟩) (Below.setCell (p := ⟨w.heap.size, 1, none⟩) (Below.setCell (p := ⟨w.heap.size, 0, none⟩) HB1.out (by simp) _) (by simp) _) (by simp) _)⟩
                      exact OwnP.mono (OwnP.setBelow (a := ⟨w.heap.size, 2, none⟩) (OwnP.setBelow (a := ⟨w.heap.size, 1, none⟩) (OwnP.setBelow (a := ⟨w.heap.size, 0, none⟩) HU (by have := hz3.out; simp; omega) _) (by have := hz3.out; simp; omega) _) (by have := hz3.out; simp; omega) _) (Nat.le_of_lt hz3.out)
          · have HN : Hid (PR = none) := PN.out (fun h => hgood ⟨h.1, h.2.2.1, h.2.2.2⟩)
            have R1 := HR1.out
            have c0 := Lib.cell_of_heap R1 0
            have c1 := Lib.cell_of_heap R1 1
            have c2 := Lib.cell_of_heap R1 2
            have fc0 := Lib.frozen_of_heap R1 0
            have fc1 := Lib.frozen_of_heap R1 1
            have fc2 := Lib.frozen_of_heap R1 2
            simp at c0 c1 c2
            clear R1
            have hgez : decide ((s.size : Int) ≤ (k : Int)) = false := decide_eq_false (by omega)
            have hbad : ((k : Int) == 0) = true ∨ (((k : Int) == 0) = false ∧ (byt s k != 47) = true) ∨ (((k : Int) == 0) = false ∧ (byt s k != 47) = false ∧ ((k : Int) + 1 + (m : Int) == (k : Int) + 1) = true) := by
              by_cases h1 : k = 0
              · left; subst h1; rfl
              · right
                by_cases h2 : byt s k = 47
                · right; exact ⟨by simp [h1], by simp [h2], by simp; omega⟩
                · left; exact ⟨by simp [h1], by simp [h2]⟩
            rcases hbad with h1 | ⟨h1, h2⟩ | ⟨h1, h2, h3⟩
            all_goals
              go_wp2
              refine bodyPost_ret (v := .tuple #[.agg #[.string ⟨#[]⟩, .string ⟨#[]⟩, .slice none 0 0], .bool false]) (by simp [results, Tryz.results14, go_sem, c0, c1, c2]) rfl ?_
              rw [HN.out]
              exact ⟨_, rfl, ownP_nil _ _ _, (Below.setCell (p := ⟨w.heap.size, 2, none⟩) (Below.setCell (p := ⟨w.heap.size, 1, none⟩) (Below.setCell (p := ⟨w.heap.size, 0, none⟩) HB2.out (by simp) _) (by simp) _) (by simp) _)⟩
      · have HN : Hid (PR = none) := PN.out (fun h => hIs h.2.1)
        have hge : ¬ ((k : Int) < (s.size : Int)) := by omega
        have hge2 : ¬ ((k : Int) + 1 < (s.size : Int)) := by omega
        go_wp2
        go_loopw [5] (fun jv wr => jv = .int .i64 ((k : Int) + 1) ∧ w2 = wr) (fun jv _ => 0)
        case atStart => exact ⟨rfl, rfl⟩
        case round =>
          obtain ⟨rfl, rfl⟩ := hrel
          have hgez : decide ((s.size : Int) ≤ (k : Int)) = true := decide_eq_true (by omega)
          have R1 := HR1.out
          have c0 := Lib.cell_of_heap R1 0
          have c1 := Lib.cell_of_heap R1 1
          have c2 := Lib.cell_of_heap R1 2
          have fc0 := Lib.frozen_of_heap R1 0
          have fc1 := Lib.frozen_of_heap R1 1
          have fc2 := Lib.frozen_of_heap R1 2
          simp at c0 c1 c2
          clear R1
          cases hk0 : ((k : Int) == 0)
          all_goals
           go_wp2
           refine bodyPost_ret (v := .tuple #[.agg #[.string ⟨#[]⟩, .string ⟨#[]⟩, .slice none 0 0], .bool false]) (by simp [results, Tryz.results14, go_sem, c0, c1, c2]) rfl ?_
           rw [HN.out]
           exact ⟨_, rfl, ownP_nil _ _ _, (Below.setCell (p := ⟨w.heap.size, 2, none⟩) (Below.setCell (p := ⟨w.heap.size, 1, none⟩) (Below.setCell (p := ⟨w.heap.size, 0, none⟩) HB2.out (by simp) _) (by simp) _) (by simp) _)⟩

end Ac
end Go.Proofs.YthfckgdaencagaaGreatDoor
