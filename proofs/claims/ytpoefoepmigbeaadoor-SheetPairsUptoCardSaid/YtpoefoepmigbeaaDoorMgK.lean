/- Several texts as one. -/
import Derived.Test.YtpoefoepmigbeaaDoorMgI
import Derived.Test.YtpoefoepmigbeaaDoorMgJ
import Derived.Test.YtpoefoepmigbeaaDoorMgB
import Derived.Test.YtpoefoepmigbeaaDoorMgF
/-
  Slices of parameters: of the call's own, read; the law's own 'pairs'.
-/
set_option linter.unusedVariables false
set_option linter.unusedSimpArgs false
namespace Go.Proofs.YtpoefoepmigbeaaDoor
open Go.RowKit Go.Shelf
namespace Tg
open Oc

abbrev Prm := List UInt8 × List UInt8 × Bool
def encQ1 (p : Prm) : List Value := [.string (str p.1), .string (str p.2.1), .bool p.2.2]
def encQ (ps : List Prm) : List Value := ps.flatMap encQ1
theorem encQ_snoc (ps : List Prm) (p : Prm) : encQ (ps ++ [p]) = encQ ps ++ encQ1 p := by unfold encQ; rw [List.flatMap_append]; simp
theorem encQ_len : ∀ ps : List Prm, (encQ ps).length = ps.length * 3
  | [] => rfl
  | p :: ps => by
    have := encQ_len ps
    unfold encQ at *
    rw [List.flatMap_cons, List.length_append, this, List.length_cons]
    show 3 + _ = _
    omega
/-- A slice of parameters (of the type T) of the call's own. -/
def OwnQ (T B : Nat) (v : Value) (ps : List Prm) (w : World) : Prop := w.ownsRow B T 3 v ps.length (encQ ps)
theorem ownQ_nil (T B : Nat) (w : World) : OwnQ T B (.slice none 0 0) [] w := World.ownsRow_nil w B T 3
theorem ownQ_empty {B : Nat} (T : Nat) (w : World) (hB : B ≤ w.heap.size) : OwnQ T B (.slice (some ⟨w.heap.size, 0, none⟩) 0 0) [] (w.alloc (.cells #[] T)) :=
  ⟨by simp [encQ], .inr ⟨w.heap.size, 0, #[], rfl, hB, heap_alloc_new w _, by simp, by decide, by simp, by simp [encQ]⟩⟩
theorem OwnQ.below {T B : Nat} {v : Value} {t : List Prm} {w w' : World} (h : OwnQ T B v t w) (b : Below w.heap.size w w') : OwnQ T B v t w' := by
  refine ⟨h.1, ?_⟩
  rcases h.2 with hn | ⟨g, cap, cur, rfl, hb, hg, rest⟩
  · exact .inl hn
  · refine .inr ⟨g, cap, cur, rfl, hb, ?_, rest⟩
    have hlt : g < w.heap.size := by
      rcases Nat.lt_or_ge g w.heap.size with h | h
      · exact h
      · simp [Array.getElem?_eq_none h] at hg
    rw [b.block g hlt]
    exact hg

/-- A parameter appended to a slice of the call's own. -/
theorem wp_appQ {ops : Array Oper} {rest : List Oper} {o : Oper} {a : Act} {Q : Exit → Act → World → Prop} (T S : Nat) (hinfo : (Tryd.prog.info? T).map (fun i => (i.zero, i.size, i.bytes)) = some (some (.agg #[.string ⟨#[]⟩, .string ⟨#[]⟩, .bool false]), 3, 40))
    (hund : Tryd.prog.underlying S = some (.slice T)) (hgd : o.guard = none) (s x : Operand)
    (ho : o.op = .call { callee := .builtin .append, args := #[s, x], argTypes := #[S, S] }) (B : Nat) (v : Value) (t : List Prm) (W : World) (p : Prm) (n1 n2 : ByteArray) (h1 : n1 = str p.1) (h2 : n2 = str p.2.1) (b : Bool) (h3 : b = p.2.2)
    (hs : a.eval s = v) (hown : OwnQ T B v t W) (g : Nat) (hx : a.eval x = .slice (some ⟨g, 0, none⟩) 1 1) (hg : g = W.heap.size) (hlen : t.length + 1 ≤ 2147483648) (hB : B ≤ W.heap.size)
    (h : ∀ v' w', OwnQ T B v' (t ++ [p]) w' → Below B W w' → wpList Tryd.prog ops Q rest (a.put o.dst v') w') : wpList Tryd.prog ops Q (o :: rest) a (W.alloc (.cells #[.string n1, .string n2, .bool b] T)) := by
  subst h1 h2 h3 hg
  obtain ⟨i0, hi, hz0, hz1, hz2⟩ := info_parts hinfo
  refine wpList_append_own _ hgd s x S ho B T i0 (.agg #[.string ⟨#[]⟩, .string ⟨#[]⟩, .bool false]) 3 40 hund hi hz0 hz1 hz2 rfl (by decide) v t.length _ hs (World.ownsRow.alloc hown _) ⟨W.heap.size, 0, none⟩ 1 1 (encQ1 p) hx rfl ?_ ?_ ?_ ?_ ?_ ?_
  · intro j u hj
    unfold encQ1 at hj
    match j, hj with
    | 0, hj => simp at hj; subst hj; simp [Addr.add]
    | 1, hj => simp at hj; subst hj; simp [Addr.add]
    | 2, hj => simp at hj; subst hj; simp [Addr.add]
  · intro u hu
    unfold encQ1 at hu
    simp at hu
    rcases hu with rfl | rfl | rfl <;> rfl
  · unfold maxLen; omega
  · omega
  · simp; omega
  · intro v' w' h1 h2 _
    refine h v' w' ?_ (((Below.refl B W).alloc hB _).grown h2 (by simp; omega) (fun k hk => (World.ownsRow.lt hown k hk).1))
    unfold OwnQ
    rw [encQ_snoc, List.length_append]
    exact h1

theorem infoQ : (Tryd.prog.info? 45).map (fun i => (i.zero, i.size, i.bytes)) = some (some (.agg #[.string ⟨#[]⟩, .string ⟨#[]⟩, .bool false]), 3, 40) := by kernel_rfl

def nth (t : List Prm) (j : Nat) : Prm := t.getD j ([], [], false)
/-- A slice that reads as these parameters. -/
def RdQ (v : Value) (t : List Prm) (w : World) : Prop :=
  ∃ a c, v = .slice a t.length c ∧ (t = [] ∨ ∃ g o, a = some ⟨g, o, none⟩ ∧ t.length ≤ c ∧ ∀ j, j < t.length → w.cell? ⟨g, o + j * 3, none⟩ = some (.string (str (nth t j).1)) ∧ w.cell? ⟨g, o + j * 3 + 1, none⟩ = some (.string (str (nth t j).2.1)) ∧ w.cell? ⟨g, o + j * 3 + 2, none⟩ = some (.bool (nth t j).2.2))
theorem encQ_at : ∀ (t : List Prm) (j : Nat), j < t.length → (encQ t)[j * 3]? = some (.string (str (nth t j).1)) ∧ (encQ t)[j * 3 + 1]? = some (.string (str (nth t j).2.1)) ∧ (encQ t)[j * 3 + 2]? = some (.bool (nth t j).2.2)
  | [], j, h => by simp at h
  | p :: t, 0, _ => ⟨rfl, rfl, rfl⟩
  | p :: t, j + 1, h => by
    have ih := encQ_at t j (by simpa using h)
    have e : encQ (p :: t) = [.string (str p.1), .string (str p.2.1), .bool p.2.2] ++ encQ t := rfl
    rw [e]
    have n : nth (p :: t) (j + 1) = nth t j := by unfold nth; simp
    rw [n, show (j + 1) * 3 = j * 3 + 3 by omega, show j * 3 + 3 + 1 = (j * 3 + 1) + 3 by omega, show j * 3 + 3 + 2 = (j * 3 + 2) + 3 by omega]
    exact ih
theorem OwnQ.rd {T B : Nat} {v : Value} {t : List Prm} {w : World} (h : OwnQ T B v t w) : RdQ v t w := by
  have hall := h
  rcases h.2 with ⟨rfl, h0⟩ | ⟨g, cap, cur, rfl, _, hg, hn, _⟩
  · exact ⟨none, 0, by rw [h0], .inl (List.length_eq_zero_iff.1 h0)⟩
  · refine ⟨_, _, rfl, .inr ⟨g, 0, rfl, by omega, fun j hj => ?_⟩⟩
    obtain ⟨e0, e1, e2⟩ := encQ_at t j hj
    have ea : ∀ k, Addr.add ⟨g, 0, none⟩ k = ⟨g, 0 + k, none⟩ := fun k => by unfold Addr.add; split <;> simp_all
    have c0 := World.ownsRow.cells hall (g := g) rfl _ _ e0
    have c1 := World.ownsRow.cells hall (g := g) rfl _ _ e1
    have c2 := World.ownsRow.cells hall (g := g) rfl _ _ e2
    rw [ea] at c0 c1 c2
    exact ⟨c0, c1, c2⟩
theorem RdQ.below {v : Value} {t : List Prm} {w w' : World} (h : RdQ v t w) (b : Below w.heap.size w w') : RdQ v t w' := by
  obtain ⟨a, c, rfl, h⟩ := h
  refine ⟨a, c, rfl, ?_⟩
  rcases h with h | ⟨g, o, e, hc, hcell⟩
  · exact .inl h
  · refine .inr ⟨g, o, e, hc, fun j hj => ?_⟩
    obtain ⟨h1, h2, h3⟩ := hcell j hj
    rw [b.cell (p := ⟨g, o + j * 3, none⟩) (World.block_lt_of_cell? w _ h1), b.cell (p := ⟨g, o + j * 3 + 1, none⟩) (World.block_lt_of_cell? w _ h2), b.cell (p := ⟨g, o + j * 3 + 2, none⟩) (World.block_lt_of_cell? w _ h3)]
    exact ⟨h1, h2, h3⟩


theorem infoQ2 : (Tryd.prog.info? 46).map (fun i => (i.zero, i.size, i.bytes)) = some (some (.agg #[.string ⟨#[]⟩, .string ⟨#[]⟩, .bool false]), 3, 40) := by kernel_rfl

end Tg
end Go.Proofs.YtpoefoepmigbeaaDoor

/-
  The document's spaced, Pairs, Query.
-/
set_option linter.unusedVariables false
set_option linter.unusedSimpArgs false
namespace Go.Proofs.YtpoefoepmigbeaaDoor
open Go.RowKit Go.Shelf
namespace Tg
open Oc

def spI (x : Int) : Int := if x = 43 then 32 else x
theorem sp_getD (l : List UInt8) (j : Nat) (hj : j < l.length) : (((l.map sp).getD j 0).toNat : Int) = spI ((l.getD j 0).toNat : Int) := by
  rw [List.getD_eq_getElem?_getD, List.getElem?_map, List.getElem?_eq_getElem hj, List.getD_eq_getElem?_getD, List.getElem?_eq_getElem hj]
  show ((sp l[j]).toNat : Int) = spI (l[j].toNat : Int)
  unfold sp spI
  by_cases h : l[j] = 43
  · rw [if_pos h, if_pos (by rw [h]; rfl)]; rfl
  · rw [if_neg h, if_neg (fun e => h (UInt8.toNat_inj.1 (by show _ = 43; omega)))]

set_option maxRecDepth 100000 in
set_option maxHeartbeats 1000000 in
theorem rspaced_any (s : ByteArray) (hs : s.size ≤ 4000000000) (w : World) :
    Calls Tryd.prog 36 #[.string s] w fun e w' => e = .returned (.string (str (spd s.data.toList))) ∧ Below w.heap.size w w' := by
  have hcv := fun w => Lib.run_convert_string_bytes (P := Tryd.prog) w 9 48 5 s Tryd.underlying9 Tryd.underlying48 Tryd.underlying5
  have hb := below_bytes w 5 s
  have hr := bytes_row w 5 s
  have HD : Hid (∀ w, _) := fun w => rDecode_any (str (s.data.toList.map sp)) (by rw [str_size, List.length_map, size_list]; omega) w
  rw [str_list] at HD
  unfold spd
  generalize decR (s.data.toList.map sp) = D at *
  obtain ⟨D1, D2, D3⟩ := D
  dsimp only at HD ⊢
  go_enter Tryd.func36, Tryd.ntmps36
  go_wp2
  go_loopw [4] (fun i wr => ∃ k : Nat, k ≤ s.size ∧ i = .int .i64 k ∧ Hid (Row wr w.heap.size s.size (fun j => if j < k then spI (byt s j) else byt s j)) ∧ Hid (Below w.heap.size w wr)) (fun i _ => s.size - (intOf i).toNat)
  case atStart => exact ⟨0, Nat.zero_le _, rfl, (by simpa using hr : Row _ _ _ _), hb⟩
  case round =>
    obtain ⟨k, hk, rfl, hrow, hbel⟩ := hrel
    clear hr hb hcv
    by_cases hlt : k < s.size
    · have hck : wr.cell? ⟨w.heap.size, k, none⟩ = some (.int .u8 (byt s k)) := by
        have := hrow.out.cell k hlt
        rwa [if_neg (by omega)] at this
      have hfk := hrow.out.free k hlt
      obtain ⟨b0, b1⟩ := byt_bd s k
      have HN : Hid (∀ j, j < s.size → (if j < k + 1 then spI (byt s j) else byt s j) = if j = k then spI (byt s k) else if j < k then spI (byt s j) else byt s j) := by
        intro j hj
        by_cases hjk : j = k
        · subst hjk; rw [if_pos (by omega), if_pos rfl]
        · rw [if_neg hjk]
          by_cases h2 : j < k
          · rw [if_pos (by omega), if_pos h2]
          · rw [if_neg (by omega), if_neg h2]
      by_cases hup : byt s k = 43
      · have E1 : Hid (spI (byt s k) = 32) := (by unfold spI; rw [if_pos hup] : spI (byt s k) = 32)
        have hq : (byt s k == 43) = true := by simp [hup]
        clear hup
        go_wp2
        go_roundw
        case rel => exact ⟨k + 1, by omega, by go_num, hrow.out.set k hlt _ _ (by rw [← E1.out]; exact HN.out), hbel.out.setCell (Nat.le_refl _) _⟩
        case measure => simp [intOf]; omega
      · have E1 : Hid (spI (byt s k) = byt s k) := (by unfold spI; rw [if_neg hup] : spI (byt s k) = byt s k)
        have hq : (byt s k == 43) = false := by simp [hup]
        have hsame : Hid (Row wr w.heap.size s.size (fun j => if j < k + 1 then spI (byt s j) else byt s j)) := by
          refine ⟨fun j hj => ?_, hrow.out.free⟩
          rw [hrow.out.cell j hj, HN.out j hj]
          by_cases hjk : j = k
          · subst hjk; rw [if_neg (by omega), if_pos rfl, E1.out]
          · rw [if_neg hjk]
        clear hup
        go_wp2
        go_roundw
        case rel => exact ⟨k + 1, by omega, by go_num, hsame.out, hbel.out⟩
        case measure => simp [intOf]; omega
    · have hbk := back wr w.heap.size s.size (grownCap w s.size 0 5) _ (s.data.toList.map sp) hrow.out (by simp) (fun j hj => by rw [if_pos (by omega), sp_getD _ _ (by rw [size_list]; exact hj)]; rfl)
      generalize str (s.data.toList.map sp) = R at *
      go_wp2_with fail
      refine (HD.out _).mono ?_
      rintro e w2 ⟨rfl, hb2⟩
      go_wp2
      go_ret
      exact ⟨rfl, hbel.out.trans (hb2.mono hbel.out.size)⟩

end Tg
end Go.Proofs.YtpoefoepmigbeaaDoor

/-
  target: isPath, segmentsOf, Segments.
-/
set_option linter.unusedVariables false
set_option linter.unusedSimpArgs false
namespace Go.Proofs.YtpoefoepmigbeaaDoor
open Go.RowKit Go.Shelf
attribute [local go_sem] Oper.semAt_some
namespace Tg
open Oc

theorem pre47 (l : List UInt8) : Lib.hasPrefix l [47] = (l.head? == some 47) := by
  unfold Lib.hasPrefix
  cases l with
  | nil => rfl
  | cons c t =>
    by_cases h : c = 47
    · subst h; simp [List.isPrefixOf]
    · have h2 : ¬ 47 = c := fun e => h e.symm
      rw [List.isPrefixOf, List.head?_cons, show ((47 : UInt8) == c) = false from by simpa using h2, Bool.false_and]
      symm
      simpa using h

set_option maxRecDepth 100000 in
set_option maxHeartbeats 1000000 in
theorem pieces_any (s p : ByteArray) (w : World) : Calls Tryd.prog 28 #[.string s, .string p] w fun e w' => e = .returned (.func (.func 45) #[] #[.pointer (some ⟨w.heap.size, 0, none⟩), .pointer (some ⟨w.heap.size + 1, 0, none⟩)]) ∧ w' = (w.alloc (.cells #[.string s] 9)).alloc (.cells #[.string p] 9) := by
  go_enter Tryd.func28, Tryd.ntmps28
  go_wp2
  go_ret
  exact ⟨rfl, rfl⟩

theorem pieces_stops (n : Nat) (Bs Bp : Nat) (b : UInt8) (s : ByteArray) (hs : s.size ≤ 4000000000) (w : World) (hm : ML w) (hc : w.cell? ⟨Bs, 0, none⟩ = some (.string s)) (hp : w.cell? ⟨Bp, 0, none⟩ = some (.string ⟨#[b]⟩)) :
    SeqStopsK Fence.wide n Tryd.prog 45 #[.pointer (some ⟨Bs, 0, none⟩), .pointer (some ⟨Bp, 0, none⟩)] (encP (M := s.size)) (Keep3 Bs Bp 0) (fun ys => ys.map Pz.z = splitB b s.data.toList)
      (fun pre => ∃ rest, pre.map Pz.z ++ rest = splitB b s.data.toList) (s.size + 1) w := fun l J Jx W hW hJ _ hY h0 =>
  pieces1_in n l Bs Bp b s hs J Jx (fun pre A B h hb => hJ _ _ _ _ h (grown_of_below hb) (fun r e => by cases e)) hY W (hm.below hW) ((hW.cell (p := ⟨Bs, 0, none⟩) (cell_lt hc)).trans hc) ((hW.cell (p := ⟨Bp, 0, none⟩) (cell_lt hp)).trans hp) h0

theorem OwnRow.below {B : Nat} {e : TypeId} {v : Value} {n : Nat} {xs : List Value} {w w' : World} (h : w.ownsRow B e 1 v n xs) (hb : Below w.heap.size w w') : w'.ownsRow B e 1 v n xs :=
  ⟨h.1, h.2.imp id fun ⟨g, c, cur, e, hg, hh, r⟩ => ⟨g, c, cur, e, hg, (hb.block g (Array.getElem?_eq_some_iff.1 hh).1).trans hh, r⟩⟩
theorem cell_one_new (W : World) (v : Value) (t : TypeId) : ∀ (j : Nat) (u : Value), [v][j]? = some u → (W.alloc (.cells #[v] t)).cell? ((⟨W.heap.size, 0, none⟩ : Addr).add j) = some u := by
  intro j u hj
  match j, hj with
  | 0, hj => simp at hj; subst hj; simp [Addr.add]
def decT (z : List UInt8) : List UInt8 := (decR z).1
theorem decT_len (z : List UInt8) : (decT z).length ≤ z.length := by
  unfold decT decR
  split
  · simp
  · dsimp only
    have := sg_len 0 z
    rw [vals_len]
    exact this

end Tg
end Go.Proofs.YtpoefoepmigbeaaDoor
