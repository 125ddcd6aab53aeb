/-
  The law's own 'known'.
-/
import Derived.Test.YtpnijigjlhfklaaGreatDoorGPa
import Derived.Deep.RegionLaw
import Derived.Laws.AppendOwnNone
set_option linter.unusedVariables false
set_option linter.unusedSimpArgs false
namespace Go.Proofs.YtpnijigjlhfklaaGreatDoor
open Go.RowKit Go.Shelf
namespace Tg
open Oc

theorem step_appQ {ops : Array Oper} {o : Oper} {a : Act} {K : Act → World → Prop} {Q : Exit → Act → World → Prop} {E : Prop} (T S : Nat) (hinfo : (Tryz.prog.info? T).map (fun i => (i.zero, i.size, i.bytes)) = some (some (.agg #[.string ⟨#[]⟩, .string ⟨#[]⟩, .bool false]), 3, 40))
    (hund : Tryz.prog.underlying S = some (.slice T)) (hgd : o.guard = none) (s x : Operand)
    (ho : o.op = .call { callee := .builtin .append, args := #[s, x], argTypes := #[S, S] }) (B : Nat) (v : Value) (t : List Prm) (W : World) (p : Prm) (n1 n2 : ByteArray) (h1 : n1 = str p.1) (h2 : n2 = str p.2.1) (b : Bool) (h3 : b = p.2.2)
    (hs : a.eval s = v) (hown : OwnQ T B v t W) (g : Nat) (hx : a.eval x = .slice (some ⟨g, 0, none⟩) 1 1) (hg : g = W.heap.size) (hlen : t.length + 1 ≤ 2147483648) (hB : B ≤ W.heap.size)
    (h : ∀ v' w', OwnQ T B v' (t ++ [p]) w' → Below B W w' → K (a.put o.dst v') w') : if Region.wanted o (yielded ops a.tmps) = true then Oper.wp Tryz.prog o a (W.alloc (.cells #[.string n1, .string n2, .bool b] T)) K Q else E := by
  subst h1 h2 h3 hg
  have hw : Region.wanted o (yielded ops a.tmps) = true := by simp [Region.wanted, hgd]
  rw [if_pos hw]
  obtain ⟨i0, hi, hz0, hz1, hz2⟩ := info_parts hinfo
  refine wp_append_own _ s x S ho B T i0 (.agg #[.string ⟨#[]⟩, .string ⟨#[]⟩, .bool false]) 3 40 hund hi hz0 hz1 hz2 rfl (by decide) v t.length _ hs (World.ownsRow.alloc hown _) ⟨W.heap.size, 0, none⟩ 1 1 (encQ1 p) hx rfl ?_ ?_ ?_ ?_ ?_ ?_
  · intro j u hj
    unfold encQ1 at hj
    match j, hj with
    | 0, hj => simp at hj; subst hj; simp [Addr.add]
    | 1, hj => simp at hj; subst hj; simp [Addr.add]
    | 2, hj => simp at hj; subst hj; simp [Addr.add]
  · intro u hu
    unfold encQ1 at hu
    simp at hu
    rcases hu with rfl | rfl | rfl <;> rfl
  · unfold maxLen; omega
  · omega
  · simp; omega
  · intro v' w' h1 h2 _
    refine h v' w' ?_ (((Below.refl B W).alloc hB _).grown h2 (by simp; omega) (fun k hk => (World.ownsRow.lt hown k hk).1))
    unfold OwnQ
    rw [encQ_snoc, List.length_append]
    exact h1

theorem take_nthQ (t : List Prm) (k : Nat) (h : k < t.length) : t.take (k + 1) = t.take k ++ [nth t k] := by
  unfold nth
  rw [List.take_add_one, List.getElem?_eq_getElem h, List.getD_eq_getElem?_getD, List.getElem?_eq_getElem h]; rfl

set_option maxRecDepth 100000 in
set_option maxHeartbeats 4000000 in
theorem known_any (v : Value) (t : List Prm) (w : World) (h : RdQ v t w) (hl : t.length ≤ 16777216) :
    Calls Tryz.prog 10 #[v] w fun e w' => ∃ u, e = .returned u ∧ OwnQ 65 w.heap.size u t w' ∧ Below w.heap.size w w' := by
  obtain ⟨a, c, rfl, h⟩ := h
  have HR : Hid (t = [] ∨ ∃ g o, a = some ⟨g, o, none⟩ ∧ t.length ≤ c ∧ ∀ j, j < t.length → w.cell? ⟨g, o + j * 3, none⟩ = some (.string (str (nth t j).1)) ∧ w.cell? ⟨g, o + j * 3 + 1, none⟩ = some (.string (str (nth t j).2.1)) ∧ w.cell? ⟨g, o + j * 3 + 2, none⟩ = some (.bool (nth t j).2.2)) := h
  clear h
  go_enter Tryz.func10, Tryz.ntmps10
  go_wp2
  go_loopw [3, 4] (fun ov i wr => ∃ k : Nat, k ≤ t.length ∧ i = .int .i64 k ∧ Hid (OwnQ 65 w.heap.size ov (t.take k) wr) ∧ Hid (Below w.heap.size w wr)) (fun _ i _ => t.length - (intOf i).toNat)
  case atStart => exact ⟨0, Nat.zero_le _, rfl, ownQ_empty _ w (Nat.le_refl _), (Below.refl _ w).alloc (Nat.le_refl _) _⟩
  case round =>
    obtain ⟨k, hk, rfl, hown, hbl⟩ := hrel
    have hsz := hbl.out.size
    by_cases hlt : k < t.length
    · rcases HR.out with h | ⟨g, o, rfl, hc, hcell⟩
      · rw [h] at hlt; simp at hlt
      obtain ⟨c0, c1, c2⟩ := hcell k hlt
      have hg : g < w.heap.size := World.block_lt_of_cell? w _ c0
      have d0 : wr.cell? ⟨g, o + k * 3, none⟩ = some (.string (str (nth t k).1)) := (hbl.out.cell (p := ⟨g, o + k * 3, none⟩) hg).trans c0
      have d1 : wr.cell? ⟨g, o + k * 3 + 1, none⟩ = some (.string (str (nth t k).2.1)) := (hbl.out.cell (p := ⟨g, o + k * 3 + 1, none⟩) hg).trans c1
      have d2 : wr.cell? ⟨g, o + k * 3 + 2, none⟩ = some (.bool (nth t k).2.2) := (hbl.out.cell (p := ⟨g, o + k * 3 + 2, none⟩) hg).trans c2
      clear hcell c0 c1 c2
      have HTk : Hid (t.take (k + 1) = t.take k ++ [nth t k]) := take_nthQ t k hlt
      have hlk : (t.take k).length + 1 ≤ 2147483648 := by rw [List.length_take]; omega
      generalize nth t k = p at *
      obtain ⟨pn, pv, pb⟩ := p
      dsimp only at d0 d1 d2
      generalize hn : str pn = n at d0
      generalize hv : str pv = v at d1
      have HN : Hid (n = str pn) := hn.symm
      have HV : Hid (v = str pv) := hv.symm
      clear hn hv
      have HO1 : Hid (OwnQ 65 w.heap.size _ (t.take k) wr.drew) := hown.out.below (below_drewN (Below.refl _ _) 1)
      have HB1 : Hid (Below w.heap.size w wr.drew) := below_drewN hbl.out 1
      have hs1 : w.heap.size ≤ wr.drew.heap.size := hsz
      go_wp2_with fail
      go_region_law (refine step_appQ 65 35 infoQ2 Tryz.underlying35 rfl (.tmp 12) (.tmp 29) rfl w.heap.size _ (t.take k) _ (pn, pv, pb) _ _ HN.out HV.out _ rfl (by simp [Act.eval, Act.put]) HO1.out _ (by simp [Act.eval, Act.put]) rfl hlk hs1 ?_; intro v6 w6 hown6 hb6)
      all_goals
        have HO6 : Hid (OwnQ 65 w.heap.size v6 (t.take (k + 1)) w6) := (by rw [HTk.out]; exact hown6 : OwnQ 65 w.heap.size v6 (t.take (k + 1)) w6)
        have HB6 : Hid (Below w.heap.size w w6) := HB1.out.trans hb6
        clear hown6 hb6
        go_wp2
        go_roundw
        case rel => exact ⟨k + 1, by omega, by go_num, HO6, HB6⟩
        case measure => simp [intOf]; omega
    · obtain rfl : k = t.length := by omega
      rw [List.take_length] at hown
      go_wp2
      go_ret
      exact ⟨_, rfl, hown.out, hbl.out⟩

end Tg
end Go.Proofs.YtpnijigjlhfklaaGreatDoor
