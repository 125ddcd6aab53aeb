/- Several texts as one. -/
import Derived.Test.YtfpodnaaappocaaGreatDoorMgW
import Derived.Deep.QuietTactic
import Derived.Deep.RegionLaw
import Derived.Deep.DrawnRows
import Derived.Test.YtfpodnaaappocaaGreatDoorMgT
import Derived.Test.YtfpodnaaappocaaGreatDoorMgQ
/-
  The document's Decode and Encode.
-/
set_option linter.unusedVariables false
set_option linter.unusedSimpArgs false
namespace Go.Proofs.YtfpodnaaappocaaGreatDoor
open Go.RowKit Go.Shelf
namespace Tg
open Oc

/-- One step of a region that draws: bytes appended. -/
theorem step_ap {ops : Array Oper} {o : Oper} {a : Act} {K : Act → World → Prop} {Q : Exit → Act → World → Prop} {E : Prop} (hgd : o.guard = none) (s x : Operand)
    (ho : o.op = .call { callee := .builtin .append, args := #[s, x], argTypes := #[61, 61] }) (B : Nat) (v : Value) (l us : List UInt8) (n : Nat) (hn : n = us.length) (W : World) (cs : Array Value) (hcs : cs.toList = Lib.byteCells us)
    (hs : a.eval s = v) (hown : Ow B v l W) (hx : a.eval x = .slice (some ⟨W.heap.size, 0, none⟩) n n) (hlen : l.length + us.length ≤ 140737488355328) (hB : B ≤ W.heap.size)
    (h : ∀ v' w', Hid (Ow B v' (l ++ us) w') → Hid (Below B W w') → K (a.put o.dst v') w') : if Region.wanted o (yielded ops a.tmps) = true then Oper.wp Tryz.prog o a (W.alloc (.cells cs 5)) K Q else E := by
  obtain ⟨i0, hi, hz0, hz1, hz2⟩ := inf5
  have hl : (Lib.byteCells us).length = us.length := cells_len us
  have hw : Region.wanted o (yielded ops a.tmps) = true := by simp [Region.wanted, hgd]
  rw [if_pos hw]
  subst hn
  obtain ⟨v', w', hrun, h1, h2, _⟩ := run_append_own (P := Tryz.prog) (w := W.alloc (.cells cs 5)) B 61 o.type 5 i0 (.int .u8 0) 1 1 Tryz.underlying61 hi hz0 hz1 hz2 rfl (by decide) v l.length (Lib.byteCells l) (World.ownsRow.alloc hown _) ⟨W.heap.size, 0, none⟩ us.length us.length (Lib.byteCells us) (by rw [hl, Nat.mul_one])
    (fun j u hj => by
      have e : (W.alloc (.cells cs 5)).heap[W.heap.size]? = some (.cells cs 5 (0, 0)) := heap_alloc_new W _
      rw [show (⟨W.heap.size, 0, none⟩ : Addr).add j = ⟨W.heap.size, j, none⟩ by simp [Addr.add]; omega, Lib.cell_of_heap e]
      rw [← Array.getElem?_toList, hcs]
      exact hj)
    (fun u hu => by
      simp [Lib.byteCells] at hu
      obtain ⟨b, _, rfl⟩ := hu
      rfl) (by unfold maxLen; omega) (by omega) (by simp; omega)
  have := h v' w' (by
    show Ow B v' (l ++ us) w'
    unfold Ow
    rw [List.length_append, cells_app]
    exact h1) (((Below.refl B W).alloc hB _).grown h2 (by simp; omega) (fun k hk => (World.ownsRow.lt hown k hk).1))
  unfold Oper.wp
  simp [execOp, ho, resolve, invoke, builtin, hs, hx, hrun, Result.andThen]
  exact this

end Tg
end Go.Proofs.YtfpodnaaappocaaGreatDoor

/-
  The document's cut, split, scan, IsPath, plain.
-/
set_option linter.unusedVariables false
set_option linter.unusedSimpArgs false
namespace Go.Proofs.YtfpodnaaappocaaGreatDoor
open Go.RowKit Go.Shelf
namespace Tg
open Oc

theorem cut_at (s : ByteArray) (b : UInt8) (k : Nat) (hk : k < s.size) (hall : ∀ j, j < k → byt s j ≠ (b.toNat : Int)) (h : byt s k = (b.toNat : Int)) :
    str (cutA b s.data.toList) = s.extract 0 k ∧ str (cutB b s.data.toList) = s.extract (k + 1) s.size ∧ has b s.data.toList = true := by
  have e0 : s.data.toList = s.data.toList.take k ++ b :: s.data.toList.drop (k + 1) := by
    have h1 : s.data.toList.getD k 0 = b := UInt8.toNat_inj.1 (by unfold byt at h; omega)
    rw [← h1, ← drop_cons s k hk, List.take_append_drop]
  have hno : b ∉ s.data.toList.take k := by
    intro hm
    obtain ⟨j, hj, e⟩ := List.mem_iff_getElem.1 hm
    rw [List.length_take, size_list] at hj
    refine hall j (by omega) ?_
    unfold byt
    rw [List.getElem_take] at e
    rw [List.getD_eq_getElem?_getD, List.getElem?_eq_getElem (by rw [size_list]; omega)]
    simp [e]
  have hA : cutA b s.data.toList = s.data.toList.take k := by
    conv => lhs; rw [e0]
    unfold cutA
    rw [List.takeWhile_append_of_pos (by intro x hx; simp; intro e; exact hno (e ▸ hx))]
    simp
  have hB : cutB b s.data.toList = s.data.toList.drop (k + 1) := by
    conv => lhs; rw [e0]
    unfold cutB
    rw [List.dropWhile_append_of_pos (by intro x hx; simp; intro e; exact hno (e ▸ hx))]
    simp
  refine ⟨eq_list ?_, eq_list ?_, ?_⟩
  · rw [str_list, hA, ext_list]; simp
  · rw [str_list, hB, ext_list, List.take_of_length_le (by rw [List.length_drop, size_list]; omega)]
  · unfold has; exact contains_of hk h
theorem cut_none (s : ByteArray) (b : UInt8) (hall : ∀ j, j < s.size → byt s j ≠ (b.toNat : Int)) : str (cutA b s.data.toList) = s ∧ cutB b s.data.toList = [] ∧ has b s.data.toList = false := by
  have h : has b s.data.toList = false := contains_not hall
  exact ⟨by rw [cutA_all b _ h, str_self], cutB_none b _ h, h⟩

set_option maxRecDepth 100000 in
set_option maxHeartbeats 1000000 in
theorem rcut_any (s : ByteArray) (hs : s.size ≤ 140737488355328) (b : UInt8) (w : World) :
    Calls Tryz.prog 25 #[.string s, .int .u8 (b.toNat : Int)] w fun e w' => e = .returned (.tuple #[.string (str (cutA b s.data.toList)), .string (str (cutB b s.data.toList)), .bool (has b s.data.toList)]) ∧ Below w.heap.size w w' := by
  go_enter Tryz.func25, Tryz.ntmps25
  go_wp2
  go_loop [7] (fun i => ∃ k : Nat, k ≤ s.size ∧ i = .int .i64 k ∧ Hid (∀ j, j < k → byt s j ≠ (b.toNat : Int))) (fun i => s.size - (intOf i).toNat)
  case atStart => exact ⟨0, Nat.zero_le _, rfl, (fun j hj => by omega : ∀ j, j < 0 → _)⟩
  case round =>
    obtain ⟨k, hk, rfl, hall⟩ := hrel
    by_cases hlt : k < s.size
    · have hby : ((s[k].toNat : Nat) : Int) = byt s k := byt_at s k hlt
      by_cases h : byt s k = (b.toNat : Int)
      · have HR : Hid (_) := cut_at s b k hlt hall.out h
        have hb : (byt s k == (b.toNat : Int)) = true := by simp [h]
        have hk1 : IntKind.i64.wrap ((k : Int) + 1) = ((k + 1 : Nat) : Int) := by rw [IntKind.wrap_i64]; omega
        clear h
        go_wp2
        go_region
        all_goals go_wp2
        all_goals go_ret3
        all_goals exact ⟨by rw [HR.out.1, HR.out.2.1, HR.out.2.2]; rfl, (Below.refl _ w).drew⟩
      · have hb : (byt s k == (b.toNat : Int)) = false := by simp [h]
        have HA : Hid (∀ j, j < k + 1 → byt s j ≠ (b.toNat : Int)) := by
          intro j hj
          by_cases hjk : j = k
          · subst hjk; exact h
          · exact hall.out j (by omega)
        clear h
        go_wp2
        go_round
        case rel => exact ⟨k + 1, by omega, by go_num, HA⟩
        case measure => simp [intOf]; omega
    · obtain rfl : k = s.size := by omega
      have HR : Hid (_) := cut_none s b hall.out
      go_wp2
      go_ret3
      exact ⟨by rw [HR.out.1, HR.out.2.1, HR.out.2.2]; rfl, Below.refl _ _⟩

set_option maxRecDepth 100000 in
set_option maxHeartbeats 2000000 in
theorem rsplit_any (s : ByteArray) (hs : s.size ≤ 4194304) (b : UInt8) (w : World) :
    Calls Tryz.prog 13 #[.string s, .int .u8 (b.toNat : Int)] w fun e w' => ∃ v, e = .returned v ∧ OwnS w.heap.size v (splitB b s.data.toList) w' ∧ Below w.heap.size w w' := by
  have HC : Hid (∀ (t : ByteArray), t.size ≤ s.size → ∀ w, _) := fun t ht w => rcut_any t (by omega) b w
  have HE : Hid (_) := ownS_empty w
  have HL := split_len b s.data.toList
  rw [size_list] at HL
  go_enter Tryz.func13, Tryz.ntmps13
  go_wp2
  go_loopw [0, 5] (fun sv lv wr => ∃ cur : List UInt8, sv = .string (str cur) ∧ ∃ pre : List (List UInt8), Hid (pre ++ splitB b cur = splitB b s.data.toList) ∧ Hid (cur.length ≤ s.size) ∧ Hid (OwnS w.heap.size lv pre wr) ∧ Hid (Below w.heap.size w wr)) (fun sv _ _ => match sv with | .string r => r.size | _ => 0)
  case atStart => exact ⟨s.data.toList, by rw [str_self], [], (rfl : [] ++ splitB b s.data.toList = _), (by rw [size_list]; exact Nat.le_refl _ : s.data.toList.length ≤ s.size), HE.out, (Below.refl _ w).alloc (Nat.le_refl _) _⟩
  case round =>
    obtain ⟨cur, rfl, pre, hpre, hcl, hown, hbl⟩ := hrel
    have hC := HC.out (str cur) (by rw [str_size]; exact hcl.out)
    rw [str_list] at hC
    have HC2 : Hid (∀ w, _) := hC
    have HSP : Hid (_) := split_cut b cur
    have hplen : pre.length + 1 ≤ s.size + 1 := by
      have h1 := congrArg List.length hpre.out
      have h4 : 0 < (splitB b cur).length := List.length_pos_iff.2 (splitB_ne b cur)
      rw [List.length_append] at h1
      omega
    have hbl2 : (cutB b cur).length ≤ cur.length := cutB_len b cur
    have hdec : has b cur = true → (cutB b cur).length < cur.length := by
      intro h
      have := congrArg List.length (cut_app b cur h)
      rw [List.length_append, List.length_cons] at this
      omega
    clear hC
    cases hh : has b cur with
    | true =>
      have HD : Hid (_) := hdec hh
      rw [hh] at HC2 HSP
      have HSP2 : Hid (splitB b cur = cutA b cur :: splitB b (cutB b cur)) := (by have := HSP.out; rw [if_pos rfl] at this; exact this : _ = _)
      clear hdec hh HSP
      generalize cutA b cur = A at *
      generalize cutB b cur = B at *
      go_wp2_with (first | (go_at_call 25; refine (HC2.out _).mono ?_; rintro e w1 ⟨rfl, k1⟩; have ho1 := hown.out.below k1; have hs1 := Nat.le_trans hbl.out.size k1.size) | (at_builtin; go_must (refine wp_appS rfl (.tmp 17) (.tmp 19) rfl w.heap.size _ pre _ A rfl ho1 rfl (by omega) hs1 ?_); intro v2 w2 o2 b2))
      go_roundw
      case rel => exact ⟨B, rfl, pre ++ [A], (by rw [List.append_assoc]; have := hpre.out; rw [HSP2.out] at this; exact this : (pre ++ [A]) ++ splitB b B = _), (Nat.le_trans (Nat.le_of_lt HD.out) hcl.out : B.length ≤ s.size), o2, hbl.out.trans ((k1.mono hbl.out.size).trans b2)⟩
      case measure => simp [str_size]; exact HD.out
    | false =>
      rw [hh] at HC2 HSP
      have HSP2 : Hid (splitB b cur = [cutA b cur]) := (by have := HSP.out; rw [if_neg (by simp)] at this; exact this : _ = _)
      clear hdec hh HSP
      generalize cutA b cur = A at *
      generalize cutB b cur = B at *
      go_wp2_with (first | (go_at_call 25; refine (HC2.out _).mono ?_; rintro e w1 ⟨rfl, k1⟩; have ho1 := hown.out.below k1; have hs1 := Nat.le_trans hbl.out.size k1.size) | (at_builtin; go_must (refine wp_appS rfl (.tmp 17) (.tmp 19) rfl w.heap.size _ pre _ A rfl ho1 rfl (by omega) hs1 ?_); intro v2 w2 o2 b2))
      go_ret
      refine ⟨_, rfl, ?_, hbl.out.trans ((k1.mono hbl.out.size).trans b2)⟩
      have := hpre.out
      rw [HSP2.out] at this
      rw [← this]
      exact o2

end Tg
end Go.Proofs.YtfpodnaaappocaaGreatDoor
