/-
  The document's Decode and Encode.
-/
import Derived.Test.YtpnijigjlhfklaaGreatDoorGRf
import Derived.Deep.QuietTactic
import Derived.Deep.RegionLaw
import Derived.Deep.DrawnRows
set_option linter.unusedVariables false
set_option linter.unusedSimpArgs false
namespace Go.Proofs.YtpnijigjlhfklaaGreatDoor
open Go.RowKit Go.Shelf
namespace Tg
open Oc

/-- One step of a region that draws: bytes appended. -/
theorem step_ap {ops : Array Oper} {o : Oper} {a : Act} {K : Act → World → Prop} {Q : Exit → Act → World → Prop} {E : Prop} (hgd : o.guard = none) (s x : Operand)
    (ho : o.op = .call { callee := .builtin .append, args := #[s, x], argTypes := #[67, 67] }) (B : Nat) (v : Value) (l us : List UInt8) (n : Nat) (hn : n = us.length) (W : World) (cs : Array Value) (hcs : cs.toList = Lib.byteCells us)
    (hs : a.eval s = v) (hown : Ow B v l W) (hx : a.eval x = .slice (some ⟨W.heap.size, 0, none⟩) n n) (hlen : l.length + us.length ≤ 140737488355328) (hB : B ≤ W.heap.size)
    (h : ∀ v' w', Hid (Ow B v' (l ++ us) w') → Hid (Below B W w') → K (a.put o.dst v') w') : if Region.wanted o (yielded ops a.tmps) = true then Oper.wp Tryz.prog o a (W.alloc (.cells cs 5)) K Q else E := by
  obtain ⟨i0, hi, hz0, hz1, hz2⟩ := inf5
  have hl : (Lib.byteCells us).length = us.length := cells_len us
  have hw : Region.wanted o (yielded ops a.tmps) = true := by simp [Region.wanted, hgd]
  rw [if_pos hw]
  subst hn
  obtain ⟨v', w', hrun, h1, h2, _⟩ := run_append_own (P := Tryz.prog) (w := W.alloc (.cells cs 5)) B 67 o.type 5 i0 (.int .u8 0) 1 1 Tryz.underlying67 hi hz0 hz1 hz2 rfl (by decide) v l.length (Lib.byteCells l) (World.ownsRow.alloc hown _) ⟨W.heap.size, 0, none⟩ us.length us.length (Lib.byteCells us) (by rw [hl, Nat.mul_one])
    (fun j u hj => by
      have e : (W.alloc (.cells cs 5)).heap[W.heap.size]? = some (.cells cs 5 (0, 0)) := heap_alloc_new W _
      rw [show (⟨W.heap.size, 0, none⟩ : Addr).add j = ⟨W.heap.size, j, none⟩ by simp [Addr.add]; omega, Lib.cell_of_heap e]
      rw [← Array.getElem?_toList, hcs]
      exact hj)
    (fun u hu => by
      simp [Lib.byteCells] at hu
      obtain ⟨b, _, rfl⟩ := hu
      rfl) (by unfold maxLen; omega) (by omega) (by simp; omega)
  have := h v' w' (by
    show Ow B v' (l ++ us) w'
    unfold Ow
    rw [List.length_append, cells_app]
    exact h1) (((Below.refl B W).alloc hB _).grown h2 (by simp; omega) (fun k hk => (World.ownsRow.lt hown k hk).1))
  unfold Oper.wp
  simp [execOp, ho, resolve, invoke, builtin, hs, hx, hrun, Result.andThen]
  exact this

attribute [local go_sem ↓] Go.wp_at_zero Go.wp_at_succ
set_option maxRecDepth 100000 in
set_option maxHeartbeats 1000000 in
theorem put_any (B : Nat) (v : Value) (l : List UInt8) (c : UInt8) (plain : Bool) (w : World) (hown : Ow B v l w) (hlen : l.length + 3 ≤ 140737488355328) (hB : B ≤ w.heap.size) :
    Calls Tryz.prog 56 #[v, .int .u8 (c.toNat : Int), .bool plain] w fun e w' => ∃ v', e = .returned v' ∧ Ow B v' (l ++ if plain then [c] else [37, hd (c.toNat / 16), hd (c.toNat % 16)]) w' ∧ Below B w w' := by
  have HO : Hid (Ow B v l w) := hown
  have HL : Hid (l.length + 3 ≤ 140737488355328) := hlen
  clear hown hlen
  cases plain with
  | true =>
    go_enter Tryz.func56, Tryz.ntmps56
    go_wp2_with (at_builtin; go_must (refine wp_ap rfl (.tmp 8) (.tmp 10) rfl B _ l [c] _ _ rfl rfl HO.out rfl (by have := HL.out; simp; omega) hB ?_); intro v' w' h1 h2)
    go_ret
    exact ⟨_, rfl, h1, h2⟩
  | false =>
    have hu := c.toNat_lt
    have ha : ((c.toNat : Nat) : Int) % 16 = ((c.toNat % 16 : Nat) : Int) := by omega
    have hd0 : ((c.toNat : Nat) : Int) / 16 = ((c.toNat / 16 : Nat) : Int) := by omega
    have l1 : c.toNat / 16 < 16 := by omega
    have l2 : c.toNat % 16 < 16 := by omega
    have h1 := digits_at (c.toNat / 16) l1
    have h2 := digits_at (c.toNat % 16) l2
    generalize c.toNat / 16 = p at *
    generalize c.toNat % 16 = q at *
    have l1' : (p : Int) < 16 := by omega
    have l2' : (q : Int) < 16 := by omega
    have ht : (((c.toNat : Nat) : Int)).tmod 16 = (q : Int) := by rw [Int.tmod_eq_emod_of_nonneg (by omega)]; exact ha
    have wp : IntKind.u8.wrap (p : Int) = (p : Int) := by rw [IntKind.wrap_u8]; omega
    have wq : IntKind.u8.wrap (q : Int) = (q : Int) := by rw [IntKind.wrap_u8]; omega
    have HOd : Hid (Ow B v l w.drew) := HO.out
    have hcs : (#[Value.int .u8 37, Value.int .u8 ((hd p).toNat : Int), Value.int .u8 ((hd q).toNat : Int)] : Array Value).toList = Lib.byteCells [37, hd p, hd q] := rfl
    go_enter Tryz.func56, Tryz.ntmps56
    go_wp2
    go_region_law (refine step_ap rfl (.tmp 12) (.tmp 19) rfl B v l [37, hd p, hd q] 3 rfl w.drew _ hcs (by simp [Act.eval, Act.put]) HOd.out (by simp [Act.eval, Act.put]) HL.out hB ?_; intro v2 w2 HO2 HB2)
    all_goals go_wp2
    all_goals go_ret
    all_goals exact ⟨_, rfl, HO2.out, (⟨rfl, rfl, rfl, Nat.le_refl _, fun _ _ => rfl⟩ : Below B w w.drew).trans HB2.out⟩

end Tg
end Go.Proofs.YtpnijigjlhfklaaGreatDoor
