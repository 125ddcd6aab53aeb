/-
  base.Encode, base.Hex.
-/
import Derived.Test.YtgdecgagdacipaaGreatDoorBEnc
import Derived.Deep.QuietTactic
import Derived.Deep.RegionLaw
import Derived.Deep.DrawnRows
set_option linter.unusedVariables false
set_option linter.unusedSimpArgs false
namespace Go.Proofs.YtgdecgagdacipaaGreatDoor
open Go.RowKit
namespace Bs
set_option maxRecDepth 100000

theorem run_mk0 (W : World) (c : Int) (h0 : 0 ≤ c) (hc : c ≤ 281474976710656) : (Instr.makeSlice 74 (.int .i64 0) (.int .i64 c)).run Tryz.prog W = .ok (.slice (some ⟨W.heap.size, 0, none⟩) 0 c.toNat) (W.alloc (.cells (madeCells #[.int .u8 0] c.toNat) 5)) := by
  obtain ⟨i0, hi, hz0, hz1, hz2⟩ := info_parts infoB
  have hr := run_make (P := Tryz.prog) W 74 5 i0 (.int .u8 0) Tryz.underlying74 hi hz0 .i64 .i64 0 c (by omega) h0 (by rw [hz2]; omega) (by omega)
  simp only [Int.toNat_zero, hz1, Nat.mul_one] at hr
  exact hr

theorem enc_len : ∀ l : List UInt8, (enc l).length = (l.length + 2) / 3 * 4
  | [] => rfl
  | [a] => by simp [enc]
  | [a, b] => by simp [enc]
  | a :: b :: c :: r => by
    unfold enc
    simp only [List.length_cons]
    rw [enc_len r]
    omega
theorem enc_three (r : List UInt8) (h : 3 ≤ r.length) : enc r = enc (r.take 3) ++ enc (r.drop 3) := by
  match r, h with
  | a :: b :: c :: r, _ =>
    show enc (a :: b :: c :: r) = enc [a, b, c] ++ enc r
    conv => lhs; unfold enc
    conv => rhs; lhs; unfold enc enc
    rfl

theorem rd_built (W : World) (cs : Array Value) (u : List UInt8) (n : Nat) (hn : n = u.length) (hc : cs.toList = bv u) : RdB (W.alloc (.cells cs 5)) (.slice (some ⟨W.heap.size, 0, none⟩) n n) u := by
  subst hn
  refine ⟨_, _, rfl, Nat.le_refl _, (fun e => by cases e), .inr ⟨W.heap.size, 0, rfl, fun j y hj => ?_⟩⟩
  have h1 : cs[j]? = some (.int .u8 (y.toNat : Int)) := by
    rw [← Array.getElem?_toList, hc, bv_get, hj]
    rfl
  rw [Nat.zero_add]
  have h2 := heap_alloc_new W (.cells cs 5)
  unfold World.cell?
  rw [show (⟨W.heap.size, j, none⟩ : Addr).block = W.heap.size from rfl, h2]
  exact h1
/-- Bytes that were just built, appended within a region that draws its order. -/
theorem step_app {ops : Array Oper} {o : Oper} {a : Act} {K : Act → World → Prop} {Q : Exit → Act → World → Prop} {E : Prop} (hgd : o.guard = none) (s x : Operand)
    (ho : o.op = .call { callee := .builtin .append, args := #[s, x], argTypes := #[74, 74] }) (B : Nat) (v : Value) (l u : List UInt8) (n : Nat) (hn : n = u.length) (W : World) (cs : Array Value) (hc : cs.toList = bv u)
    (hs : a.eval s = v) (hown : Own B v l W) (hx : a.eval x = .slice (some ⟨W.heap.size, 0, none⟩) n n) (hlen : l.length + u.length ≤ 140737488355328) (hB : B ≤ W.heap.size)
    (h : ∀ v' w', Hid (Own B v' (l ++ u) w') → Hid (Below B W w') → K (a.put o.dst v') w') : if Region.wanted o (yielded ops a.tmps) = true then Oper.wp Tryz.prog o a (W.alloc (.cells cs 5)) K Q else E := by
  refine step_appB hgd s x ho B v _ l u hs (hown.alloc _) hx (rd_built W cs u n hn hc) hlen (by simp; omega) ?_
  intro v' w' h1 h2
  exact h v' w' h1.out (((Below.refl B W).alloc hB _).grown h2.out (by simp; omega) (fun k hk => (World.ownsRow.lt hown k hk).1))

theorem hx_at (n : Nat) (h : n < (⟨#[48, 49, 50, 51, 52, 53, 54, 55, 56, 57, 97, 98, 99, 100, 101, 102]⟩ : ByteArray).size) : (⟨#[48, 49, 50, 51, 52, 53, 54, 55, 56, 57, 97, 98, 99, 100, 101, 102]⟩ : ByteArray)[n] = hx n := by
  rw [← at_lt _ n h]
  rfl
theorem hexL_append : ∀ a b : List UInt8, hexL (a ++ b) = hexL a ++ hexL b
  | [], b => rfl
  | x :: a, b => by
    show hx (x.toNat / 16) :: hx (x.toNat % 16) :: hexL (a ++ b) = (hx (x.toNat / 16) :: hx (x.toNat % 16) :: hexL a) ++ hexL b
    rw [hexL_append a b]
    rfl
theorem take_snoc (l : List UInt8) (k : Nat) (h : k < l.length) : l.take (k + 1) = l.take k ++ [l.getD k 0] := by
  rw [List.take_add_one, List.getD_eq_getElem?_getD, List.getElem?_eq_getElem h]
  rfl
theorem hex_take (l : List UInt8) (k : Nat) (h : k < l.length) : hexL (l.take (k + 1)) = hexL (l.take k) ++ [hx ((l.getD k 0).toNat / 16), hx ((l.getD k 0).toNat % 16)] := by
  rw [take_snoc l k h, hexL_append]
  rfl

attribute [local go_sem ↓] Go.wp_at_zero Go.wp_at_succ
set_option maxRecDepth 100000 in
set_option maxHeartbeats 1000000 in
theorem Hex_any (l : List UInt8) (hl : 2 * l.length ≤ 140737488355328) (w : World) :
    Calls Tryz.prog 36 #[.string (str l)] w fun e w' => e = .returned (.string (str (hexL l))) ∧ Below w.heap.size w w' := by
  have hs : (str l).size = l.length := str_size l
  have hmk := run_mk0 w (2 * ((l.length : Nat) : Int)) (by omega) (by omega)
  have HOw : Hid (Own w.heap.size (.slice (some ⟨w.heap.size, 0, none⟩) 0 (2 * l.length)) [] (w.alloc (.cells (madeCells #[.int .u8 0] (2 * l.length)) 5))) := own_made w _ (by omega) _ (size_madeCells _ _)
  have hby : ∀ (k : Nat) (h : k < (str l).size), ((str l)[k]'h) = l.getD k 0 := fun k h => by rw [← at_lt _ k h, str_list]
  go_enter Tryz.func36, Tryz.ntmps36
  go_wp2
  go_loopw [3, 11] (fun v i wr => ∃ k : Nat, k ≤ l.length ∧ i = .int .i64 k ∧ Hid (Own w.heap.size v (hexL (l.take k)) wr) ∧ Hid (Below w.heap.size w wr)) (fun _ i _ => l.length - (intOf i).toNat)
  case atStart => exact ⟨0, by omega, rfl, HOw.out, (Below.refl _ w).alloc (Nat.le_refl _) _⟩
  case round =>
    obtain ⟨k, hk, rfl, HO, HB⟩ := hrel
    have hsz := HB.out.size
    by_cases hlt : k < l.length
    · have HN : Hid (hexL (l.take (k + 1)) = hexL (l.take k) ++ [hx ((l.getD k 0).toNat / 16), hx ((l.getD k 0).toNat % 16)]) := hex_take l k hlt
      have HT : Hid ((hexL (l.take k)).length + 2 ≤ 140737488355328) := (by rw [hexL_length, List.length_take]; omega : (hexL (l.take k)).length + 2 ≤ 140737488355328)
      have hbk := hby k
      clear hby
      have hu := (l.getD k 0).toNat_lt
      generalize l.getD k 0 = u at *
      generalize hexL (l.take k) = t at *
      have ha : bits .and .u8 ((u.toNat : Nat) : Int) 15 = ((u.toNat % 16 : Nat) : Int) := by rw [u8_and15 _ (by omega) (by omega)]; omega
      have hd : ((u.toNat : Nat) : Int) / 16 = ((u.toNat / 16 : Nat) : Int) := by omega
      have h1 := hx_at (u.toNat / 16)
      have h2 := hx_at (u.toNat % 16)
      have l1 : u.toNat / 16 < 16 := by omega
      have l2 : u.toNat % 16 < 16 := by omega
      generalize u.toNat / 16 = p at *
      generalize u.toNat % 16 = q at *
      have l1' : (p : Int) < 16 := by omega
      have l2' : (q : Int) < 16 := by omega
      have HOd : Hid (Own w.heap.size u3 t wr.drew) := HO.out
      have hcs : (#[Value.int .u8 ((hx p).toNat : Int), Value.int .u8 ((hx q).toNat : Int)] : Array Value).toList = bv [hx p, hx q] := rfl
      go_wp2
      go_region_law (refine step_app rfl (.tmp 14) (.tmp 25) rfl w.heap.size u3 t [hx p, hx q] 2 rfl wr.drew _ hcs (by simp [Act.eval, Act.put]) HOd.out (by simp [Act.eval, Act.put]) HT.out hsz ?_; intro v2 w2 HO2 HB2)
      all_goals go_wp2
      all_goals exact ⟨⟨k + 1, by omega, by go_num, (by rw [HN.out]; exact HO2.out : Own w.heap.size _ (hexL (l.take (k + 1))) _), HB.out.drew.trans HB2.out⟩, by simp [intOf]; omega⟩
    · obtain rfl : k = l.length := by omega
      have hbk := back wr _ _ HO.out.rd
      rw [List.take_length] at hbk
      go_wp2
      go_ret
      exact ⟨rfl, HB.out⟩

end Bs
end Go.Proofs.YtgdecgagdacipaaGreatDoor
