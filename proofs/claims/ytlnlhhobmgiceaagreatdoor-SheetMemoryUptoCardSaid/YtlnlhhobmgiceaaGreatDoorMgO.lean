/- Several texts as one. -/
import Derived.Test.YtlnlhhobmgiceaaGreatDoorMgN
import Derived.Deep.QuietTactic
import Derived.Maps.AppendAt
import Derived.Test.YtlnlhhobmgiceaaGreatDoorMgM
/-
  Slices of texts: of the call's own, read; the law's own 'same'; an append into a box.
-/
set_option linter.unusedVariables false
set_option linter.unusedSimpArgs false
namespace Go.Proofs.YtlnlhhobmgiceaaGreatDoor
open Go.RowKit Go.Shelf
namespace Tg
open Oc

def encL (t : List (List UInt8)) : List Value := t.map fun l => .string (str l)
/-- A slice of texts of the call's own. -/
def OwnS (B : Nat) (v : Value) (t : List (List UInt8)) (w : World) : Prop := w.ownsRow B 9 1 v t.length (encL t)
theorem ownS_nil (B : Nat) (w : World) : OwnS B (.slice none 0 0) [] w := World.ownsRow_nil w B 9 1
theorem ownS_empty (w : World) : OwnS w.heap.size (.slice (some ⟨w.heap.size, 0, none⟩) 0 0) [] (w.alloc (.cells #[] 9)) :=
  ⟨by simp [encL], .inr ⟨w.heap.size, 0, #[], rfl, Nat.le_refl _, heap_alloc_new w _, by simp, by decide, by simp, by simp [encL]⟩⟩
theorem OwnS.lower {B B' : Nat} {v : Value} {t : List (List UInt8)} {w : World} (h : OwnS B v t w) (hB : B' ≤ B) : OwnS B' v t w := by
  refine ⟨h.1, ?_⟩
  rcases h.2 with hn | ⟨g, cap, cur, rfl, hb, rest⟩
  · exact .inl hn
  · exact .inr ⟨g, cap, cur, rfl, by omega, rest⟩
theorem OwnS.below {B : Nat} {v : Value} {t : List (List UInt8)} {w w' : World} (h : OwnS B v t w) (b : Below w.heap.size w w') : OwnS B v t w' := by
  refine ⟨h.1, ?_⟩
  rcases h.2 with hn | ⟨g, cap, cur, rfl, hb, hg, rest⟩
  · exact .inl hn
  · refine .inr ⟨g, cap, cur, rfl, hb, ?_, rest⟩
    have hlt : g < w.heap.size := by
      rcases Nat.lt_or_ge g w.heap.size with h | h
      · exact h
      · simp [Array.getElem?_eq_none h] at hg
    rw [b.block g hlt]
    exact hg
theorem OwnS.form {B : Nat} {v : Value} {t : List (List UInt8)} {w : World} (h : OwnS B v t w) : ∃ a c, v = .slice a t.length c := by
  rcases h.2 with ⟨rfl, h0⟩ | ⟨g, cap, cur, rfl, _⟩
  · exact ⟨none, 0, by rw [h0]⟩
  · exact ⟨_, _, rfl⟩
theorem OwnS.cell {B : Nat} {t : List (List UInt8)} {w : World} {a : Option Addr} {c : Nat} (h : OwnS B (.slice a t.length c) t w) (j : Nat) (hj : j < t.length) :
    ∃ g, a = some ⟨g, 0, none⟩ ∧ t.length ≤ c ∧ w.cell? ⟨g, j, none⟩ = some (.string (str (t.getD j []))) := by
  rcases h.2 with ⟨hv, h0⟩ | ⟨g, cap, cur, hv, _, hg, hn, _, hsz, htake⟩
  · omega
  · injection hv with e1 e2 e3
    refine ⟨g, e1, by omega, ?_⟩
    have hc := World.ownsRow.cells h (g := g) (by rw [e1]; rfl) j (.string (str (t.getD j []))) (by
      unfold encL
      rw [List.getElem?_map, List.getElem?_eq_getElem hj, List.getD_eq_getElem?_getD, List.getElem?_eq_getElem hj]
      rfl)
    have ea : Addr.add ⟨g, 0, none⟩ j = ⟨g, j, none⟩ := by unfold Addr.add; split <;> simp_all
    rw [ea] at hc
    exact hc

theorem infoStr : (Tryz.prog.info? 9).map (fun i => (i.zero, i.size, i.bytes)) = some (some (.string ⟨#[]⟩), 1, 16) := by kernel_rfl
theorem infoS : ∃ i, Tryz.prog.info? 9 = some i ∧ i.zero = some (.string ⟨#[]⟩) ∧ i.size = 1 ∧ i.bytes = 16 := by
  obtain ⟨i0, hi, hz0, hz1, hz2⟩ := info_parts infoStr
  exact ⟨i0, hi, hz0, hz1, hz2⟩
/-- A text appended to a slice of the call's own. -/
theorem wp_appS {ops : Array Oper} {rest : List Oper} {o : Oper} {a : Act} {Q : Exit → Act → World → Prop} (hgd : o.guard = none) (s x : Operand)
    (ho : o.op = .call { callee := .builtin .append, args := #[s, x], argTypes := #[81, 81] }) (B : Nat) (v : Value) (t : List (List UInt8)) (W : World) (l : List UInt8)
    (hs : a.eval s = v) (hown : OwnS B v t W) (hx : a.eval x = .slice (some ⟨W.heap.size, 0, none⟩) 1 1) (hlen : t.length + 1 ≤ 4294967296) (hB : B ≤ W.heap.size)
    (h : ∀ v' w', OwnS B v' (t ++ [l]) w' → Below B W w' → wpList Tryz.prog ops Q rest (a.put o.dst v') w') : wpList Tryz.prog ops Q (o :: rest) a (W.alloc (.cells #[.string (str l)] 9)) := by
  obtain ⟨i0, hi, hz0, hz1, hz2⟩ := infoS
  refine wpList_append_own _ hgd s x 81 ho B 9 i0 (.string ⟨#[]⟩) 1 16 Tryz.underlying81 hi hz0 hz1 hz2 rfl (by decide) v t.length _ hs (World.ownsRow.alloc hown _) ⟨W.heap.size, 0, none⟩ 1 1 [.string (str l)] hx rfl ?_ ?_ ?_ ?_ ?_ ?_
  · intro j u hj
    match j, hj with
    | 0, hj => simp at hj; subst hj; simp [Addr.add]
  · intro u hu; simp at hu; subst hu; rfl
  · unfold maxLen; omega
  · omega
  · simp; omega
  · intro v' w' h1 h2 _
    refine h v' w' ?_ (((Below.refl B W).alloc hB _).grown h2 (by simp; omega) (fun k hk => (World.ownsRow.lt hown k hk).1))
    unfold OwnS
    rw [List.length_append]
    simpa [encL] using h1

/-- A slice that reads as these texts. -/
def RdS (v : Value) (t : List (List UInt8)) (w : World) : Prop :=
  ∃ a c, v = .slice a t.length c ∧ (t = [] ∨ ∃ g o, a = some ⟨g, o, none⟩ ∧ t.length ≤ c ∧ ∀ j, j < t.length → w.cell? ⟨g, o + j, none⟩ = some (.string (str (t.getD j []))))
theorem OwnS.rd {B : Nat} {v : Value} {t : List (List UInt8)} {w : World} (h : OwnS B v t w) : RdS v t w := by
  obtain ⟨a, c, rfl⟩ := h.form
  refine ⟨a, c, rfl, ?_⟩
  cases t with
  | nil => exact .inl rfl
  | cons x t =>
    right
    obtain ⟨g, e, hc, _⟩ := h.cell 0 (by simp)
    refine ⟨g, 0, e, hc, fun j hj => ?_⟩
    obtain ⟨g', e', _, hcell⟩ := h.cell j hj
    rw [e] at e'
    injection e' with e'
    injection e' with e1
    subst e1
    rw [Nat.zero_add]
    exact hcell
theorem RdS.below {v : Value} {t : List (List UInt8)} {w w' : World} (h : RdS v t w) (b : Below w.heap.size w w') : RdS v t w' := by
  obtain ⟨a, c, rfl, h⟩ := h
  refine ⟨a, c, rfl, ?_⟩
  rcases h with h | ⟨g, o, e, hc, hcell⟩
  · exact .inl h
  · refine .inr ⟨g, o, e, hc, fun j hj => ?_⟩
    have h1 := hcell j hj
    rw [b.cell (p := ⟨g, o + j, none⟩) (World.block_lt_of_cell? w _ h1)]
    exact h1

theorem drawn_again (w : World) (n m : Nat) : Hid (∃ k, w.drewN (n + m) = w.drewN k) := ⟨_, rfl⟩
theorem drawn_twice (w : World) (n m : Nat) : ∃ k, (w.drewN n).drewN m = w.drewN k := ⟨n + m, World.drewN_drewN ..⟩


theorem rd_one (w : World) (l : List UInt8) : RdS (.slice (some ⟨w.heap.size, 0, none⟩) 1 1) [l] (w.alloc (.cells #[.string (str l)] 9)) :=
  ⟨some ⟨w.heap.size, 0, none⟩, 1, rfl, .inr ⟨w.heap.size, 0, rfl, Nat.le_refl _, fun j hj => by
    have : j = 0 := by simpa using hj
    subst this
    simp⟩⟩

theorem own_mono {w : World} {b b' : Nat} {e : TypeId} {v : Value} {n : Nat} {xs : List Value} (h : w.ownsRow b e 1 v n xs) (hb : b' ≤ b) : w.ownsRow b' e 1 v n xs :=
  ⟨h.1, h.2.imp id fun ⟨g, c, cur, e, hg, r⟩ => ⟨g, c, cur, e, Nat.le_trans hb hg, r⟩⟩
theorem coll {W w1 : World} {n₀ N B : Nat} {t e : TypeId} {v v' : Value} {k m : Nat} {xs ys : List Value} {tmp : Obj}
    (hv : Boxed W B t v) (hte : t ≠ e) (hrow : W.ownsRow N e 1 v k xs) (hn : n₀ ≤ N) (hN : N ≤ W.heap.size) (hB : n₀ ≤ B)
    (hown' : w1.ownsRow N e 1 v' m ys) (hgrow : (W.alloc tmp).grownBy w1 v.ownBlock) :
    Boxed w1 B t v ∧ Boxed (w1.setCell ⟨B, 0, none⟩ v') B t v' ∧ (w1.setCell ⟨B, 0, none⟩ v').ownsRow N e 1 v' m ys ∧ KeepsOthers W (w1.setCell ⟨B, 0, none⟩ v') ∧ Below n₀ W (w1.setCell ⟨B, 0, none⟩ v') ∧
    (∀ B2 t2 u, B2 ≠ B → t2 ≠ e → Boxed W B2 t2 u → Boxed w1 B2 t2 u ∧ Boxed (w1.setCell ⟨B, 0, none⟩ v') B2 t2 u) ∧ (∀ e2 u k2 us, e2 ≠ e → t ≠ e2 → W.ownsRow N e2 1 u k2 us → (w1.setCell ⟨B, 0, none⟩ v').ownsRow N e2 1 u k2 us) ∧
    (∀ b, b < N → b ≠ B → Keep b W (w1.setCell ⟨B, 0, none⟩ v')) := by
  obtain ⟨hv1, hv2, _, hk2, hb2⟩ := hv.appended hte (own_mono hrow hn) (Nat.le_trans hn hN) hB (own_mono hown' hn) hgrow
  refine ⟨hv1, hv2, hown'.kept (grownBy_setCell' w1 B v') (.inr (hv1.not_row hte hown').symm), hk2, hb2, ?_, ?_, ?_⟩
  · intro B2 t2 u hne ht hu
    have h1 : Boxed w1 B2 t2 u := (hu.alloc tmp).kept hgrow (hu.not_row ht hrow)
    exact ⟨h1, h1.kept (grownBy_setCell' w1 B v') (fun e => hne (Option.some.inj e))⟩
  · intro e2 u k2 us hne ht hu
    have h0 : u.ownBlock = none ∨ u.ownBlock ≠ v.ownBlock := by
      rcases hu.2 with ⟨rfl, _⟩ | ⟨g, cap, cur, rfl, _, hg, _⟩
      · exact .inl rfl
      · refine .inr fun e' => ?_
        rcases hrow.2 with ⟨rfl, _⟩ | ⟨g', cap', cur', rfl, _, hg', _⟩
        · cases e'
        · obtain rfl : g = g' := by simpa [Value.ownBlock] using e'
          rw [hg] at hg'
          simp at hg'
          exact hne hg'.2
    have h1 := (hu.alloc tmp).kept hgrow h0
    exact h1.kept (grownBy_setCell' w1 B v') (.inr (hv1.not_row ht h1).symm)
  · intro b hb hne
    have hbW : b < W.heap.size := Nat.lt_of_lt_of_le hb hN
    have h1 : some b ≠ v.ownBlock := by
      intro e'
      have := (hrow.lt b e'.symm).1
      omega
    exact ((grownBy_setCell' w1 B v').block b (Nat.lt_of_lt_of_le (by simpa using Nat.lt_succ_of_lt hbW) hgrow.size) (fun e => hne (Option.some.inj e))).trans ((hgrow.block b (by simpa using Nat.lt_succ_of_lt hbW) h1).trans (Below.heap_alloc _ _ _ hbW))


end Tg
end Go.Proofs.YtlnlhhobmgiceaaGreatDoor

/-
  The document's cut, split, scan, IsPath, plain.
-/
set_option linter.unusedVariables false
set_option linter.unusedSimpArgs false
namespace Go.Proofs.YtlnlhhobmgiceaaGreatDoor
open Go.RowKit Go.Shelf
namespace Tg
open Oc

theorem cut_at (s : ByteArray) (b : UInt8) (k : Nat) (hk : k < s.size) (hall : ∀ j, j < k → byt s j ≠ (b.toNat : Int)) (h : byt s k = (b.toNat : Int)) :
    str (cutA b s.data.toList) = s.extract 0 k ∧ str (cutB b s.data.toList) = s.extract (k + 1) s.size ∧ has b s.data.toList = true := by
  have e0 : s.data.toList = s.data.toList.take k ++ b :: s.data.toList.drop (k + 1) := by
    have h1 : s.data.toList.getD k 0 = b := UInt8.toNat_inj.1 (by unfold byt at h; omega)
    rw [← h1, ← drop_cons s k hk, List.take_append_drop]
  have hno : b ∉ s.data.toList.take k := by
    intro hm
    obtain ⟨j, hj, e⟩ := List.mem_iff_getElem.1 hm
    rw [List.length_take, size_list] at hj
    refine hall j (by omega) ?_
    unfold byt
    rw [List.getElem_take] at e
    rw [List.getD_eq_getElem?_getD, List.getElem?_eq_getElem (by rw [size_list]; omega)]
    simp [e]
  have hA : cutA b s.data.toList = s.data.toList.take k := by
    conv => lhs; rw [e0]
    unfold cutA
    rw [List.takeWhile_append_of_pos (by intro x hx; simp; intro e; exact hno (e ▸ hx))]
    simp
  have hB : cutB b s.data.toList = s.data.toList.drop (k + 1) := by
    conv => lhs; rw [e0]
    unfold cutB
    rw [List.dropWhile_append_of_pos (by intro x hx; simp; intro e; exact hno (e ▸ hx))]
    simp
  refine ⟨eq_list ?_, eq_list ?_, ?_⟩
  · rw [str_list, hA, ext_list]; simp
  · rw [str_list, hB, ext_list, List.take_of_length_le (by rw [List.length_drop, size_list]; omega)]
  · unfold has; exact contains_of hk h
theorem cut_none (s : ByteArray) (b : UInt8) (hall : ∀ j, j < s.size → byt s j ≠ (b.toNat : Int)) : str (cutA b s.data.toList) = s ∧ cutB b s.data.toList = [] ∧ has b s.data.toList = false := by
  have h : has b s.data.toList = false := contains_not hall
  exact ⟨by rw [cutA_all b _ h, str_self], cutB_none b _ h, h⟩

set_option maxRecDepth 100000 in
set_option maxHeartbeats 1000000 in
theorem rcut_any (s : ByteArray) (hs : s.size ≤ 140737488355328) (b : UInt8) (w : World) :
    Calls Tryz.prog 39 #[.string s, .int .u8 (b.toNat : Int)] w fun e w' => e = .returned (.tuple #[.string (str (cutA b s.data.toList)), .string (str (cutB b s.data.toList)), .bool (has b s.data.toList)]) ∧ Below w.heap.size w w' := by
  go_enter Tryz.func39, Tryz.ntmps39
  go_wp2
  go_loop [7] (fun i => ∃ k : Nat, k ≤ s.size ∧ i = .int .i64 k ∧ Hid (∀ j, j < k → byt s j ≠ (b.toNat : Int))) (fun i => s.size - (intOf i).toNat)
  case atStart => exact ⟨0, Nat.zero_le _, rfl, (fun j hj => by omega : ∀ j, j < 0 → _)⟩
  case round =>
    obtain ⟨k, hk, rfl, hall⟩ := hrel
    by_cases hlt : k < s.size
    · have hby : ((s[k].toNat : Nat) : Int) = byt s k := byt_at s k hlt
      by_cases h : byt s k = (b.toNat : Int)
      · have HR : Hid (_) := cut_at s b k hlt hall.out h
        have hb : (byt s k == (b.toNat : Int)) = true := by simp [h]
        have hk1 : IntKind.i64.wrap ((k : Int) + 1) = ((k + 1 : Nat) : Int) := by rw [IntKind.wrap_i64]; omega
        clear h
        go_wp2
        go_region
        all_goals go_wp2
        all_goals go_ret3
        all_goals exact ⟨by rw [HR.out.1, HR.out.2.1, HR.out.2.2]; rfl, (Below.refl _ w).drew⟩
      · have hb : (byt s k == (b.toNat : Int)) = false := by simp [h]
        have HA : Hid (∀ j, j < k + 1 → byt s j ≠ (b.toNat : Int)) := by
          intro j hj
          by_cases hjk : j = k
          · subst hjk; exact h
          · exact hall.out j (by omega)
        clear h
        go_wp2
        go_round
        case rel => exact ⟨k + 1, by omega, by go_num, HA⟩
        case measure => simp [intOf]; omega
    · obtain rfl : k = s.size := by omega
      have HR : Hid (_) := cut_none s b hall.out
      go_wp2
      go_ret3
      exact ⟨by rw [HR.out.1, HR.out.2.1, HR.out.2.2]; rfl, Below.refl _ _⟩

set_option maxRecDepth 100000 in
set_option maxHeartbeats 2000000 in
theorem rsplit_any (s : ByteArray) (hs : s.size ≤ 4194304) (b : UInt8) (w : World) :
    Calls Tryz.prog 38 #[.string s, .int .u8 (b.toNat : Int)] w fun e w' => ∃ v, e = .returned v ∧ OwnS w.heap.size v (splitB b s.data.toList) w' ∧ Below w.heap.size w w' := by
  have HC : Hid (∀ (t : ByteArray), t.size ≤ s.size → ∀ w, _) := fun t ht w => rcut_any t (by omega) b w
  have HE : Hid (_) := ownS_empty w
  have HL := split_len b s.data.toList
  rw [size_list] at HL
  go_enter Tryz.func38, Tryz.ntmps38
  go_wp2
  go_loopw [0, 5] (fun sv lv wr => ∃ cur : List UInt8, sv = .string (str cur) ∧ ∃ pre : List (List UInt8), Hid (pre ++ splitB b cur = splitB b s.data.toList) ∧ Hid (cur.length ≤ s.size) ∧ Hid (OwnS w.heap.size lv pre wr) ∧ Hid (Below w.heap.size w wr)) (fun sv _ _ => match sv with | .string r => r.size | _ => 0)
  case atStart => exact ⟨s.data.toList, by rw [str_self], [], (rfl : [] ++ splitB b s.data.toList = _), (by rw [size_list]; exact Nat.le_refl _ : s.data.toList.length ≤ s.size), HE.out, (Below.refl _ w).alloc (Nat.le_refl _) _⟩
  case round =>
    obtain ⟨cur, rfl, pre, hpre, hcl, hown, hbl⟩ := hrel
    have hC := HC.out (str cur) (by rw [str_size]; exact hcl.out)
    rw [str_list] at hC
    have HC2 : Hid (∀ w, _) := hC
    have HSP : Hid (_) := split_cut b cur
    have hplen : pre.length + 1 ≤ s.size + 1 := by
      have h1 := congrArg List.length hpre.out
      have h4 : 0 < (splitB b cur).length := List.length_pos_iff.2 (splitB_ne b cur)
      rw [List.length_append] at h1
      omega
    have hbl2 : (cutB b cur).length ≤ cur.length := cutB_len b cur
    have hdec : has b cur = true → (cutB b cur).length < cur.length := by
      intro h
      have := congrArg List.length (cut_app b cur h)
      rw [List.length_append, List.length_cons] at this
      omega
    clear hC
    cases hh : has b cur with
    | true =>
      have HD : Hid (_) := hdec hh
      rw [hh] at HC2 HSP
      have HSP2 : Hid (splitB b cur = cutA b cur :: splitB b (cutB b cur)) := (by have := HSP.out; rw [if_pos rfl] at this; exact this : _ = _)
      clear hdec hh HSP
      generalize cutA b cur = A at *
      generalize cutB b cur = B at *
      go_wp2_with (first | (go_at_call 39; refine (HC2.out _).mono ?_; rintro e w1 ⟨rfl, k1⟩; have ho1 := hown.out.below k1; have hs1 := Nat.le_trans hbl.out.size k1.size) | (at_builtin; go_must (refine wp_appS rfl (.tmp 17) (.tmp 19) rfl w.heap.size _ pre _ A rfl ho1 rfl (by omega) hs1 ?_); intro v2 w2 o2 b2))
      go_roundw
      case rel => exact ⟨B, rfl, pre ++ [A], (by rw [List.append_assoc]; have := hpre.out; rw [HSP2.out] at this; exact this : (pre ++ [A]) ++ splitB b B = _), (Nat.le_trans (Nat.le_of_lt HD.out) hcl.out : B.length ≤ s.size), o2, hbl.out.trans ((k1.mono hbl.out.size).trans b2)⟩
      case measure => simp [str_size]; exact HD.out
    | false =>
      rw [hh] at HC2 HSP
      have HSP2 : Hid (splitB b cur = [cutA b cur]) := (by have := HSP.out; rw [if_neg (by simp)] at this; exact this : _ = _)
      clear hdec hh HSP
      generalize cutA b cur = A at *
      generalize cutB b cur = B at *
      go_wp2_with (first | (go_at_call 39; refine (HC2.out _).mono ?_; rintro e w1 ⟨rfl, k1⟩; have ho1 := hown.out.below k1; have hs1 := Nat.le_trans hbl.out.size k1.size) | (at_builtin; go_must (refine wp_appS rfl (.tmp 17) (.tmp 19) rfl w.heap.size _ pre _ A rfl ho1 rfl (by omega) hs1 ?_); intro v2 w2 o2 b2))
      go_ret
      refine ⟨_, rfl, ?_, hbl.out.trans ((k1.mono hbl.out.size).trans b2)⟩
      have := hpre.out
      rw [HSP2.out] at this
      rw [← this]
      exact o2

end Tg
end Go.Proofs.YtlnlhhobmgiceaaGreatDoor

/-
  The document's Decode and Encode: the loops.
-/
set_option linter.unusedVariables false
set_option linter.unusedSimpArgs false
namespace Go.Proofs.YtlnlhhobmgiceaaGreatDoor
open Go.RowKit Go.Shelf
namespace Tg
open Oc

theorem vals_le {a b : UInt8} (pre : List Sg) (x : Sg) (hz : x.z = [37, a, b]) : valS x = [byteOf a b] := by unfold valS; rw [hz]

set_option maxRecDepth 100000 in
set_option maxHeartbeats 4000000 in
theorem rDecode_any (s : ByteArray) (hs : s.size ≤ 40000000000) (w : World) :
    Calls Tryz.prog 14 #[.string s] w fun e w' => e = .returned (.tuple #[.string (str (decR s.data.toList).1), .int .i64 ((decR s.data.toList).2.1 : Int), .int .i64 (decR s.data.toList).2.2]) ∧ Below w.heap.size w w' := by
  have HN : Hid (_) := Ow.none w
  have HT : Hid (∀ k, k ≤ s.size → ∀ w, _) := fun k hk w => triple_any s (by omega) k hk w
  have HS : Hid (∀ k, k + 2 < s.size → trip (s.data.toList.drop k) = true → ∀ w, _) := fun k h1 h2 w => says_any s (by omega) k h1 h2 w
  go_enter Tryz.func14, Tryz.ntmps14
  go_wp2
  go_loopw [5, 6] (fun ov i wr => ∃ k : Nat, k ≤ s.size ∧ i = .int .i64 k ∧ ∃ pre, Hid (pre ++ sg k (s.data.toList.drop k) = sg 0 s.data.toList) ∧ Hid (pre.length ≤ k) ∧ Hid (∀ y ∈ pre, bad y = false) ∧ Hid (Ow w.heap.size ov (pre.flatMap valS) wr) ∧ Hid (Below w.heap.size w wr)) (fun _ i _ => s.size - (intOf i).toNat)
  case atStart => exact ⟨0, Nat.zero_le _, rfl, [], (rfl : [] ++ sg 0 (s.data.toList.drop 0) = _), (Nat.le_refl 0 : _ ≤ 0), (show ∀ y ∈ ([] : List Sg), bad y = false from fun y hy => nomatch hy), HN.out, (Below.refl _ w).alloc (Nat.le_refl _) _⟩
  case round =>
    rename_i ov
    obtain ⟨k, hk, rfl, pre, hpre, hpl, hgood, hown, hbl⟩ := hrel
    have hsz := hbl.out.size
    by_cases hlt : k < s.size
    · have h0 : ((s[k].toNat : Nat) : Int) = ((s.data.toList.getD k 0).toNat : Int) := by rw [getD_of s k hlt]
      have hvl : (pre.flatMap valS).length + 1 ≤ 140737488355328 := by rw [vals_len]; have := hpl.out; omega
      by_cases hp : s.data.toList.getD k 0 = 37
      · have hp2 : (((s.data.toList.getD k 0).toNat : Int) == 37) = true := by rw [hp]; rfl
        rw [hp] at h0
        cases ht : trip (s.data.toList.drop k) with
        | true =>
          obtain ⟨x, hx, hxa, hxz, hk3⟩ := nxt3 s k ht
          have HS' : Hid (∀ w, _) := HS.out k hk3 ht
          have HT' : Hid (∀ w, _) := HT.out k hk
          rw [ht] at HT'
          have hv := vals_le pre x hxz
          have hbx : bad x = false := by unfold bad; rw [hxz]; rfl
          generalize byteOf (s.data.toList.getD (k + 1) 0) (s.data.toList.getD (k + 2) 0) = u at *
          have HV : Hid (_) := hv
          have HX : Hid (_) := hx
          have HVL : Hid (_) := hvl
          clear hv hx hxz ht hp hp2 hvl
          go_wp2_with (first | (go_at_call 36; refine (HT'.out _).mono ?_; rintro e w1 ⟨rfl, rfl⟩) | (go_at_call 37; refine (HS'.out _).mono ?_; rintro e w1 ⟨rfl, rfl⟩) | (at_builtin; go_must (refine wp_ap rfl (.tmp 21) (.tmp 25) rfl w.heap.size _ (pre.flatMap valS) [u] _ _ rfl rfl hown.out rfl HVL.out hsz ?_); intro v' w' o1 o2))
          go_roundw
          case rel => exact ⟨k + 3, by omega, by go_num, pre ++ [x], (by rw [List.append_assoc]; exact (congrArg (pre ++ ·) HX.out).symm.trans hpre.out : (pre ++ [x]) ++ sg (k + 3) (s.data.toList.drop (k + 3)) = _), (by have := hpl.out; rw [List.length_append, List.length_singleton]; omega : (pre ++ [x]).length ≤ k + 3), (by intro y hy; rcases List.mem_append.1 hy with h | h; exact hgood.out y h; simp at h; subst h; exact hbx : ∀ y ∈ pre ++ [x], _), (by rw [List.flatMap_append, List.flatMap_cons, HV.out]; exact o1 : Ow _ _ _ _), hbl.out.trans o2⟩
          case measure => simp [intOf]; omega
        | false =>
          obtain ⟨x, hx, hxa, hxz⟩ := nxt1 s k hlt ht
          have HT' : Hid (∀ w, _) := HT.out k hk
          rw [ht] at HT'
          rw [hp] at hxz
          have hbx : bad x = true := by unfold bad; rw [hxz]; rfl
          have HR : Hid (_) := decR_at s.data.toList pre x (sg (k + 1) (s.data.toList.drop (k + 1))) (by rw [List.append_assoc]; exact (congrArg (pre ++ ·) hx).symm.trans hpre.out) hgood.out hbx
          rw [hxa] at HR
          clear hx hxz ht hp hp2 hvl
          go_wp2_with (go_at_call 36; refine (HT'.out _).mono ?_; rintro e w1 ⟨rfl, rfl⟩)
          go_ret3
          exact ⟨by rw [HR.out]; rfl, hbl.out⟩
      · have hp2 : (((s.data.toList.getD k 0).toNat : Int) == 37) = false := by
          rw [beq_eq_false_iff_ne]
          intro e
          exact hp (UInt8.toNat_inj.1 (by show _ = 37; omega))
        have ht : trip (s.data.toList.drop k) = false := by rw [drop_cons s k hlt]; exact trip_ne hp _
        obtain ⟨x, hx, hxa, hxz⟩ := nxt1 s k hlt ht
        have hv := valS_one hxz
        have hbx : bad x = false := by unfold bad; rw [hxz, beq_eq_false_iff_ne]; intro e; injection e with e; exact hp e
        generalize s.data.toList.getD k 0 = u at *
        have HV : Hid (_) := hv
        have HX : Hid (_) := hx
        have HVL : Hid (_) := hvl
        clear hv hx hxz ht hp hvl
        go_wp2_with (at_builtin; go_must (refine wp_ap rfl (.tmp 29) (.tmp 33) rfl w.heap.size _ (pre.flatMap valS) [u] _ _ rfl rfl hown.out rfl HVL.out hsz ?_); intro v' w' o1 o2)
        go_roundw
        case rel => exact ⟨k + 1, by omega, by go_num, pre ++ [x], (by rw [List.append_assoc]; exact (congrArg (pre ++ ·) HX.out).symm.trans hpre.out : (pre ++ [x]) ++ sg (k + 1) (s.data.toList.drop (k + 1)) = _), (by have := hpl.out; rw [List.length_append, List.length_singleton]; omega : (pre ++ [x]).length ≤ k + 1), (by intro y hy; rcases List.mem_append.1 hy with h | h; exact hgood.out y h; simp at h; subst h; exact hbx : ∀ y ∈ pre ++ [x], _), (by rw [List.flatMap_append, List.flatMap_cons, HV.out]; exact o1 : Ow _ _ _ _), hbl.out.trans o2⟩
        case measure => simp [intOf]; omega
    · obtain rfl : k = s.size := by omega
      have hfin : pre = sg 0 s.data.toList := by
        have := hpre.out
        rw [List.drop_of_length_le (by rw [size_list]; exact Nat.le_refl _), sg_nil, List.append_nil] at this
        exact this
      have hback := hown.out.back
      have HR : Hid (_) := decR_all s.data.toList (by rw [← hfin]; exact hgood.out)
      rw [← hfin] at HR
      generalize pre.flatMap valS = out at *
      clear hfin
      go_wp2
      go_ret3
      exact ⟨by rw [HR.out]; rfl, hbl.out⟩

end Tg
end Go.Proofs.YtlnlhhobmgiceaaGreatDoor
