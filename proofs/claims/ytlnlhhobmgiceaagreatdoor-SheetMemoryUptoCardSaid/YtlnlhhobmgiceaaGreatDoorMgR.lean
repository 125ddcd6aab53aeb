/- Several texts as one. -/
import Derived.Test.YtlnlhhobmgiceaaGreatDoorMgQ
import Derived.Test.YtlnlhhobmgiceaaGreatDoorMgF
import Derived.Lib.Replace
import Derived.Lib.CountLaws
import Derived.Test.YtlnlhhobmgiceaaGreatDoorMgM
/-
  The document's Decode and Encode: the loops.
-/
set_option linter.unusedVariables false
set_option linter.unusedSimpArgs false
namespace Go.Proofs.YtlnlhhobmgiceaaGreatDoor
open Go.RowKit Go.Shelf
namespace Tg
open Oc

theorem vals_le {a b : UInt8} (pre : List Sg) (x : Sg) (hz : x.z = [37, a, b]) : valS x = [byteOf a b] := by unfold valS; rw [hz]

set_option maxRecDepth 100000 in
set_option maxHeartbeats 4000000 in
theorem rDecode_any (s : ByteArray) (hs : s.size ≤ 40000000000) (w : World) :
    Calls Tryz.prog 14 #[.string s] w fun e w' => e = .returned (.tuple #[.string (str (decR s.data.toList).1), .int .i64 ((decR s.data.toList).2.1 : Int), .int .i64 (decR s.data.toList).2.2]) ∧ Below w.heap.size w w' := by
  have HN : Hid (_) := Ow.none w
  have HT : Hid (∀ k, k ≤ s.size → ∀ w, _) := fun k hk w => triple_any s (by omega) k hk w
  have HS : Hid (∀ k, k + 2 < s.size → trip (s.data.toList.drop k) = true → ∀ w, _) := fun k h1 h2 w => says_any s (by omega) k h1 h2 w
  go_enter Tryz.func14, Tryz.ntmps14
  go_wp2
  go_loopw [5, 6] (fun ov i wr => ∃ k : Nat, k ≤ s.size ∧ i = .int .i64 k ∧ ∃ pre, Hid (pre ++ sg k (s.data.toList.drop k) = sg 0 s.data.toList) ∧ Hid (pre.length ≤ k) ∧ Hid (∀ y ∈ pre, bad y = false) ∧ Hid (Ow w.heap.size ov (pre.flatMap valS) wr) ∧ Hid (Below w.heap.size w wr)) (fun _ i _ => s.size - (intOf i).toNat)
  case atStart => exact ⟨0, Nat.zero_le _, rfl, [], (rfl : [] ++ sg 0 (s.data.toList.drop 0) = _), (Nat.le_refl 0 : _ ≤ 0), (show ∀ y ∈ ([] : List Sg), bad y = false from fun y hy => nomatch hy), HN.out, (Below.refl _ w).alloc (Nat.le_refl _) _⟩
  case round =>
    rename_i ov
    obtain ⟨k, hk, rfl, pre, hpre, hpl, hgood, hown, hbl⟩ := hrel
    have hsz := hbl.out.size
    by_cases hlt : k < s.size
    · have h0 : ((s[k].toNat : Nat) : Int) = ((s.data.toList.getD k 0).toNat : Int) := by rw [getD_of s k hlt]
      have hvl : (pre.flatMap valS).length + 1 ≤ 140737488355328 := by rw [vals_len]; have := hpl.out; omega
      by_cases hp : s.data.toList.getD k 0 = 37
      · have hp2 : (((s.data.toList.getD k 0).toNat : Int) == 37) = true := by rw [hp]; rfl
        rw [hp] at h0
        cases ht : trip (s.data.toList.drop k) with
        | true =>
          obtain ⟨x, hx, hxa, hxz, hk3⟩ := nxt3 s k ht
          have HS' : Hid (∀ w, _) := HS.out k hk3 ht
          have HT' : Hid (∀ w, _) := HT.out k hk
          rw [ht] at HT'
          have hv := vals_le pre x hxz
          have hbx : bad x = false := by unfold bad; rw [hxz]; rfl
          generalize byteOf (s.data.toList.getD (k + 1) 0) (s.data.toList.getD (k + 2) 0) = u at *
          have HV : Hid (_) := hv
          have HX : Hid (_) := hx
          have HVL : Hid (_) := hvl
          clear hv hx hxz ht hp hp2 hvl
          go_wp2_with (first | (go_at_call 36; refine (HT'.out _).mono ?_; rintro e w1 ⟨rfl, rfl⟩) | (go_at_call 37; refine (HS'.out _).mono ?_; rintro e w1 ⟨rfl, rfl⟩) | (at_builtin; go_must (refine wp_ap rfl (.tmp 21) (.tmp 25) rfl w.heap.size _ (pre.flatMap valS) [u] _ _ rfl rfl hown.out rfl HVL.out hsz ?_); intro v' w' o1 o2))
          go_roundw
          case rel => exact ⟨k + 3, by omega, by go_num, pre ++ [x], (by rw [List.append_assoc]; exact (congrArg (pre ++ ·) HX.out).symm.trans hpre.out : (pre ++ [x]) ++ sg (k + 3) (s.data.toList.drop (k + 3)) = _), (by have := hpl.out; rw [List.length_append, List.length_singleton]; omega : (pre ++ [x]).length ≤ k + 3), (by intro y hy; rcases List.mem_append.1 hy with h | h; exact hgood.out y h; simp at h; subst h; exact hbx : ∀ y ∈ pre ++ [x], _), (by rw [List.flatMap_append, List.flatMap_cons, HV.out]; exact o1 : Ow _ _ _ _), hbl.out.trans o2⟩
          case measure => simp [intOf]; omega
        | false =>
          obtain ⟨x, hx, hxa, hxz⟩ := nxt1 s k hlt ht
          have HT' : Hid (∀ w, _) := HT.out k hk
          rw [ht] at HT'
          rw [hp] at hxz
          have hbx : bad x = true := by unfold bad; rw [hxz]; rfl
          have HR : Hid (_) := decR_at s.data.toList pre x (sg (k + 1) (s.data.toList.drop (k + 1))) (by rw [List.append_assoc]; exact (congrArg (pre ++ ·) hx).symm.trans hpre.out) hgood.out hbx
          rw [hxa] at HR
          clear hx hxz ht hp hp2 hvl
          go_wp2_with (go_at_call 36; refine (HT'.out _).mono ?_; rintro e w1 ⟨rfl, rfl⟩)
          go_ret3
          exact ⟨by rw [HR.out]; rfl, hbl.out⟩
      · have hp2 : (((s.data.toList.getD k 0).toNat : Int) == 37) = false := by
          rw [beq_eq_false_iff_ne]
          intro e
          exact hp (UInt8.toNat_inj.1 (by show _ = 37; omega))
        have ht : trip (s.data.toList.drop k) = false := by rw [drop_cons s k hlt]; exact trip_ne hp _
        obtain ⟨x, hx, hxa, hxz⟩ := nxt1 s k hlt ht
        have hv := valS_one hxz
        have hbx : bad x = false := by unfold bad; rw [hxz, beq_eq_false_iff_ne]; intro e; injection e with e; exact hp e
        generalize s.data.toList.getD k 0 = u at *
        have HV : Hid (_) := hv
        have HX : Hid (_) := hx
        have HVL : Hid (_) := hvl
        clear hv hx hxz ht hp hvl
        go_wp2_with (at_builtin; go_must (refine wp_ap rfl (.tmp 29) (.tmp 33) rfl w.heap.size _ (pre.flatMap valS) [u] _ _ rfl rfl hown.out rfl HVL.out hsz ?_); intro v' w' o1 o2)
        go_roundw
        case rel => exact ⟨k + 1, by omega, by go_num, pre ++ [x], (by rw [List.append_assoc]; exact (congrArg (pre ++ ·) HX.out).symm.trans hpre.out : (pre ++ [x]) ++ sg (k + 1) (s.data.toList.drop (k + 1)) = _), (by have := hpl.out; rw [List.length_append, List.length_singleton]; omega : (pre ++ [x]).length ≤ k + 1), (by intro y hy; rcases List.mem_append.1 hy with h | h; exact hgood.out y h; simp at h; subst h; exact hbx : ∀ y ∈ pre ++ [x], _), (by rw [List.flatMap_append, List.flatMap_cons, HV.out]; exact o1 : Ow _ _ _ _), hbl.out.trans o2⟩
        case measure => simp [intOf]; omega
    · obtain rfl : k = s.size := by omega
      have hfin : pre = sg 0 s.data.toList := by
        have := hpre.out
        rw [List.drop_of_length_le (by rw [size_list]; exact Nat.le_refl _), sg_nil, List.append_nil] at this
        exact this
      have hback := hown.out.back
      have HR : Hid (_) := decR_all s.data.toList (by rw [← hfin]; exact hgood.out)
      rw [← hfin] at HR
      generalize pre.flatMap valS = out at *
      clear hfin
      go_wp2
      go_ret3
      exact ⟨by rw [HR.out]; rfl, hbl.out⟩

end Tg
end Go.Proofs.YtlnlhhobmgiceaaGreatDoor

/-
  The document's scan, IsPath, plain.
-/
set_option linter.unusedVariables false
set_option linter.unusedSimpArgs false
namespace Go.Proofs.YtlnlhhobmgiceaaGreatDoor
open Go.RowKit Go.Shelf
namespace Tg
open Oc

def incol (c : UInt8) : Bool := (⟨#[58, 64]⟩ : ByteArray).data.toList.contains c
def inmore (more : ByteArray) (c : UInt8) : Bool := more.data.toList.contains c

theorem path_more : ∀ c, pathOk c = (unr c || (sub c || (incol c || inmore ⟨#[47]⟩ c))) := by
  have h : ∀ n : Nat, n < 256 → pathOk (UInt8.ofNat n) = (unr (UInt8.ofNat n) || (sub (UInt8.ofNat n) || (incol (UInt8.ofNat n) || inmore ⟨#[47]⟩ (UInt8.ofNat n)))) := by decide +kernel
  intro c
  have := h c.toNat c.toNat_lt
  simpa using this
theorem query_more : ∀ c, queryOk c = (unr c || (sub c || (incol c || inmore ⟨#[47, 63]⟩ c))) := by
  have h : ∀ n : Nat, n < 256 → queryOk (UInt8.ofNat n) = (unr (UInt8.ofNat n) || (sub (UInt8.ofNat n) || (incol (UInt8.ofNat n) || inmore ⟨#[47, 63]⟩ (UInt8.ofNat n)))) := by decide +kernel
  intro c
  have := h c.toNat c.toNat_lt
  simpa using this

end Tg
end Go.Proofs.YtlnlhhobmgiceaaGreatDoor

/-
  target: the pairs of a query, plain.
-/
set_option linter.unusedVariables false
set_option linter.unusedSimpArgs false
namespace Go.Proofs.YtlnlhhobmgiceaaGreatDoor
namespace Tg
open Oc

def sp (c : UInt8) : UInt8 := if c = 43 then 32 else c
def spd (l : List UInt8) : List UInt8 := (decR (l.map sp)).1
/-- A pair, as its cells say it: name, value, has. -/
def pairR (l : List UInt8) : List UInt8 × List UInt8 × Bool := (spd (cutA 61 l), spd (cutB 61 l), has 61 l)
def pairsR (l : List UInt8) : List (List UInt8 × List UInt8 × Bool) := ((splitB 38 l).filter fun z => decide (z ≠ [])).map pairR

theorem sp_none (b : UInt8) : ∀ l : List UInt8, has 43 l = false → l.map sp = l := by
  intro l h
  have h2 : ∀ c ∈ l, c ≠ 43 := by
    intro c hc e
    subst e
    unfold has at h
    rw [List.contains_iff_mem.2 hc] at h
    cases h
  conv => rhs; rw [← List.map_id l]
  refine List.map_congr_left fun c hc => ?_
  unfold sp
  rw [if_neg (h2 c hc)]
  rfl
theorem cutA_no (b : UInt8) (l : List UInt8) : has b (cutA b l) = false := by
  unfold has cutA
  induction l with
  | nil => rfl
  | cons c t ih =>
    rw [List.takeWhile_cons]
    by_cases h : c = b
    · subst h; simp
    · rw [if_pos (by simpa using h), List.contains_cons, ih, show (b == c) = false from by simpa using fun e : b = c => h e.symm]
      rfl

theorem replace_go : ∀ (n : Nat) (l : List UInt8), l.length ≤ n → Lib.replaceK [43] [32] (Lib.count l [43]) l = l.map sp := by
  intro n
  induction n with
  | zero =>
    intro l hl
    obtain rfl : l = [] := List.length_eq_zero_iff.1 (by omega)
    rfl
  | succ n ih =>
    intro l hl
    have hi := index_one 43 l
    cases h : has 43 l with
    | false =>
      rw [h, if_neg (by simp)] at hi
      rw [Lib.count_miss hi, sp_none 43 l h]
      rfl
    | true =>
      rw [h, if_pos rfl] at hi
      rw [Lib.count_hit (by simp) hi, Nat.add_comm 1, Lib.replaceK_hit _ _ _ _ _ hi]
      have e := cut_app 43 l h
      have hA := cutA_no 43 l
      generalize cutA 43 l = A at *
      generalize cutB 43 l = B at *
      subst e
      have e1 : (A ++ 43 :: B).drop (A.length + 1) = B := by
        rw [List.drop_append]
        simp
      have e2 : (A ++ 43 :: B).take A.length = A := by simp
      rw [show ([43] : List UInt8).length = 1 from rfl, e1, e2, ih B (by simp at hl; omega), List.map_append, List.map_cons, sp_none 43 A hA]
      simp [sp]
theorem replace_sp (l : List UInt8) : Lib.replaceAll l [43] [32] = l.map sp := by
  unfold Lib.replaceAll Lib.replace Lib.replaceNum
  rw [if_neg (by decide), if_pos (Or.inl (by decide))]
  exact replace_go l.length l (Nat.le_refl _)

end Tg
end Go.Proofs.YtlnlhhobmgiceaaGreatDoor

/-
  Slices of parameters: of the call's own, read; the law's own 'pairs'.
-/
set_option linter.unusedVariables false
set_option linter.unusedSimpArgs false
namespace Go.Proofs.YtlnlhhobmgiceaaGreatDoor
open Go.RowKit Go.Shelf
namespace Tg
open Oc

abbrev Prm := List UInt8 × List UInt8 × Bool
def encQ1 (p : Prm) : List Value := [.string (str p.1), .string (str p.2.1), .bool p.2.2]
def encQ (ps : List Prm) : List Value := ps.flatMap encQ1
theorem encQ_snoc (ps : List Prm) (p : Prm) : encQ (ps ++ [p]) = encQ ps ++ encQ1 p := by unfold encQ; rw [List.flatMap_append]; simp
theorem encQ_len : ∀ ps : List Prm, (encQ ps).length = ps.length * 3
  | [] => rfl
  | p :: ps => by
    have := encQ_len ps
    unfold encQ at *
    rw [List.flatMap_cons, List.length_append, this, List.length_cons]
    show 3 + _ = _
    omega
/-- A slice of parameters (of the type T) of the call's own. -/
def OwnQ (T B : Nat) (v : Value) (ps : List Prm) (w : World) : Prop := w.ownsRow B T 3 v ps.length (encQ ps)
theorem ownQ_nil (T B : Nat) (w : World) : OwnQ T B (.slice none 0 0) [] w := World.ownsRow_nil w B T 3
theorem ownQ_empty {B : Nat} (T : Nat) (w : World) (hB : B ≤ w.heap.size) : OwnQ T B (.slice (some ⟨w.heap.size, 0, none⟩) 0 0) [] (w.alloc (.cells #[] T)) :=
  ⟨by simp [encQ], .inr ⟨w.heap.size, 0, #[], rfl, hB, heap_alloc_new w _, by simp, by decide, by simp, by simp [encQ]⟩⟩
theorem OwnQ.below {T B : Nat} {v : Value} {t : List Prm} {w w' : World} (h : OwnQ T B v t w) (b : Below w.heap.size w w') : OwnQ T B v t w' := by
  refine ⟨h.1, ?_⟩
  rcases h.2 with hn | ⟨g, cap, cur, rfl, hb, hg, rest⟩
  · exact .inl hn
  · refine .inr ⟨g, cap, cur, rfl, hb, ?_, rest⟩
    have hlt : g < w.heap.size := by
      rcases Nat.lt_or_ge g w.heap.size with h | h
      · exact h
      · simp [Array.getElem?_eq_none h] at hg
    rw [b.block g hlt]
    exact hg

/-- A parameter appended to a slice of the call's own. -/
theorem wp_appQ {ops : Array Oper} {rest : List Oper} {o : Oper} {a : Act} {Q : Exit → Act → World → Prop} (T S : Nat) (hinfo : (Tryz.prog.info? T).map (fun i => (i.zero, i.size, i.bytes)) = some (some (.agg #[.string ⟨#[]⟩, .string ⟨#[]⟩, .bool false]), 3, 40))
    (hund : Tryz.prog.underlying S = some (.slice T)) (hgd : o.guard = none) (s x : Operand)
    (ho : o.op = .call { callee := .builtin .append, args := #[s, x], argTypes := #[S, S] }) (B : Nat) (v : Value) (t : List Prm) (W : World) (p : Prm) (n1 n2 : ByteArray) (h1 : n1 = str p.1) (h2 : n2 = str p.2.1) (b : Bool) (h3 : b = p.2.2)
    (hs : a.eval s = v) (hown : OwnQ T B v t W) (g : Nat) (hx : a.eval x = .slice (some ⟨g, 0, none⟩) 1 1) (hg : g = W.heap.size) (hlen : t.length + 1 ≤ 2147483648) (hB : B ≤ W.heap.size)
    (h : ∀ v' w', OwnQ T B v' (t ++ [p]) w' → Below B W w' → wpList Tryz.prog ops Q rest (a.put o.dst v') w') : wpList Tryz.prog ops Q (o :: rest) a (W.alloc (.cells #[.string n1, .string n2, .bool b] T)) := by
  subst h1 h2 h3 hg
  obtain ⟨i0, hi, hz0, hz1, hz2⟩ := info_parts hinfo
  refine wpList_append_own _ hgd s x S ho B T i0 (.agg #[.string ⟨#[]⟩, .string ⟨#[]⟩, .bool false]) 3 40 hund hi hz0 hz1 hz2 rfl (by decide) v t.length _ hs (World.ownsRow.alloc hown _) ⟨W.heap.size, 0, none⟩ 1 1 (encQ1 p) hx rfl ?_ ?_ ?_ ?_ ?_ ?_
  · intro j u hj
    unfold encQ1 at hj
    match j, hj with
    | 0, hj => simp at hj; subst hj; simp [Addr.add]
    | 1, hj => simp at hj; subst hj; simp [Addr.add]
    | 2, hj => simp at hj; subst hj; simp [Addr.add]
  · intro u hu
    unfold encQ1 at hu
    simp at hu
    rcases hu with rfl | rfl | rfl <;> rfl
  · unfold maxLen; omega
  · omega
  · simp; omega
  · intro v' w' h1 h2 _
    refine h v' w' ?_ (((Below.refl B W).alloc hB _).grown h2 (by simp; omega) (fun k hk => (World.ownsRow.lt hown k hk).1))
    unfold OwnQ
    rw [encQ_snoc, List.length_append]
    exact h1

theorem infoQ : (Tryz.prog.info? 47).map (fun i => (i.zero, i.size, i.bytes)) = some (some (.agg #[.string ⟨#[]⟩, .string ⟨#[]⟩, .bool false]), 3, 40) := by kernel_rfl

def nth (t : List Prm) (j : Nat) : Prm := t.getD j ([], [], false)
/-- A slice that reads as these parameters. -/
def RdQ (v : Value) (t : List Prm) (w : World) : Prop :=
  ∃ a c, v = .slice a t.length c ∧ (t = [] ∨ ∃ g o, a = some ⟨g, o, none⟩ ∧ t.length ≤ c ∧ ∀ j, j < t.length → w.cell? ⟨g, o + j * 3, none⟩ = some (.string (str (nth t j).1)) ∧ w.cell? ⟨g, o + j * 3 + 1, none⟩ = some (.string (str (nth t j).2.1)) ∧ w.cell? ⟨g, o + j * 3 + 2, none⟩ = some (.bool (nth t j).2.2))
theorem encQ_at : ∀ (t : List Prm) (j : Nat), j < t.length → (encQ t)[j * 3]? = some (.string (str (nth t j).1)) ∧ (encQ t)[j * 3 + 1]? = some (.string (str (nth t j).2.1)) ∧ (encQ t)[j * 3 + 2]? = some (.bool (nth t j).2.2)
  | [], j, h => by simp at h
  | p :: t, 0, _ => ⟨rfl, rfl, rfl⟩
  | p :: t, j + 1, h => by
    have ih := encQ_at t j (by simpa using h)
    have e : encQ (p :: t) = [.string (str p.1), .string (str p.2.1), .bool p.2.2] ++ encQ t := rfl
    rw [e]
    have n : nth (p :: t) (j + 1) = nth t j := by unfold nth; simp
    rw [n, show (j + 1) * 3 = j * 3 + 3 by omega, show j * 3 + 3 + 1 = (j * 3 + 1) + 3 by omega, show j * 3 + 3 + 2 = (j * 3 + 2) + 3 by omega]
    exact ih
theorem OwnQ.rd {T B : Nat} {v : Value} {t : List Prm} {w : World} (h : OwnQ T B v t w) : RdQ v t w := by
  have hall := h
  rcases h.2 with ⟨rfl, h0⟩ | ⟨g, cap, cur, rfl, _, hg, hn, _⟩
  · exact ⟨none, 0, by rw [h0], .inl (List.length_eq_zero_iff.1 h0)⟩
  · refine ⟨_, _, rfl, .inr ⟨g, 0, rfl, by omega, fun j hj => ?_⟩⟩
    obtain ⟨e0, e1, e2⟩ := encQ_at t j hj
    have ea : ∀ k, Addr.add ⟨g, 0, none⟩ k = ⟨g, 0 + k, none⟩ := fun k => by unfold Addr.add; split <;> simp_all
    have c0 := World.ownsRow.cells hall (g := g) rfl _ _ e0
    have c1 := World.ownsRow.cells hall (g := g) rfl _ _ e1
    have c2 := World.ownsRow.cells hall (g := g) rfl _ _ e2
    rw [ea] at c0 c1 c2
    exact ⟨c0, c1, c2⟩
theorem RdQ.below {v : Value} {t : List Prm} {w w' : World} (h : RdQ v t w) (b : Below w.heap.size w w') : RdQ v t w' := by
  obtain ⟨a, c, rfl, h⟩ := h
  refine ⟨a, c, rfl, ?_⟩
  rcases h with h | ⟨g, o, e, hc, hcell⟩
  · exact .inl h
  · refine .inr ⟨g, o, e, hc, fun j hj => ?_⟩
    obtain ⟨h1, h2, h3⟩ := hcell j hj
    rw [b.cell (p := ⟨g, o + j * 3, none⟩) (World.block_lt_of_cell? w _ h1), b.cell (p := ⟨g, o + j * 3 + 1, none⟩) (World.block_lt_of_cell? w _ h2), b.cell (p := ⟨g, o + j * 3 + 2, none⟩) (World.block_lt_of_cell? w _ h3)]
    exact ⟨h1, h2, h3⟩


theorem infoQ2 : (Tryz.prog.info? 57).map (fun i => (i.zero, i.size, i.bytes)) = some (some (.agg #[.string ⟨#[]⟩, .string ⟨#[]⟩, .bool false]), 3, 40) := by kernel_rfl

end Tg
end Go.Proofs.YtlnlhhobmgiceaaGreatDoor
