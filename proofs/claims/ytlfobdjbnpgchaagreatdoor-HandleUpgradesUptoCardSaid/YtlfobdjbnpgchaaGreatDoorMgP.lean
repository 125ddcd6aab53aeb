/- Several texts as one. -/
import Derived.Test.YtlfobdjbnpgchaaGreatDoorMgO
import Derived.Test.YtlfobdjbnpgchaaGreatDoorFBd
import Derived.Test.YtlfobdjbnpgchaaGreatDoorMgN
import Derived.Test.YtlfobdjbnpgchaaGreatDoorMgD
/-
  The document's Quoted, Elements.
-/
set_option linter.unusedVariables false
set_option linter.unusedSimpArgs false
namespace Go.Proofs.YtlfobdjbnpgchaaGreatDoor
open Go.RowKit Go.Shelf
namespace Fd
open Oc Tg

theorem byt_list (s : ByteArray) (k : Nat) (c : UInt8) (h : s.data.toList.getD k 0 = c) : byt s k = (c.toNat : Int) := by unfold byt; rw [h]
theorem list_byt (s : ByteArray) (k : Nat) (c : UInt8) (h : byt s k = (c.toNat : Int)) : s.data.toList.getD k 0 = c := by unfold byt at h; exact UInt8.toNat_inj.1 (by omega)
theorem mapk (o : Option Nat) (a b : Nat) : (o.map (· + a)).map (· + b) = o.map (· + (a + b)) := by cases o <;> simp [Nat.add_assoc]

end Fd
end Go.Proofs.YtlfobdjbnpgchaaGreatDoor

/-
  field: Tokens, Has.
-/
set_option linter.unusedVariables false
set_option linter.unusedSimpArgs false
namespace Go.Proofs.YtlfobdjbnpgchaaGreatDoor
open Go.RowKit Go.Shelf
namespace Fd
open Oc Tg

def tokV (L : List (List UInt8)) : List (List UInt8) × Int := if L.all isTok then (L.map lower, 0) else ([], 10)
def tokensF (s : List UInt8) (t : List Fl) : List (List UInt8) × Int := if (listF s t).2 = 0 then tokV (listF s t).1 else ([], (listF s t).2)
theorem listV_short (M : Nat) : ∀ (T acc : List (List UInt8)), (∀ x ∈ acc, x.length ≤ M) → (∀ x ∈ T, x.length ≤ M) → ∀ x ∈ (listV T acc).1, x.length ≤ M
  | [], acc, ha, _, x, hx => ha x hx
  | v :: r, acc, ha, hT, x, hx => by
    unfold listV at hx
    split at hx
    · refine listV_short M r _ (fun y hy => ?_) (fun y hy => hT y (by simp [hy])) x hx
      rcases List.mem_append.1 hy with h | h
      · exact ha y h
      · exact Nat.le_trans ((listR_short v).2 y h) (hT v (by simp))
    · simp at hx
theorem listV_len : ∀ (T acc : List (List UInt8)), (listV T acc).1.length ≤ acc.length + sumV T
  | [], acc => by simp [listV, sumV]
  | x :: T, acc => by
    unfold listV
    split
    · have := listV_len T (acc ++ (listR x).1)
      have h2 := (listR_short x).1
      simp only [sumV, List.map_cons, List.sum_cons, List.length_append] at this ⊢
      omega
    · simp
theorem vals_short {M : Nat} {t : List Fl} (h : Each M t) (s : List UInt8) : ∀ x ∈ vals s t, x.length ≤ M := fun x hx => by
  unfold vals at hx
  obtain ⟨p, hp, rfl⟩ := List.mem_map.1 hx
  exact (h.filter _ p hp).2
def lowd (L : List (List UInt8)) (k : Nat) : List (List UInt8) := (L.take k).map lower ++ L.drop k
theorem lowd_len (L : List (List UInt8)) (k : Nat) : (lowd L k).length = L.length := by unfold lowd; simp; omega
theorem lowd_at (L : List (List UInt8)) (k : Nat) (h : k < L.length) : (lowd L k).getD k [] = L.getD k [] := by
  unfold lowd
  have hl : ((L.take k).map lower).length = k := by simp; omega
  rw [List.getD_eq_getElem?_getD, List.getD_eq_getElem?_getD, List.getElem?_append_right (by omega), hl, Nat.sub_self, List.getElem?_drop]
  simp
theorem lowd_set (L : List (List UInt8)) (k : Nat) (h : k < L.length) : (lowd L k).set k (lower (L.getD k [])) = lowd L (k + 1) := by
  unfold lowd
  have hl : ((L.take k).map lower).length = k := by simp; omega
  have e : L.take (k + 1) = L.take k ++ [L.getD k []] := by
    rw [List.take_add_one, List.getElem?_eq_getElem h, List.getD_eq_getElem?_getD, List.getElem?_eq_getElem h]; rfl
  rw [List.set_append, if_neg (by omega), hl, Nat.sub_self, dropS L k h, List.set_cons_zero, e, List.map_append]
  simp
theorem lowS_str (x : List UInt8) : lowS (str x) = str (lower x) := by unfold lowS; rw [str_list]

set_option maxRecDepth 100000 in
set_option maxHeartbeats 2000000 in
theorem Tokens6_any (v : Value) (t : List Fl) (s : List UInt8) (hs : s.length ≤ 1048576) (hS : sumF t ≤ 1048576) (w : World) (hrd : RdF v t w) (tab : Tab w) :
    Calls Tryz.prog 159 #[v, .string (str s)] w fun e w' => ∃ u, e = .returned (.tuple #[u, .int .i64 (tokensF s t).2]) ∧ OwnS w.heap.size u (tokensF s t).1 w' ∧ Below w.heap.size w w' := by
  have hlen := len_sumF t
  have HL : Hid (Calls _ _ _ _ _) := List6_any v t s hs hS w hrd
  have HT : Hid (Tab w) := tab
  have hv := sumV_filter s t
  have hll := listV_len (vals s t) []
  have HSh : Hid (∀ x ∈ (listF s t).1, x.length ≤ 1048576) := listV_short 1048576 (vals s t) [] (fun x hx => by cases hx) (vals_short ((each_sumF t).mono hS) s)
  have hLn : (listF s t).1.length ≤ 1048576 := by unfold listF; simp at hll; omega
  unfold tokensF
  obtain ⟨a, c, rfl, _⟩ := hrd
  clear hv hs hll tab
  generalize (listF s t).1 = L at *
  generalize (listF s t).2 = z at *
  generalize str s = S at *
  by_cases hz : z = 0
  · subst hz
    rw [if_pos rfl]
    go_enter Tryz.func159, Tryz.ntmps159
    go_wp2_with fail
    refine HL.out.mono ?_
    rintro e w1 ⟨u, rfl, ho, hb1⟩
    have HB1 : Hid (Below w.heap.size w w1) := hb1
    have HO1 : Hid (OwnS w.heap.size u (lowd L 0) w1) := by
      show OwnS _ _ _ _
      unfold lowd
      simpa using ho
    obtain ⟨ua, uc, rfl⟩ := ho.form
    clear ho hb1
    go_wp2
    go_loopw [21] (fun i wr => ∃ k : Nat, k ≤ L.length ∧ i = .int .i64 k ∧ Hid (∀ j, j < k → isTok (L.getD j []) = true) ∧ Hid (OwnS w.heap.size (.slice ua L.length uc) (lowd L k) wr) ∧ Hid (Below w.heap.size w wr)) (fun i _ => L.length - (intOf i).toNat)
    case atStart => exact ⟨0, Nat.zero_le _, rfl, (fun j hj => by omega : ∀ j, j < 0 → _), HO1, HB1⟩
    case round =>
      obtain ⟨k, hk, rfl, hall, hown, hbl⟩ := hrel
      by_cases hlt : k < L.length
      · have hld := lowd_len L k
        obtain ⟨g, hua, hcap, hcell⟩ := (show OwnS w.heap.size (.slice ua (lowd L k).length uc) (lowd L k) wr by rw [hld]; exact hown.out).cell k (by omega)
        subst hua
        rw [lowd_at L k hlt] at hcell
        have hcap2 : L.length ≤ uc := by omega
        have HSet : Hid (∀ W, OwnS w.heap.size (.slice (some ⟨g, 0, none⟩) L.length uc) (lowd L k) W → OwnS w.heap.size (.slice (some ⟨g, 0, none⟩) L.length uc) (lowd L (k + 1)) (W.setCell ⟨g, k, none⟩ (.string (str (lower (L.getD k []))))) ∧ W.frozen? ⟨g, k, none⟩ = false ∧ w.heap.size ≤ g) := fun W h => by
          have := ownS_set h k (by omega) (lower (L.getD k []))
          rw [lowd_set L k hlt] at this
          exact this
        have hxl : (L.getD k []).length ≤ 1048576 := HSh.out _ (by rw [List.getD_eq_getElem?_getD, List.getElem?_eq_getElem hlt]; exact List.getElem_mem hlt)
        have HI : Hid (∀ w, Tab w → Calls Tryz.prog 113 #[.string (str (L.getD k []))] w fun e w' => e = .returned (.bool (isTok (L.getD k []))) ∧ Below w.heap.size w w') := fun w tb => by
          have h := IsToken_any (str (L.getD k [])) (by rw [str_size]; unfold maxLen; omega) w tb
          rw [str_list] at h
          exact h
        have HLo : Hid (∀ w, Calls Tryz.prog 161 #[.string (str (L.getD k []))] w fun e w' => e = .returned (.string (str (lower (L.getD k [])))) ∧ Below w.heap.size w w') := fun w => by
          have h := Lower_any (str (L.getD k [])) (by rw [str_size]; unfold maxLen; omega) w
          rw [lowS_str] at h
          exact h
        have TT : isTok (L.getD k []) = true → Hid (∀ j, j < k + 1 → isTok (L.getD j []) = true) := fun h j hj => by
          by_cases hjk : j = k
          · subst hjk; exact h
          · exact hall.out j (by omega)
        have FF : isTok (L.getD k []) = false → Hid (tokV L = ([], 10)) := fun h => by
          show _ = _
          unfold tokV
          rw [if_neg]
          rw [all_not isTok [] L k hlt h]
          simp
        clear hxl hld
        generalize isTok (L.getD k []) = b at HI TT FF
        generalize str (lower (L.getD k [])) = Y at HSet HLo
        generalize str (L.getD k []) = X at hcell HI HLo
        cases b with
        | true =>
          have tt := TT rfl
          clear TT FF
          go_wp2_with fail
          refine (HI.out _ (HT.out.below hbl.out (Nat.le_refl _))).mono ?_
          rintro e w2 ⟨rfl, hb2⟩
          have HO2 : Hid (OwnS w.heap.size (.slice (some ⟨g, 0, none⟩) L.length uc) (lowd L k) w2) := hown.out.below hb2
          have HB2 : Hid (Below w.heap.size w w2) := bel_trans hbl.out hb2
          clear hb2
          go_wp2_with fail
          refine (HLo.out _).mono ?_
          rintro e w3 ⟨rfl, hb3⟩
          obtain ⟨hs1, hs2, hs3⟩ := HSet.out w3 (HO2.out.below hb3)
          have HO3 : Hid (OwnS w.heap.size (.slice (some ⟨g, 0, none⟩) L.length uc) (lowd L (k + 1)) (w3.setCell ⟨g, k, none⟩ (.string Y))) := hs1
          have HB3 : Hid (Below w.heap.size w (w3.setCell ⟨g, k, none⟩ (.string Y))) := (bel_trans HB2.out hb3).setCell hs3 _
          have hcw : ∃ u, w3.cell? ⟨g, k, none⟩ = some u := ⟨_, by
            have h2 := HO2.out.below hb3
            have hld := lowd_len L k
            obtain ⟨g2, e2, _, hc2⟩ := (show OwnS w.heap.size (.slice (some ⟨g, 0, none⟩) (lowd L k).length uc) (lowd L k) w3 by rw [hld]; exact h2).cell k (by omega)
            injection e2 with e2
            injection e2 with e2
            subst e2
            exact hc2⟩
          obtain ⟨cu, hcu⟩ := hcw
          clear hb3 hs1 hs3
          go_wp2
          go_roundw
          case rel => exact ⟨k + 1, by omega, by go_num, tt, HO3, HB3⟩
          case measure => simp [intOf]; omega
        | false =>
          have ff := FF rfl
          clear TT FF
          go_wp2_with fail
          refine (HI.out _ (HT.out.below hbl.out (Nat.le_refl _))).mono ?_
          rintro e w2 ⟨rfl, hb2⟩
          have HB2 : Hid (Below w.heap.size w w2) := bel_trans hbl.out hb2
          clear hb2
          go_wp2
          go_ret2
          rw [ff.out]
          exact ⟨_, rfl, ownS_nil _ _, HB2.out⟩
      · obtain rfl : k = L.length := by omega
        have HE : Hid (tokV L = (L.map lower, 0)) := by
          show _ = _
          unfold tokV
          rw [if_pos (all_of isTok [] L hall.out)]
        have HO2 : Hid (OwnS w.heap.size (.slice ua L.length uc) (L.map lower) wr) := by
          have h := hown.out
          rw [show lowd L L.length = L.map lower by unfold lowd; simp] at h
          exact h
        go_wp2
        go_ret2
        rw [HE.out]
        exact ⟨_, rfl, HO2.out, hbl.out⟩
  · rw [if_neg hz]
    have hzq : (z != 0) = true := by simp [hz]
    go_enter Tryz.func159, Tryz.ntmps159
    go_wp2_with fail
    refine HL.out.mono ?_
    rintro e w1 ⟨u, rfl, ho, hb1⟩
    obtain ⟨ua, uc, rfl⟩ := ho.form
    clear ho
    go_wp2
    go_ret2
    exact ⟨_, rfl, ownS_nil _ _, hb1⟩

end Fd
end Go.Proofs.YtlfobdjbnpgchaaGreatDoor

/-
  check, PrintLine, Print; the document's.
-/
set_option linter.unusedVariables false
set_option linter.unusedSimpArgs false
namespace Go.Proofs.YtlfobdjbnpgchaaGreatDoor
open Go.RowKit Go.Shelf
namespace Fd
open Oc Tg

/-- What is not right of a field. -/
def chkZ (p : Fl) : Int := if isName p.1 then if isValue p.2 then 0 else 61 else 60
def lineP (p : Fl) : List UInt8 := if p.2 = [] then p.1 ++ [58] else p.1 ++ [58] ++ [32] ++ p.2
def printL (p : Fl) : List UInt8 × Int := if chkZ p = 0 then (lineP p, 0) else ([], chkZ p)
def printG : List Fl → List UInt8 → List UInt8 × Int
  | [], acc => (acc, 0)
  | p :: t, acc => if chkZ p = 0 then printG t (acc ++ lineP p ++ [13, 10]) else ([], chkZ p)
def printT (t : List Fl) : List UInt8 × Int := if 100 < t.length then ([], 65) else printG t []
theorem chk_cases (p : Fl) : (chkZ p = 0 ∧ isName p.1 = true ∧ isValue p.2 = true) ∨ (chkZ p = 61 ∧ isName p.1 = true ∧ isValue p.2 = false) ∨ (chkZ p = 60 ∧ isName p.1 = false) := by
  unfold chkZ
  cases h1 : isName p.1 with
  | false => exact .inr (.inr ⟨rfl, rfl⟩)
  | true =>
    cases h2 : isValue p.2 with
    | false => exact .inr (.inl ⟨rfl, rfl, rfl⟩)
    | true => exact .inl ⟨rfl, rfl, rfl⟩
theorem drop_nth (t : List Fl) (k : Nat) (h : k < t.length) : t.drop k = nth t k :: t.drop (k + 1) := by
  rw [List.drop_eq_getElem_cons h]
  unfold nth
  rw [List.getD_eq_getElem?_getD, List.getElem?_eq_getElem h]
  rfl
theorem lineP_len (p : Fl) : (lineP p).length ≤ szF p := by
  unfold lineP szF
  split
  · simp; omega
  · simp; omega
theorem str_app (a b : List UInt8) : str a ++ str b = str (a ++ b) := by
  apply eq_list
  rw [ByteArray.data_append, Array.toList_append, str_list, str_list, str_list]
theorem join_str (a b : ByteArray) : (a ++ b) = str (a.data.toList ++ b.data.toList) := by
  conv => lhs; rw [← str_self a, ← str_self b]
  rw [str_app]

end Fd
end Go.Proofs.YtlfobdjbnpgchaaGreatDoor

/-
  The document's All, Joined, List, Tokens, In, Has.
-/
set_option linter.unusedVariables false
set_option linter.unusedSimpArgs false
namespace Go.Proofs.YtlfobdjbnpgchaaGreatDoor
open Go.RowKit Go.Shelf
namespace Fd
open Oc Tg

theorem vals_take (s : List UInt8) (t : List Fl) (k : Nat) (h : k < t.length) : vals s (t.take (k + 1)) = if alike s (nth t k) then vals s (t.take k) ++ [(nth t k).2] else vals s (t.take k) := by
  unfold vals
  rw [filter_take (alike s) t k h]
  split
  · rw [List.map_append]; rfl
  · rfl
theorem vals_len (s : List UInt8) (t : List Fl) : (vals s t).length ≤ t.length := by unfold vals; rw [List.length_map]; exact List.length_filter_le _ _

set_option maxRecDepth 100000 in
set_option maxHeartbeats 2000000 in
theorem rAll_any (v : Value) (t : List Fl) (s : List UInt8) (hs : s.length ≤ 1048576) (hM : Each 1048576 t) (hl : t.length ≤ 16777216) (w : World) (hrd : RdF v t w) :
    Calls Tryz.prog 55 #[v, .string (str s)] w fun e w' => ∃ u, e = .returned u ∧ OwnS w.heap.size u (vals s t) w' ∧ Below w.heap.size w w' := by
  have HR : Hid (RdF v t w) := hrd
  have HM : Hid (Each 1048576 t) := hM
  have HAk : Hid (∀ (p : Fl) w, p.1.length ≤ 1048576 → Calls Tryz.prog 92 #[.string (str p.1), .string (str s)] w fun e w' => e = .returned (.bool (alike s p)) ∧ Below w.heap.size w w') := fun p w h => by
    have h := rAlike_any (str p.1) (str s) (by rw [str_size]; unfold maxLen; omega) (by rw [str_size]; unfold maxLen; omega) w
    rw [low_alike] at h
    exact h
  obtain ⟨a, c, rfl, _⟩ := hrd
  clear hM hs
  generalize hS : str s = S at *
  clear hS
  go_enter Tryz.func55, Tryz.ntmps55
  go_wp2
  go_loopw [5, 10] (fun ov i wr => ∃ k : Nat, k ≤ t.length ∧ i = .int .i64 k ∧ Hid (OwnS w.heap.size ov (vals s (t.take k)) wr) ∧ Hid (Below w.heap.size w wr)) (fun _ i _ => t.length - (intOf i).toNat)
  case atStart => exact ⟨0, Nat.zero_le _, rfl, ownS_nil _ _, Below.refl _ _⟩
  case round =>
    obtain ⟨k, hk, rfl, hown, hbl⟩ := hrel
    by_cases hlt : k < t.length
    · obtain ⟨a', c', e', hcs⟩ := HR.out.below hbl.out
      injection e' with e1 _ e2
      subst e1 e2
      rcases hcs with h | ⟨g, o, rfl, hlc, hcell⟩
      · rw [h] at hlt; simp at hlt
      obtain ⟨p0, p1⟩ := hcell k hlt
      have hEk := HM.out.at k hlt
      have hvt := vals_take s t k hlt
      have TT : alike s (nth t k) = true → Hid (vals s (t.take (k + 1)) = vals s (t.take k) ++ [(nth t k).2]) := fun h => by
        have := hvt
        rw [if_pos h] at this
        exact this
      have FF : alike s (nth t k) = false → Hid (vals s (t.take (k + 1)) = vals s (t.take k)) := fun h => by
        have := hvt
        rw [if_neg (by rw [h]; simp)] at this
        exact this
      have HC : Hid (∀ w, Calls Tryz.prog 92 #[.string (str (nth t k).1), .string S] w fun e w' => e = .returned (.bool (alike s (nth t k))) ∧ Below w.heap.size w w') := fun w => HAk.out _ w hEk.1
      have hlk : (vals s (t.take k)).length + 1 ≤ 4294967296 := by
        have := vals_len s (t.take k)
        rw [List.length_take] at this
        omega
      clear hcell hEk hvt
      generalize alike s (nth t k) = b at HC TT FF
      generalize nth t k = p at *
      obtain ⟨pn, pv⟩ := p
      dsimp only at p0 p1 HC TT
      generalize hn : str pn = N at *
      clear hn
      have hb1 : Below wr.heap.size wr (wr.alloc (.cells #[.string N, .string (str pv)] 52)) := (Below.refl _ wr).alloc (Nat.le_refl _) _
      have HB1 : Hid (Below w.heap.size w (wr.alloc (.cells #[.string N, .string (str pv)] 52))) := bel_trans hbl.out hb1
      have HO1 : Hid (OwnS w.heap.size _ (vals s (t.take k)) (wr.alloc (.cells #[.string N, .string (str pv)] 52))) := hown.out.below hb1
      clear hb1
      cases b with
      | true =>
        have tt := TT rfl
        clear TT FF
        go_wp2_with fail
        refine (HC.out _).mono ?_
        rintro e w2 ⟨rfl, hb2⟩
        have c1 : w2.cell? ⟨wr.heap.size, 1, none⟩ = some (.string (str pv)) := by rw [hb2.cell (by simp)]; simp
        have HB2 : Hid (Below w.heap.size w w2) := bel_trans HB1.out hb2
        have HO2 : Hid (OwnS w.heap.size _ (vals s (t.take k)) w2) := HO1.out.below hb2
        have hs2 : w.heap.size ≤ w2.heap.size := HB2.out.size
        clear hb2
        go_wp2_with (at_builtin; go_must (refine wp_appS rfl (.tmp 18) (.tmp 21) rfl w.heap.size _ (vals s (t.take k)) _ pv rfl HO2.out rfl hlk hs2 ?_); intro v6 w6 hown6 hb6)
        have HO6 : Hid (OwnS w.heap.size v6 (vals s (t.take (k + 1))) w6) := (by rw [tt.out]; exact hown6 : OwnS _ v6 _ w6)
        have HB6 : Hid (Below w.heap.size w w6) := HB2.out.trans hb6
        clear hown6 hb6
        go_roundw
        case rel => exact ⟨k + 1, by omega, by go_num, HO6, HB6⟩
        case measure => simp [intOf]; omega
      | false =>
        have ff := FF rfl
        clear TT FF
        go_wp2_with fail
        refine (HC.out _).mono ?_
        rintro e w2 ⟨rfl, hb2⟩
        have HB2 : Hid (Below w.heap.size w w2) := bel_trans HB1.out hb2
        have HO2 : Hid (OwnS w.heap.size _ (vals s (t.take (k + 1))) w2) := (by rw [ff.out]; exact HO1.out.below hb2 : OwnS _ _ _ w2)
        clear hb2
        go_wp2
        go_roundw
        case rel => exact ⟨k + 1, by omega, by go_num, HO2, HB2⟩
        case measure => simp [intOf]; omega
    · obtain rfl : k = t.length := by omega
      rw [List.take_length] at hown
      go_wp2
      go_ret
      exact ⟨_, rfl, hown.out, hbl.out⟩

set_option maxRecDepth 100000 in
set_option maxHeartbeats 2000000 in
theorem rJoined_any (v : Value) (t : List Fl) (s : List UInt8) (hs : s.length ≤ 1048576) (hS : sumF t ≤ 1048576) (w : World) (hrd : RdF v t w) :
    Calls Tryz.prog 35 #[v, .string (str s)] w fun e w' => e = .returned (.tuple #[.string (str (joinF (vals s t))), .bool (decide (0 < (vals s t).length))]) ∧ Below w.heap.size w w' := by
  have hlen := len_sumF t
  have HA : Hid (Calls _ _ _ _ _) := rAll_any v t s hs ((each_sumF t).mono hS) (by omega) w hrd
  have hv := sumV_filter s t
  have hv2 := sumL_V (vals s t)
  have HLe : Hid (∀ k, (jp (vals s t) k).length ≤ 4000000) := fun k => by have := jp_len (vals s t) k; omega
  have HSh : Hid (∀ x ∈ vals s t, x.length ≤ 1048576) := vals_short ((each_sumF t).mono hS) s
  have hvl : (vals s t).length ≤ 1048576 := by omega
  obtain ⟨a, c, rfl, _⟩ := hrd
  clear hv hv2 hs
  generalize vals s t = T at *
  generalize str s = S at *
  go_enter Tryz.func35, Tryz.ntmps35
  go_wp2_with fail
  refine HA.out.mono ?_
  rintro e w1 ⟨u, rfl, ho, hb1⟩
  have HR : Hid (RdS u T w1) := ho.rd
  have HB1 : Hid (Below w.heap.size w w1) := hb1
  obtain ⟨a1, c1, rfl⟩ := ho.form
  clear ho hb1
  go_wp2
  go_loop [7, 15] (fun ov i => ∃ k : Nat, k ≤ T.length ∧ i = .int .i64 k ∧ ov = .string (str (jp T k))) (fun _ i => T.length - (intOf i).toNat)
  case atStart => exact ⟨0, Nat.zero_le _, rfl, rfl⟩
  case round =>
    obtain ⟨k, hk, rfl, rfl⟩ := hrel
    by_cases hlt : k < T.length
    · obtain ⟨a', c', e', hcs⟩ := HR.out
      injection e' with e1 _ e2
      subst e1 e2
      rcases hcs with h | ⟨g, o, rfl, hlc, hcell⟩
      · rw [h] at hlt; simp at hlt
      have p0 := hcell k hlt
      have hx := getD_short HSh.out k hlt
      have hj := HLe.out k
      have hjs : (str (jp T k)).size ≤ 4000000 := by rw [str_size]; exact hj
      have hxs : (str (T.getD k [])).size ≤ 1048576 := by rw [str_size]; exact hx
      by_cases h0 : 0 < k
      · have HEQ : Hid (str (jp T k) ++ ⟨#[44, 32]⟩ ++ str (T.getD k []) = str (jp T (k + 1))) := by
          show _ = _
          rw [jp_succ T k hlt h0, ← str_app, ← str_app]
          rfl
        clear hcell hx hj
        generalize hJ : str (jp T k) = J at *
        generalize hX : str (T.getD k []) = X at *
        clear hJ hX
        go_wp2
        go_round
        case rel => exact ⟨k + 1, by omega, by go_num, by rw [HEQ.out]⟩
        case measure => simp [intOf]; omega
      · obtain rfl : k = 0 := by omega
        rw [Nat.add_zero] at p0
        have HEQ : Hid (str (jp T 0) ++ str (T.getD 0 []) = str (jp T 1)) := by
          show _ = _
          rw [jp_one T hlt, str_app]
          rfl
        clear hcell hx hj
        generalize hJ : str (jp T 0) = J at *
        generalize hX : str (T.getD 0 []) = X at *
        clear hJ hX
        go_wp2
        go_round
        case rel => exact ⟨1, by omega, by go_num, by rw [HEQ.out]⟩
        case measure => simp [intOf]; omega
    · obtain rfl : k = T.length := by omega
      rw [jp_all]
      go_wp2
      go_ret2
      exact ⟨by simp, HB1.out⟩

/-- Is one of them that text? -/
def inL (L : List (List UInt8)) (x : List UInt8) : Bool := L.contains x

end Fd
end Go.Proofs.YtlfobdjbnpgchaaGreatDoor
