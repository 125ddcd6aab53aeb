/- Several texts as one. -/
import Derived.Test.YtggmidkmpgjnoaaDoorMgN
import Derived.Lib.Join
/-
  field: Joined, List, Tokens, Has.
-/
set_option linter.unusedVariables false
set_option linter.unusedSimpArgs false
namespace Go.Proofs.YtggmidkmpgjnoaaDoor
open Go.RowKit Go.Shelf
namespace Fd
open Oc Tg

theorem ownS_set {B g n c : Nat} {t : List (List UInt8)} {w : World} (h : OwnS B (.slice (some ⟨g, 0, none⟩) n c) t w) (j : Nat) (hj : j < t.length) (l : List UInt8) :
    OwnS B (.slice (some ⟨g, 0, none⟩) n c) (t.set j l) (w.setCell ⟨g, j, none⟩ (.string (str l))) ∧ w.frozen? ⟨g, j, none⟩ = false ∧ B ≤ g := by
  obtain ⟨h1, h2⟩ := h
  rcases h2 with ⟨hv, _⟩ | ⟨g', cap, cur, hv, hB, hg, hn, hm, hsz, htake⟩
  · cases hv
  · injection hv with e1 e2 e3
    injection e1 with e1
    injection e1 with e1
    subst e1 e3
    have e : encS (t.set j l) = (encS t).set j (.string (str l)) := by unfold encS; rw [List.map_set]
    refine ⟨⟨by rw [e]; simpa using h1, .inr ⟨g, c, cur.setIfInBounds j (.string (str l)), by rw [List.length_set, e2], hB, by simp [World.setCell, Array.getElem?_modify, hg], by rw [List.length_set]; exact hn, hm, by simpa using hsz, ?_⟩⟩, Lib.frozen_of_heap hg j, hB⟩
    rw [e, ← htake, List.length_set]
    simp [List.take_set]

theorem join_eq : ∀ t : List (List UInt8), Lib.join t [44, 32] = joinF t
  | [] => rfl
  | [x] => Lib.join_one x _
  | x :: y :: r => by
    have ih := join_eq (y :: r)
    rw [Lib.join_cons] at ih ⊢
    show x ++ Lib.joinTail [44, 32] (y :: r) = x ++ 44 :: 32 :: joinF (y :: r)
    rw [← ih]
    simp [Lib.joinTail]

/-- The lengths of texts, and one for each. -/
def sumV (t : List (List UInt8)) : Nat := (t.map fun x => x.length + 1).sum
theorem sumV_filter (s : List UInt8) : ∀ t : List Fl, sumV (vals s t) + 2 * (vals s t).length ≤ sumF t
  | [] => by simp [sumV, vals]
  | p :: t => by
    have ih := sumV_filter s t
    unfold vals at ih ⊢
    rw [List.filter_cons]
    by_cases h : alike s p = true
    · rw [if_pos h]
      simp only [sumV, sumF, szF, List.map_cons, List.sum_cons, List.length_cons] at ih ⊢
      omega
    · rw [if_neg h]
      simp only [sumF, List.map_cons, List.sum_cons] at ih ⊢
      omega
theorem sumL_V (t : List (List UInt8)) : sumL t + t.length = sumV t := by
  induction t with
  | nil => rfl
  | cons x t ih =>
    simp only [sumL, sumV, List.map_cons, List.sum_cons, List.length_cons] at ih ⊢
    omega

/-- The elements of values, one value's behind the other's. -/
def listV : List (List UInt8) → List (List UInt8) → List (List UInt8) × Int
  | [], acc => (acc, 0)
  | v :: r, acc => if (listR v).2 = 0 then listV r (acc ++ (listR v).1) else ([], (listR v).2)
def listF (s : List UInt8) (t : List Fl) : List (List UInt8) × Int := listV (vals s t) []
theorem dropS (t : List (List UInt8)) (k : Nat) (h : k < t.length) : t.drop k = t.getD k [] :: t.drop (k + 1) := by
  rw [List.drop_eq_getElem_cons h, List.getD_eq_getElem?_getD, List.getElem?_eq_getElem h]
  rfl
theorem listV_next (t : List (List UInt8)) (k : Nat) (h : k < t.length) (acc : List (List UInt8)) (hz : (listR (t.getD k [])).2 = 0) : listV (t.drop k) acc = listV (t.drop (k + 1)) (acc ++ (listR (t.getD k [])).1) := by
  rw [dropS t k h]
  show (if _ then _ else _) = _
  rw [if_pos hz]
theorem listV_bad (t : List (List UInt8)) (k : Nat) (h : k < t.length) (acc : List (List UInt8)) (hz : (listR (t.getD k [])).2 ≠ 0) : listV (t.drop k) acc = ([], (listR (t.getD k [])).2) := by
  rw [dropS t k h]
  show (if _ then _ else _) = _
  rw [if_neg hz]
theorem sumV_drop (t : List (List UInt8)) (k : Nat) (h : k < t.length) : sumV (t.drop k) = (t.getD k []).length + 1 + sumV (t.drop (k + 1)) := by
  rw [dropS t k h]
  simp [sumV]

set_option maxRecDepth 100000 in
set_option maxHeartbeats 2000000 in
theorem List6_any (v : Value) (t : List Fl) (s : List UInt8) (hs : s.length ≤ 1048576) (hS : sumF t ≤ 1048576) (w : World) (hrd : RdF v t w) :
    Calls Tryd.prog 53 #[v, .string (str s)] w fun e w' => ∃ u, e = .returned (.tuple #[u, .int .i64 (listF s t).2]) ∧ OwnS w.heap.size u (listF s t).1 w' ∧ Below w.heap.size w w' := by
  have hlen := len_sumF t
  have HA : Hid (Calls _ _ _ _ _) := All_any v t s hs ((each_sumF t).mono hS) (by omega) w hrd
  have hv := sumV_filter s t
  have hvl : (vals s t).length ≤ 1048576 := by omega
  have hvs : sumV (vals s t) ≤ 1048576 := by omega
  unfold listF
  obtain ⟨a, c, rfl, _⟩ := hrd
  clear hv hs
  generalize vals s t = T at *
  generalize str s = S at *
  go_enter Tryd.func53, Tryd.ntmps53
  go_wp2_with fail
  refine HA.out.mono ?_
  rintro e w1 ⟨u, rfl, ho, hb1⟩
  have HR : Hid (RdS u T w1) := ho.rd
  have HB1 : Hid (Below w.heap.size w w1) := hb1
  obtain ⟨a1, c1, rfl⟩ := ho.form
  clear ho hb1
  go_wp2
  go_loopw [6, 15] (fun ov i wr => ∃ (k : Nat) (acc : List (List UInt8)), k ≤ T.length ∧ i = .int .i64 k ∧ Hid (listV T [] = listV (T.drop k) acc) ∧ Hid (acc.length + sumV (T.drop k) ≤ 1048576) ∧ Hid (OwnS w1.heap.size ov acc wr) ∧ Hid (Below w1.heap.size w1 wr)) (fun _ i _ => T.length - (intOf i).toNat)
  case atStart => exact ⟨0, [], Nat.zero_le _, rfl, (rfl : listV T [] = listV T []), (by simpa using hvs : _ ≤ _), ownS_nil _ _, Below.refl _ _⟩
  case round =>
    obtain ⟨k, acc, hk, rfl, hst, hal, hown, hbl⟩ := hrel
    by_cases hlt : k < T.length
    · obtain ⟨a', c', e', hcs⟩ := HR.out.below hbl.out
      injection e' with e1 _ e2
      subst e1 e2
      rcases hcs with h | ⟨g, o, rfl, hlc, hcell⟩
      · rw [h] at hlt; simp at hlt
      have p0 := hcell k hlt
      have hsd := sumV_drop T k hlt
      have hsh := listR_short (T.getD k [])
      have hal' := hal.out
      have hgl : (T.getD k []).length ≤ 1048576 := by omega
      have HL : Hid (∀ w, Calls Tryd.prog 65 #[.string (str (T.getD k []))] w fun e w' => ∃ v, e = .returned (.tuple #[v, .int .i64 (listR (T.getD k [])).2]) ∧ OwnS w.heap.size v (listR (T.getD k [])).1 w' ∧ Below w.heap.size w w') := fun w => by
        have h := List_any (str (T.getD k [])) (by rw [str_size]; omega) w
        rw [str_list] at h
        exact h
      have NX : (listR (T.getD k [])).2 = 0 → Hid (listV T [] = listV (T.drop (k + 1)) (acc ++ (listR (T.getD k [])).1)) := fun h => hst.out.trans (listV_next T k hlt acc h)
      have BD : (listR (T.getD k [])).2 ≠ 0 → Hid (listV T [] = ([], (listR (T.getD k [])).2)) := fun h => hst.out.trans (listV_bad T k hlt acc h)
      have HN : Hid ((acc ++ (listR (T.getD k [])).1).length + sumV (T.drop (k + 1)) ≤ 1048576) := by
        show _ ≤ _
        rw [List.length_append]
        omega
      have hln : acc.length + (listR (T.getD k [])).1.length ≤ 4294967296 := by omega
      clear hcell hst hsd hsh hal' hgl
      generalize str (T.getD k []) = X at p0 HL
      generalize (listR (T.getD k [])).2 = z at HL NX BD
      generalize (listR (T.getD k [])).1 = L at HL NX HN hln
      by_cases hz : z = 0
      · have nx := NX hz
        subst hz
        clear NX BD
        go_wp2_with fail
        refine (HL.out _).mono ?_
        rintro e w2 ⟨y, rfl, hy, hb2⟩
        have HO2 : Hid (OwnS w1.heap.size _ acc w2) := hown.out.below hb2
        have HB2 : Hid (Below w1.heap.size w1 w2) := bel_trans hbl.out hb2
        have HY : Hid (RdS y L w2) := hy.rd
        have HYN : Hid (L = [] → y = .slice none 0 0 ∨ ∃ g c, y = .slice (some g) 0 c) := hy.nilish
        have hs2 : w1.heap.size ≤ w2.heap.size := HB2.out.size
        obtain ⟨ya, yc, rfl⟩ := hy.form
        clear hy hb2
        go_wp2_with (at_builtin; go_must (refine wp_appR rfl (.tmp 27) (.tmp 28) rfl w1.heap.size _ _ acc L rfl HO2.out rfl HY.out HYN.out hln hs2 ?_); intro v6 w6 hown6 hb6)
        have HO6 : Hid (OwnS w1.heap.size v6 (acc ++ L) w6) := hown6
        have HB6 : Hid (Below w1.heap.size w1 w6) := HB2.out.trans hb6
        clear hown6 hb6
        go_roundw
        case rel => exact ⟨k + 1, acc ++ L, by omega, by go_num, nx, HN, HO6, HB6⟩
        case measure => simp [intOf]; omega
      · have bd := BD hz
        have hzq : (z != 0) = true := by simp [hz]
        clear NX BD
        go_wp2_with fail
        refine (HL.out _).mono ?_
        rintro e w2 ⟨y, rfl, hy, hb2⟩
        have HB2 : Hid (Below w1.heap.size w1 w2) := bel_trans hbl.out hb2
        obtain ⟨ya, yc, rfl⟩ := hy.form
        clear hy hb2
        go_wp2
        go_ret2
        rw [bd.out]
        exact ⟨_, rfl, ownS_nil _ _, HB1.out.trans (HB2.out.mono HB1.out.size)⟩
    · have HE : Hid (listV T [] = (acc, 0)) := by
        show _ = _
        rw [hst.out, List.drop_eq_nil_of_le (by omega)]
        rfl
      go_wp2
      go_ret2
      rw [HE.out]
      exact ⟨_, rfl, hown.out.lower HB1.out.size, HB1.out.trans (hbl.out.mono HB1.out.size)⟩

end Fd
end Go.Proofs.YtggmidkmpgjnoaaDoor

/-
  The document's Quoted, Elements.
-/
set_option linter.unusedVariables false
set_option linter.unusedSimpArgs false
namespace Go.Proofs.YtggmidkmpgjnoaaDoor
open Go.RowKit Go.Shelf
namespace Fd
open Oc Tg

theorem byt_list (s : ByteArray) (k : Nat) (c : UInt8) (h : s.data.toList.getD k 0 = c) : byt s k = (c.toNat : Int) := by unfold byt; rw [h]
theorem list_byt (s : ByteArray) (k : Nat) (c : UInt8) (h : byt s k = (c.toNat : Int)) : s.data.toList.getD k 0 = c := by unfold byt at h; exact UInt8.toNat_inj.1 (by omega)
theorem mapk (o : Option Nat) (a b : Nat) : (o.map (· + a)).map (· + b) = o.map (· + (a + b)) := by cases o <;> simp [Nat.add_assoc]

end Fd
end Go.Proofs.YtggmidkmpgjnoaaDoor

/-
  field: Tokens, Has.
-/
set_option linter.unusedVariables false
set_option linter.unusedSimpArgs false
namespace Go.Proofs.YtggmidkmpgjnoaaDoor
open Go.RowKit Go.Shelf
namespace Fd
open Oc Tg

def tokV (L : List (List UInt8)) : List (List UInt8) × Int := if L.all isTok then (L.map lower, 0) else ([], 10)
def tokensF (s : List UInt8) (t : List Fl) : List (List UInt8) × Int := if (listF s t).2 = 0 then tokV (listF s t).1 else ([], (listF s t).2)
theorem listV_short (M : Nat) : ∀ (T acc : List (List UInt8)), (∀ x ∈ acc, x.length ≤ M) → (∀ x ∈ T, x.length ≤ M) → ∀ x ∈ (listV T acc).1, x.length ≤ M
  | [], acc, ha, _, x, hx => ha x hx
  | v :: r, acc, ha, hT, x, hx => by
    unfold listV at hx
    split at hx
    · refine listV_short M r _ (fun y hy => ?_) (fun y hy => hT y (by simp [hy])) x hx
      rcases List.mem_append.1 hy with h | h
      · exact ha y h
      · exact Nat.le_trans ((listR_short v).2 y h) (hT v (by simp))
    · simp at hx
theorem listV_len : ∀ (T acc : List (List UInt8)), (listV T acc).1.length ≤ acc.length + sumV T
  | [], acc => by simp [listV, sumV]
  | x :: T, acc => by
    unfold listV
    split
    · have := listV_len T (acc ++ (listR x).1)
      have h2 := (listR_short x).1
      simp only [sumV, List.map_cons, List.sum_cons, List.length_append] at this ⊢
      omega
    · simp
theorem vals_short {M : Nat} {t : List Fl} (h : Each M t) (s : List UInt8) : ∀ x ∈ vals s t, x.length ≤ M := fun x hx => by
  unfold vals at hx
  obtain ⟨p, hp, rfl⟩ := List.mem_map.1 hx
  exact (h.filter _ p hp).2
def lowd (L : List (List UInt8)) (k : Nat) : List (List UInt8) := (L.take k).map lower ++ L.drop k
theorem lowd_len (L : List (List UInt8)) (k : Nat) : (lowd L k).length = L.length := by unfold lowd; simp; omega
theorem lowd_at (L : List (List UInt8)) (k : Nat) (h : k < L.length) : (lowd L k).getD k [] = L.getD k [] := by
  unfold lowd
  have hl : ((L.take k).map lower).length = k := by simp; omega
  rw [List.getD_eq_getElem?_getD, List.getD_eq_getElem?_getD, List.getElem?_append_right (by omega), hl, Nat.sub_self, List.getElem?_drop]
  simp
theorem lowd_set (L : List (List UInt8)) (k : Nat) (h : k < L.length) : (lowd L k).set k (lower (L.getD k [])) = lowd L (k + 1) := by
  unfold lowd
  have hl : ((L.take k).map lower).length = k := by simp; omega
  have e : L.take (k + 1) = L.take k ++ [L.getD k []] := by
    rw [List.take_add_one, List.getElem?_eq_getElem h, List.getD_eq_getElem?_getD, List.getElem?_eq_getElem h]; rfl
  rw [List.set_append, if_neg (by omega), hl, Nat.sub_self, dropS L k h, List.set_cons_zero, e, List.map_append]
  simp
theorem lowS_str (x : List UInt8) : lowS (str x) = str (lower x) := by unfold lowS; rw [str_list]

set_option maxRecDepth 100000 in
set_option maxHeartbeats 2000000 in
theorem Tokens6_any (v : Value) (t : List Fl) (s : List UInt8) (hs : s.length ≤ 1048576) (hS : sumF t ≤ 1048576) (w : World) (hrd : RdF v t w) (tab : Tab w) :
    Calls Tryd.prog 36 #[v, .string (str s)] w fun e w' => ∃ u, e = .returned (.tuple #[u, .int .i64 (tokensF s t).2]) ∧ OwnS w.heap.size u (tokensF s t).1 w' ∧ Below w.heap.size w w' := by
  have hlen := len_sumF t
  have HL : Hid (Calls _ _ _ _ _) := List6_any v t s hs hS w hrd
  have HT : Hid (Tab w) := tab
  have hv := sumV_filter s t
  have hll := listV_len (vals s t) []
  have HSh : Hid (∀ x ∈ (listF s t).1, x.length ≤ 1048576) := listV_short 1048576 (vals s t) [] (fun x hx => by cases hx) (vals_short ((each_sumF t).mono hS) s)
  have hLn : (listF s t).1.length ≤ 1048576 := by unfold listF; simp at hll; omega
  unfold tokensF
  obtain ⟨a, c, rfl, _⟩ := hrd
  clear hv hs hll tab
  generalize (listF s t).1 = L at *
  generalize (listF s t).2 = z at *
  generalize str s = S at *
  by_cases hz : z = 0
  · subst hz
    rw [if_pos rfl]
    go_enter Tryd.func36, Tryd.ntmps36
    go_wp2_with fail
    refine HL.out.mono ?_
    rintro e w1 ⟨u, rfl, ho, hb1⟩
    have HB1 : Hid (Below w.heap.size w w1) := hb1
    have HO1 : Hid (OwnS w.heap.size u (lowd L 0) w1) := by
      show OwnS _ _ _ _
      unfold lowd
      simpa using ho
    obtain ⟨ua, uc, rfl⟩ := ho.form
    clear ho hb1
    go_wp2
    go_loopw [21] (fun i wr => ∃ k : Nat, k ≤ L.length ∧ i = .int .i64 k ∧ Hid (∀ j, j < k → isTok (L.getD j []) = true) ∧ Hid (OwnS w.heap.size (.slice ua L.length uc) (lowd L k) wr) ∧ Hid (Below w.heap.size w wr)) (fun i _ => L.length - (intOf i).toNat)
    case atStart => exact ⟨0, Nat.zero_le _, rfl, (fun j hj => by omega : ∀ j, j < 0 → _), HO1, HB1⟩
    case round =>
      obtain ⟨k, hk, rfl, hall, hown, hbl⟩ := hrel
      by_cases hlt : k < L.length
      · have hld := lowd_len L k
        obtain ⟨g, hua, hcap, hcell⟩ := (show OwnS w.heap.size (.slice ua (lowd L k).length uc) (lowd L k) wr by rw [hld]; exact hown.out).cell k (by omega)
        subst hua
        rw [lowd_at L k hlt] at hcell
        have hcap2 : L.length ≤ uc := by omega
        have HSet : Hid (∀ W, OwnS w.heap.size (.slice (some ⟨g, 0, none⟩) L.length uc) (lowd L k) W → OwnS w.heap.size (.slice (some ⟨g, 0, none⟩) L.length uc) (lowd L (k + 1)) (W.setCell ⟨g, k, none⟩ (.string (str (lower (L.getD k []))))) ∧ W.frozen? ⟨g, k, none⟩ = false ∧ w.heap.size ≤ g) := fun W h => by
          have := ownS_set h k (by omega) (lower (L.getD k []))
          rw [lowd_set L k hlt] at this
          exact this
        have hxl : (L.getD k []).length ≤ 1048576 := HSh.out _ (by rw [List.getD_eq_getElem?_getD, List.getElem?_eq_getElem hlt]; exact List.getElem_mem hlt)
        have HI : Hid (∀ w, Tab w → Calls Tryd.prog 54 #[.string (str (L.getD k []))] w fun e w' => e = .returned (.bool (isTok (L.getD k []))) ∧ Below w.heap.size w w') := fun w tb => by
          have h := IsToken_any (str (L.getD k [])) (by rw [str_size]; unfold maxLen; omega) w tb
          rw [str_list] at h
          exact h
        have HLo : Hid (∀ w, Calls Tryd.prog 38 #[.string (str (L.getD k []))] w fun e w' => e = .returned (.string (str (lower (L.getD k [])))) ∧ Below w.heap.size w w') := fun w => by
          have h := Lower_any (str (L.getD k [])) (by rw [str_size]; unfold maxLen; omega) w
          rw [lowS_str] at h
          exact h
        have TT : isTok (L.getD k []) = true → Hid (∀ j, j < k + 1 → isTok (L.getD j []) = true) := fun h j hj => by
          by_cases hjk : j = k
          · subst hjk; exact h
          · exact hall.out j (by omega)
        have FF : isTok (L.getD k []) = false → Hid (tokV L = ([], 10)) := fun h => by
          show _ = _
          unfold tokV
          rw [if_neg]
          rw [all_not isTok [] L k hlt h]
          simp
        clear hxl hld
        generalize isTok (L.getD k []) = b at HI TT FF
        generalize str (lower (L.getD k [])) = Y at HSet HLo
        generalize str (L.getD k []) = X at hcell HI HLo
        cases b with
        | true =>
          have tt := TT rfl
          clear TT FF
          go_wp2_with fail
          refine (HI.out _ (HT.out.below hbl.out (Nat.le_refl _))).mono ?_
          rintro e w2 ⟨rfl, hb2⟩
          have HO2 : Hid (OwnS w.heap.size (.slice (some ⟨g, 0, none⟩) L.length uc) (lowd L k) w2) := hown.out.below hb2
          have HB2 : Hid (Below w.heap.size w w2) := bel_trans hbl.out hb2
          clear hb2
          go_wp2_with fail
          refine (HLo.out _).mono ?_
          rintro e w3 ⟨rfl, hb3⟩
          obtain ⟨hs1, hs2, hs3⟩ := HSet.out w3 (HO2.out.below hb3)
          have HO3 : Hid (OwnS w.heap.size (.slice (some ⟨g, 0, none⟩) L.length uc) (lowd L (k + 1)) (w3.setCell ⟨g, k, none⟩ (.string Y))) := hs1
          have HB3 : Hid (Below w.heap.size w (w3.setCell ⟨g, k, none⟩ (.string Y))) := (bel_trans HB2.out hb3).setCell hs3 _
          have hcw : ∃ u, w3.cell? ⟨g, k, none⟩ = some u := ⟨_, by
            have h2 := HO2.out.below hb3
            have hld := lowd_len L k
            obtain ⟨g2, e2, _, hc2⟩ := (show OwnS w.heap.size (.slice (some ⟨g, 0, none⟩) (lowd L k).length uc) (lowd L k) w3 by rw [hld]; exact h2).cell k (by omega)
            injection e2 with e2
            injection e2 with e2
            subst e2
            exact hc2⟩
          obtain ⟨cu, hcu⟩ := hcw
          clear hb3 hs1 hs3
          go_wp2
          go_roundw
          case rel => exact ⟨k + 1, by omega, by go_num, tt, HO3, HB3⟩
          case measure => simp [intOf]; omega
        | false =>
          have ff := FF rfl
          clear TT FF
          go_wp2_with fail
          refine (HI.out _ (HT.out.below hbl.out (Nat.le_refl _))).mono ?_
          rintro e w2 ⟨rfl, hb2⟩
          have HB2 : Hid (Below w.heap.size w w2) := bel_trans hbl.out hb2
          clear hb2
          go_wp2
          go_ret2
          rw [ff.out]
          exact ⟨_, rfl, ownS_nil _ _, HB2.out⟩
      · obtain rfl : k = L.length := by omega
        have HE : Hid (tokV L = (L.map lower, 0)) := by
          show _ = _
          unfold tokV
          rw [if_pos (all_of isTok [] L hall.out)]
        have HO2 : Hid (OwnS w.heap.size (.slice ua L.length uc) (L.map lower) wr) := by
          have h := hown.out
          rw [show lowd L L.length = L.map lower by unfold lowd; simp] at h
          exact h
        go_wp2
        go_ret2
        rw [HE.out]
        exact ⟨_, rfl, HO2.out, hbl.out⟩
  · rw [if_neg hz]
    have hzq : (z != 0) = true := by simp [hz]
    go_enter Tryd.func36, Tryd.ntmps36
    go_wp2_with fail
    refine HL.out.mono ?_
    rintro e w1 ⟨u, rfl, ho, hb1⟩
    obtain ⟨ua, uc, rfl⟩ := ho.form
    clear ho
    go_wp2
    go_ret2
    exact ⟨_, rfl, ownS_nil _ _, hb1⟩

end Fd
end Go.Proofs.YtggmidkmpgjnoaaDoor
