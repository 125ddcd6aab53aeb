import Derived.Test.YtdcfhnbagldilaaGreatDoorMgK
import Derived.Test.YtdcfhnbagldilaaGreatDoorMgI
import Derived.Test.YtdcfhnbagldilaaGreatDoorMgE
import Derived.Test.YtdcfhnbagldilaaGreatDoorMgC
import Derived.Test.YtdcfhnbagldilaaGreatDoorMgJ
import Derived.Test.YtdcfhnbagldilaaGreatDoorMgD
import Derived.Test.YtdcfhnbagldilaaGreatDoorFRe
import Derived.Lib.SlicesS
set_option linter.unusedVariables false
set_option linter.unusedSimpArgs false
namespace Go.Proofs.YtdcfhnbagldilaaGreatDoor
open Go.RowKit Go.Shelf
namespace Fd
open Oc Tg
def tokV (L : List (List UInt8)) : List (List UInt8) × Int := if L.all isTok then (L.map lower, 0) else ([], 10)
def tokensF (s : List UInt8) (t : List Fl) : List (List UInt8) × Int := if (listF s t).2 = 0 then tokV (listF s t).1 else ([], (listF s t).2)
theorem listV_short (M : Nat) : ∀ (T acc : List (List UInt8)), (∀ x ∈ acc, x.length ≤ M) → (∀ x ∈ T, x.length ≤ M) → ∀ x ∈ (listV T acc).1, x.length ≤ M
  | [], acc, ha, _, x, hx => ha x hx
  | v :: r, acc, ha, hT, x, hx => by
    unfold listV at hx
    split at hx
    · refine listV_short M r _ (fun y hy => ?_) (fun y hy => hT y (by simp [hy])) x hx
      rcases List.mem_append.1 hy with h | h
      · exact ha y h
      · exact Nat.le_trans ((listR_short v).2 y h) (hT v (by simp))
    · simp at hx
theorem listV_len : ∀ (T acc : List (List UInt8)), (listV T acc).1.length ≤ acc.length + sumV T
  | [], acc => by simp [listV, sumV]
  | x :: T, acc => by
    unfold listV
    split
    · have := listV_len T (acc ++ (listR x).1)
      have h2 := (listR_short x).1
      simp only [sumV, List.map_cons, List.sum_cons, List.length_append] at this ⊢
      omega
    · simp
theorem vals_short {M : Nat} {t : List Fl} (h : Each M t) (s : List UInt8) : ∀ x ∈ vals s t, x.length ≤ M := fun x hx => by
  unfold vals at hx
  obtain ⟨p, hp, rfl⟩ := List.mem_map.1 hx
  exact (h.filter _ p hp).2
def lowd (L : List (List UInt8)) (k : Nat) : List (List UInt8) := (L.take k).map lower ++ L.drop k
theorem lowd_len (L : List (List UInt8)) (k : Nat) : (lowd L k).length = L.length := by unfold lowd; simp; omega
theorem lowd_at (L : List (List UInt8)) (k : Nat) (h : k < L.length) : (lowd L k).getD k [] = L.getD k [] := by
  unfold lowd
  have hl : ((L.take k).map lower).length = k := by simp; omega
  rw [List.getD_eq_getElem?_getD, List.getD_eq_getElem?_getD, List.getElem?_append_right (by omega), hl, Nat.sub_self, List.getElem?_drop]
  simp
theorem lowd_set (L : List (List UInt8)) (k : Nat) (h : k < L.length) : (lowd L k).set k (lower (L.getD k [])) = lowd L (k + 1) := by
  unfold lowd
  have hl : ((L.take k).map lower).length = k := by simp; omega
  have e : L.take (k + 1) = L.take k ++ [L.getD k []] := by
    rw [List.take_add_one, List.getElem?_eq_getElem h, List.getD_eq_getElem?_getD, List.getElem?_eq_getElem h]; rfl
  rw [List.set_append, if_neg (by omega), hl, Nat.sub_self, dropS L k h, List.set_cons_zero, e, List.map_append]
  simp
theorem lowS_str (x : List UInt8) : lowS (str x) = str (lower x) := by unfold lowS; rw [str_list]
set_option maxRecDepth 100000 in
set_option maxHeartbeats 2000000 in
theorem Tokens6_any (v : Value) (t : List Fl) (s : List UInt8) (hs : s.length ≤ 1048576) (hS : sumF t ≤ 1048576) (w : World) (hrd : RdF v t w) (tab : Tab w) :
    Calls Tryz.prog 137 #[v, .string (str s)] w fun e w' => ∃ u, e = .returned (.tuple #[u, .int .i64 (tokensF s t).2]) ∧ OwnS w.heap.size u (tokensF s t).1 w' ∧ Below w.heap.size w w' := by
  have hlen := len_sumF t
  have HL : Hid (Calls _ _ _ _ _) := List6_any v t s hs hS w hrd
  have HT : Hid (Tab w) := tab
  have hv := sumV_filter s t
  have hll := listV_len (vals s t) []
  have HSh : Hid (∀ x ∈ (listF s t).1, x.length ≤ 1048576) := listV_short 1048576 (vals s t) [] (fun x hx => by cases hx) (vals_short ((each_sumF t).mono hS) s)
  have hLn : (listF s t).1.length ≤ 1048576 := by unfold listF; simp at hll; omega
  unfold tokensF
  obtain ⟨a, c, rfl, _⟩ := hrd
  clear hv hs hll tab
  generalize (listF s t).1 = L at *
  generalize (listF s t).2 = z at *
  generalize str s = S at *
  by_cases hz : z = 0
  · subst hz
    rw [if_pos rfl]
    go_enter Tryz.func137, Tryz.ntmps137
    go_wp2_with fail
    refine HL.out.mono ?_
    rintro e w1 ⟨u, rfl, ho, hb1⟩
    have HB1 : Hid (Below w.heap.size w w1) := hb1
    have HO1 : Hid (OwnS w.heap.size u (lowd L 0) w1) := by
      show OwnS _ _ _ _
      unfold lowd
      simpa using ho
    obtain ⟨ua, uc, rfl⟩ := ho.form
    clear ho hb1
    go_wp2
    go_loopw [21] (fun i wr => ∃ k : Nat, k ≤ L.length ∧ i = .int .i64 k ∧ Hid (∀ j, j < k → isTok (L.getD j []) = true) ∧ Hid (OwnS w.heap.size (.slice ua L.length uc) (lowd L k) wr) ∧ Hid (Below w.heap.size w wr)) (fun i _ => L.length - (intOf i).toNat)
    case atStart => exact ⟨0, Nat.zero_le _, rfl, (fun j hj => by omega : ∀ j, j < 0 → _), HO1, HB1⟩
    case round =>
      obtain ⟨k, hk, rfl, hall, hown, hbl⟩ := hrel
      by_cases hlt : k < L.length
      · have hld := lowd_len L k
        obtain ⟨g, hua, hcap, hcell⟩ := (show OwnS w.heap.size (.slice ua (lowd L k).length uc) (lowd L k) wr by rw [hld]; exact hown.out).cell k (by omega)
        subst hua
        rw [lowd_at L k hlt] at hcell
        have hcap2 : L.length ≤ uc := by omega
        have HSet : Hid (∀ W, OwnS w.heap.size (.slice (some ⟨g, 0, none⟩) L.length uc) (lowd L k) W → OwnS w.heap.size (.slice (some ⟨g, 0, none⟩) L.length uc) (lowd L (k + 1)) (W.setCell ⟨g, k, none⟩ (.string (str (lower (L.getD k []))))) ∧ W.frozen? ⟨g, k, none⟩ = false ∧ w.heap.size ≤ g) := fun W h => by
          have := ownS_set h k (by omega) (lower (L.getD k []))
          rw [lowd_set L k hlt] at this
          exact this
        have hxl : (L.getD k []).length ≤ 1048576 := HSh.out _ (by rw [List.getD_eq_getElem?_getD, List.getElem?_eq_getElem hlt]; exact List.getElem_mem hlt)
        have HI : Hid (∀ w, Tab w → Calls Tryz.prog 131 #[.string (str (L.getD k []))] w fun e w' => e = .returned (.bool (isTok (L.getD k []))) ∧ Below w.heap.size w w') := fun w tb => by
          have h := IsToken_any (str (L.getD k [])) (by rw [str_size]; unfold maxLen; omega) w tb
          rw [str_list] at h
          exact h
        have HLo : Hid (∀ w, Calls Tryz.prog 114 #[.string (str (L.getD k []))] w fun e w' => e = .returned (.string (str (lower (L.getD k [])))) ∧ Below w.heap.size w w') := fun w => by
          have h := Lower_any (str (L.getD k [])) (by rw [str_size]; unfold maxLen; omega) w
          rw [lowS_str] at h
          exact h
        have TT : isTok (L.getD k []) = true → Hid (∀ j, j < k + 1 → isTok (L.getD j []) = true) := fun h j hj => by
          by_cases hjk : j = k
          · subst hjk; exact h
          · exact hall.out j (by omega)
        have FF : isTok (L.getD k []) = false → Hid (tokV L = ([], 10)) := fun h => by
          show _ = _
          unfold tokV
          rw [if_neg]
          rw [all_not isTok [] L k hlt h]
          simp
        clear hxl hld
        generalize isTok (L.getD k []) = b at HI TT FF
        generalize str (lower (L.getD k [])) = Y at HSet HLo
        generalize str (L.getD k []) = X at hcell HI HLo
        cases b with
        | true =>
          have tt := TT rfl
          clear TT FF
          go_wp2_with fail
          refine (HI.out _ (HT.out.below hbl.out (Nat.le_refl _))).mono ?_
          rintro e w2 ⟨rfl, hb2⟩
          have HO2 : Hid (OwnS w.heap.size (.slice (some ⟨g, 0, none⟩) L.length uc) (lowd L k) w2) := hown.out.below hb2
          have HB2 : Hid (Below w.heap.size w w2) := bel_trans hbl.out hb2
          clear hb2
          go_wp2_with fail
          refine (HLo.out _).mono ?_
          rintro e w3 ⟨rfl, hb3⟩
          obtain ⟨hs1, hs2, hs3⟩ := HSet.out w3 (HO2.out.below hb3)
          have HO3 : Hid (OwnS w.heap.size (.slice (some ⟨g, 0, none⟩) L.length uc) (lowd L (k + 1)) (w3.setCell ⟨g, k, none⟩ (.string Y))) := hs1
          have HB3 : Hid (Below w.heap.size w (w3.setCell ⟨g, k, none⟩ (.string Y))) := (bel_trans HB2.out hb3).setCell hs3 _
          have hcw : ∃ u, w3.cell? ⟨g, k, none⟩ = some u := ⟨_, by
            have h2 := HO2.out.below hb3
            have hld := lowd_len L k
            obtain ⟨g2, e2, _, hc2⟩ := (show OwnS w.heap.size (.slice (some ⟨g, 0, none⟩) (lowd L k).length uc) (lowd L k) w3 by rw [hld]; exact h2).cell k (by omega)
            injection e2 with e2
            injection e2 with e2
            subst e2
            exact hc2⟩
          obtain ⟨cu, hcu⟩ := hcw
          clear hb3 hs1 hs3
          go_wp2
          go_roundw
          case rel => exact ⟨k + 1, by omega, by go_num, tt, HO3, HB3⟩
          case measure => simp [intOf]; omega
        | false =>
          have ff := FF rfl
          clear TT FF
          go_wp2_with fail
          refine (HI.out _ (HT.out.below hbl.out (Nat.le_refl _))).mono ?_
          rintro e w2 ⟨rfl, hb2⟩
          have HB2 : Hid (Below w.heap.size w w2) := bel_trans hbl.out hb2
          clear hb2
          go_wp2
          go_ret2
          rw [ff.out]
          exact ⟨_, rfl, ownS_nil _ _, HB2.out⟩
      · obtain rfl : k = L.length := by omega
        have HE : Hid (tokV L = (L.map lower, 0)) := by
          show _ = _
          unfold tokV
          rw [if_pos (all_of isTok [] L hall.out)]
        have HO2 : Hid (OwnS w.heap.size (.slice ua L.length uc) (L.map lower) wr) := by
          have h := hown.out
          rw [show lowd L L.length = L.map lower by unfold lowd; simp] at h
          exact h
        go_wp2
        go_ret2
        rw [HE.out]
        exact ⟨_, rfl, HO2.out, hbl.out⟩
  · rw [if_neg hz]
    have hzq : (z != 0) = true := by simp [hz]
    go_enter Tryz.func137, Tryz.ntmps137
    go_wp2_with fail
    refine HL.out.mono ?_
    rintro e w1 ⟨u, rfl, ho, hb1⟩
    obtain ⟨ua, uc, rfl⟩ := ho.form
    clear ho
    go_wp2
    go_ret2
    exact ⟨_, rfl, ownS_nil _ _, hb1⟩
end Fd
end Go.Proofs.YtdcfhnbagldilaaGreatDoor
set_option linter.unusedVariables false
set_option linter.unusedSimpArgs false
namespace Go.Proofs.YtdcfhnbagldilaaGreatDoor
open Go.RowKit Go.Shelf
namespace Fd
open Oc Tg
structure Fr (B b : Nat) (w w' : World) : Prop where
  os : w'.os = w.os
  tape : w'.tape = w.tape
  output : w'.output = w.output
  block : ∀ k, k < B → k ≠ b → w'.heap[k]? = w.heap[k]?
  size : w.heap.size ≤ w'.heap.size
theorem Fr.refl (B b : Nat) (w : World) : Fr B b w w := ⟨rfl, rfl, rfl, fun _ _ _ => rfl, Nat.le_refl _⟩
theorem Fr.trans {B b : Nat} {x y z : World} (h : Fr B b x y) (k : Fr B b y z) : Fr B b x z :=
  ⟨k.os.trans h.os, k.tape.trans h.tape, k.output.trans h.output, fun i hi hb => (k.block i hi hb).trans (h.block i hi hb), Nat.le_trans h.size k.size⟩
theorem Fr.below {B b n : Nat} {w w' : World} (h : Fr B b w w') (hn : n ≤ B) (hb : n ≤ b) : Below n w w' := ⟨h.os, h.tape, h.output, h.size, fun k hk => h.block k (by omega) (by omega)⟩
theorem Fr.of_below {B b : Nat} {w w' : World} (h : Below w.heap.size w w') (hB : B ≤ w.heap.size) : Fr B b w w' :=
  ⟨h.os, h.tape, h.output, fun k hk _ => h.block k (by omega), h.size⟩
theorem Fr.set {B b j : Nat} (w : World) (v : Value) : Fr B b w (w.setCell ⟨b, j, none⟩ v) :=
  ⟨rfl, rfl, rfl, fun k _ hb => Below.heap_setCell _ _ _ _ hb, by simp⟩
theorem Fr.alloc {B b : Nat} (w : World) (o : Obj) (hB : B ≤ w.heap.size) : Fr B b w (w.alloc o) :=
  ⟨rfl, rfl, rfl, fun k hk _ => Lib.alloc_old w o k (by omega), by simp⟩
theorem Fr.grown {B b : Nat} {w w' : World} {v : Value} {n : Nat} {xs : List Value} (hg : w.grownBy w' v.ownBlock) (ho : w.ownsRow B 5 1 v n xs) (hB : B ≤ w.heap.size) : Fr B b w w' :=
  ⟨hg.os, hg.tape, hg.output, fun k hk _ => hg.block k (by omega) (fun e => by have := (ho.lt k e.symm).1; omega), hg.size⟩
def BdAt (B b : Nat) (p : Value) (l : List Value) (w : World) : Prop :=
  ∃ v, w.heap[b]? = some (.cells #[p, v] 105 (0, 0)) ∧ w.ownsRow B 5 1 v l.length l ∧ v.ownBlock ≠ some b
def Bd (B b : Nat) (l : List Value) (w : World) : Prop := BdAt B b (.pointer none) l w ∨ BdAt B b (.pointer (some ⟨b, 0, none⟩)) l w
theorem Bd.isB {B b : Nat} {l : List Value} {w : World} (h : Bd B b l w) : ∀ C, C ≤ B → C ≤ b → Lib.IsBuilder 105 5 C b l w := by
  intro C h1 h2
  have lower : ∀ {v : Value}, w.ownsRow B 5 1 v l.length l → w.ownsRow C 5 1 v l.length l := fun h => ⟨h.1, h.2.imp id fun ⟨g, c, cur, e, hg, r⟩ => ⟨g, c, cur, e, Nat.le_trans h1 hg, r⟩⟩
  rcases h with ⟨v, a, o, n⟩ | ⟨v, a, o, n⟩
  · exact .inl ⟨h2, v, a, lower o, n⟩
  · exact .inr ⟨h2, v, a, lower o, n⟩
theorem Bd.lt {B b : Nat} {l : List Value} {w : World} (h : Bd B b l w) : b < w.heap.size := by
  rcases h with ⟨v, a, _⟩ | ⟨v, a, _⟩ <;> exact (Array.getElem?_eq_some_iff.1 a).1
theorem BdAt.below {B b : Nat} {p : Value} {l : List Value} {w w' : World} (h : BdAt B b p l w) (hb : Below w.heap.size w w') : BdAt B b p l w' := by
  obtain ⟨v, a, o, n⟩ := h
  refine ⟨v, (hb.block b (Array.getElem?_eq_some_iff.1 a).1).trans a, ⟨o.1, o.2.imp id fun ⟨g, c, cur, e, hg, hh, r⟩ => ⟨g, c, cur, e, hg, (hb.block g (Array.getElem?_eq_some_iff.1 hh).1).trans hh, r⟩⟩, n⟩
theorem Bd.below {B b : Nat} {l : List Value} {w w' : World} (h : Bd B b l w) (hb : Below w.heap.size w w') : Bd B b l w' := h.imp (fun h => h.below hb) (fun h => h.below hb)
theorem Bd.new (w : World) (B : Nat) : Bd B w.heap.size [] (w.alloc (.cells #[.pointer none, .slice none 0 0] 105)) :=
  .inl ⟨.slice none 0 0, heap_alloc_new w _, World.ownsRow_nil _ _ _ _, by simp [Value.ownBlock]⟩
set_option maxHeartbeats 400000 in
theorem copyCheck_bd (B b : Nat) (l : List Value) (w : World) (h : Bd B b l w) :
    Calls Tryz.prog 96 #[.pointer (some ⟨b, 0, none⟩)] w fun e w' => e = .returned (.tuple #[]) ∧ BdAt B b (.pointer (some ⟨b, 0, none⟩)) l w' ∧ Fr B b w w' := by
  rcases h with h | h
  · have hI : Lib.BuilderAt 105 5 0 b (.pointer none) l w := by
      obtain ⟨v, a, o, n⟩ := h
      exact ⟨Nat.zero_le _, v, a, ⟨o.1, o.2.imp id fun ⟨g, c, cur, e, hg, r⟩ => ⟨g, c, cur, e, Nat.zero_le _, r⟩⟩, n⟩
    refine (copyCheck_fresh b w hI.cell0 hI.shape hI.frozen0).mono ?_
    rintro e w' ⟨rfl, rfl⟩
    refine ⟨rfl, ?_, Fr.set w _⟩
    obtain ⟨v, a, o, n⟩ := h
    refine ⟨v, by simp [World.setCell, Array.getElem?_modify, a], o.kept (row := some b) ⟨rfl, rfl, rfl, by simp [World.setCell], fun k _ hk => Below.heap_setCell _ _ _ _ (fun e => hk (by simp [e]))⟩ ?_, n⟩
    exact .inr n
  · have hI : Lib.BuilderAt 105 5 0 b (.pointer (some ⟨b, 0, none⟩)) l w := by
      obtain ⟨v, a, o, n⟩ := h
      exact ⟨Nat.zero_le _, v, a, ⟨o.1, o.2.imp id fun ⟨g, c, cur, e, hg, r⟩ => ⟨g, c, cur, e, Nat.zero_le _, r⟩⟩, n⟩
    refine (copyCheck_used b w hI.cell0).mono ?_
    rintro e w' ⟨rfl, rfl⟩
    exact ⟨rfl, h, Fr.refl _ _ _⟩
theorem put_bd {B b : Nat} {p v v' : Value} {l : List Value} {w : World} (hb : w.heap[b]? = some (.cells #[p, v] 105 (0, 0))) (ho : w.ownsRow B 5 1 v' l.length l) : BdAt B b p l (w.setCell ⟨b, 1, none⟩ v') := by
  have hne := Lib.ownBlock_ne ho hb (by decide)
  exact ⟨v', by simp [World.setCell, Array.getElem?_modify, hb], ho.kept (row := some b) ⟨rfl, rfl, rfl, by simp [World.setCell], fun k _ hk => Below.heap_setCell _ _ _ _ (fun e => hk (by simp [e]))⟩ (Or.inr hne), hne⟩
set_option maxHeartbeats 2000000 in
set_option maxRecDepth 100000 in
theorem WriteString_bd (B b : Nat) (l : List Value) (s : ByteArray) (w : World) (h : Bd B b l w) (hlen : l.length + s.size ≤ 140737488355328) (hBw : B ≤ w.heap.size) :
    Calls Tryz.prog 59 #[.pointer (some ⟨b, 0, none⟩), .string s] w fun e w' => e = .returned (.tuple #[.int .i64 s.size, .nilIface]) ∧ Bd B b (l ++ Lib.strCells s) w' ∧ Fr B b w w' := by
  obtain ⟨i0, hi, hz0, hz1, hz2⟩ := info_parts infoByte
  go_enter Tryz.func59, Tryz.ntmps59
  go_wp2_with fail
  refine (copyCheck_bd B b l _ h).mono ?_
  rintro e w1 ⟨rfl, h1, hf1⟩
  obtain ⟨v, hbk, hown, hne⟩ := h1
  have c0 : w1.cell? ⟨b, 0, none⟩ = some (.pointer (some ⟨b, 0, none⟩)) := by rw [Lib.cell_of_heap hbk]; rfl
  have c1 : w1.cell? ⟨b, 1, none⟩ = some v := by rw [Lib.cell_of_heap hbk]; rfl
  have hs1 := hf1.size
  have HF1 : Hid (Fr B b w w1) := hf1
  clear hf1
  go_wp2_with (at_builtin; refine Lib.wpList_append_own_string _ rfl _ _ 53 9 rfl B 5 i0 Tryz.underlying53 Tryz.underlying9 hi hz0 hz1 hz2 _ _ _ rfl hown s rfl ?c3 ?c4 ?c5 ?_)
  case c3 => unfold maxLen; omega
  case c4 => omega
  case c5 => omega
  intro v' w2 hown' hgrow _
  have hlt : b < w1.heap.size := (Array.getElem?_eq_some_iff.1 hbk).1
  have hb2 : w2.heap[b]? = some (.cells #[.pointer (some ⟨b, 0, none⟩), v] 105 (0, 0)) := by
    rw [hgrow.block b hlt (fun e => hne e.symm)]
    exact hbk
  have d0 : w2.cell? ⟨b, 0, none⟩ = some (.pointer (some ⟨b, 0, none⟩)) := by rw [Lib.cell_of_heap hb2]; rfl
  have d1 : w2.cell? ⟨b, 1, none⟩ = some v := by rw [Lib.cell_of_heap hb2]; rfl
  have f1 : w2.frozen? ⟨b, 1, none⟩ = false := Lib.frozen_of_heap hb2 1
  obtain ⟨ao, n', cap, rfl⟩ : ∃ ao n' cap, v' = .slice ao n' cap := by
    rcases hown'.2 with ⟨hv, _⟩ | ⟨g, cap, cur, hv, _⟩
    · exact ⟨_, _, _, hv⟩
    · exact ⟨_, _, _, hv⟩
  have HF2 : Hid (Fr B b w w2) := HF1.out.trans (Fr.grown hgrow hown (by omega))
  go_wp2
  go_ret2
  exact ⟨rfl, .inr (put_bd hb2 (by simpa [Lib.strCells_length] using hown')), HF2.out.trans (Fr.set _ _)⟩
theorem Bd.isF {B b : Nat} {l : List Value} {w : World} (h : Bd B b l w) : Lib.IsBuilderF 105 5 (min B b) b l w :=
  (h.isB _ (Nat.min_le_left _ _) (Nat.min_le_right _ _)).imp Lib.BuilderAtF.of Lib.BuilderAtF.of
theorem String_bd (B b : Nat) (l : List UInt8) (w : World) (h : Bd B b (Lib.byteCells l) w) (hBw : B ≤ w.heap.size) :
    Calls Tryz.prog 60 #[.pointer (some ⟨b, 0, none⟩)] w fun e w' => e = .returned (.string (str l)) ∧ Below (min B b) w w' ∧ Lib.OthersKept 5 (some b) w w' :=
  (Tryz.Builder_String_any_k (min B b) b l w h.isF (Nat.le_trans (Nat.min_le_left _ _) hBw)).mono fun e w' ⟨he, _, hb, ho⟩ => ⟨he, hb, ho⟩
theorem cells_app (l r : List UInt8) : Lib.byteCells (l ++ r) = Lib.byteCells l ++ Lib.byteCells r := by simp [Lib.byteCells]
theorem cells_str (l : List UInt8) : Lib.strCells (str l) = Lib.byteCells l := by simp [Lib.strCells, Lib.byteCells, str]
theorem cells_len (l : List UInt8) : (Lib.byteCells l).length = l.length := by simp [Lib.byteCells]
end Fd
end Go.Proofs.YtdcfhnbagldilaaGreatDoor
set_option linter.unusedVariables false
set_option linter.unusedSimpArgs false
namespace Go.Proofs.YtdcfhnbagldilaaGreatDoor
open Go.RowKit Go.Shelf
namespace Fd
open Oc Tg
def chkZ (p : Fl) : Int := if isName p.1 then if isValue p.2 then 0 else 61 else 60
def lineP (p : Fl) : List UInt8 := if p.2 = [] then p.1 ++ [58] else p.1 ++ [58] ++ [32] ++ p.2
def printL (p : Fl) : List UInt8 × Int := if chkZ p = 0 then (lineP p, 0) else ([], chkZ p)
def printG : List Fl → List UInt8 → List UInt8 × Int
  | [], acc => (acc, 0)
  | p :: t, acc => if chkZ p = 0 then printG t (acc ++ lineP p ++ [13, 10]) else ([], chkZ p)
def printT (t : List Fl) : List UInt8 × Int := if 100 < t.length then ([], 65) else printG t []
theorem chk_cases (p : Fl) : (chkZ p = 0 ∧ isName p.1 = true ∧ isValue p.2 = true) ∨ (chkZ p = 61 ∧ isName p.1 = true ∧ isValue p.2 = false) ∨ (chkZ p = 60 ∧ isName p.1 = false) := by
  unfold chkZ
  cases h1 : isName p.1 with
  | false => exact .inr (.inr ⟨rfl, rfl⟩)
  | true =>
    cases h2 : isValue p.2 with
    | false => exact .inr (.inl ⟨rfl, rfl, rfl⟩)
    | true => exact .inl ⟨rfl, rfl, rfl⟩
theorem drop_nth (t : List Fl) (k : Nat) (h : k < t.length) : t.drop k = nth t k :: t.drop (k + 1) := by
  rw [List.drop_eq_getElem_cons h]
  unfold nth
  rw [List.getD_eq_getElem?_getD, List.getElem?_eq_getElem h]
  rfl
theorem lineP_len (p : Fl) : (lineP p).length ≤ szF p := by
  unfold lineP szF
  split
  · simp; omega
  · simp; omega
theorem str_app (a b : List UInt8) : str a ++ str b = str (a ++ b) := by
  apply eq_list
  rw [ByteArray.data_append, Array.toList_append, str_list, str_list, str_list]
set_option maxRecDepth 100000 in
set_option maxHeartbeats 1000000 in
theorem check_any (p : Fl) (h1 : p.1.length ≤ maxLen) (h2 : p.2.length ≤ maxLen) (w : World) (t : Tab w) :
    Calls Tryz.prog 110 #[.agg #[.string (str p.1), .string (str p.2)]] w fun e w' => e = .returned (.int .i64 (chkZ p)) ∧ Below w.heap.size w w' := by
  obtain ⟨pn, pv⟩ := p
  dsimp only at h1 h2 ⊢
  have hb1 : Below w.heap.size w (w.alloc (.cells #[.string (str pn), .string (str pv)] 47)) := (Below.refl _ w).alloc (Nat.le_refl _) _
  have HN : Hid (Calls Tryz.prog 112 #[.string (str pn)] (w.alloc (.cells #[.string (str pn), .string (str pv)] 47)) fun e w' => e = .returned (.bool (isName pn)) ∧ Below (w.alloc (.cells #[.string (str pn), .string (str pv)] 47)).heap.size (w.alloc (.cells #[.string (str pn), .string (str pv)] 47)) w') := by
    have h := IsName_any (str pn) (by rw [str_size]; exact h1) (w.alloc (.cells #[.string (str pn), .string (str pv)] 47)) (t.below hb1 (Nat.le_refl _))
    rw [str_list] at h
    exact h
  have HV : Hid (∀ w, Calls Tryz.prog 129 #[.string (str pv)] w fun e w' => e = .returned (.bool (isValue pv)) ∧ Below w.heap.size w w') := fun w => by
    have h := IsValue_any (str pv) (by rw [str_size]; exact h2) w
    rw [str_list] at h
    exact h
  have HB1 : Hid (Below _ _ _) := hb1
  have HC : Hid (_) := chk_cases (pn, pv)
  generalize chkZ (pn, pv) = z at *
  generalize str pn = N at *
  generalize str pv = V at *
  dsimp only at HC
  generalize isName pn = b1 at *
  generalize isValue pv = b2 at *
  clear hb1 t h1 h2
  rcases HC.out with ⟨rfl, rfl, rfl⟩ | ⟨rfl, rfl, rfl⟩ | ⟨rfl, rfl⟩
  all_goals clear HC
  · go_enter Tryz.func110, Tryz.ntmps110
    go_wp2_with fail
    refine HN.out.mono ?_
    rintro e w2 ⟨rfl, hb2⟩
    have c1 : w2.cell? ⟨w.heap.size, 1, none⟩ = some (.string V) := by rw [hb2.cell (by simp)]; simp
    have HB2 : Hid (Below w.heap.size w w2) := bel_trans HB1.out hb2
    clear hb2
    go_wp2_with fail
    refine (HV.out _).mono ?_
    rintro e w3 ⟨rfl, hb3⟩
    have HB3 : Hid (Below w.heap.size w w3) := bel_trans HB2.out hb3
    clear hb3
    go_wp2
    go_ret
    exact ⟨rfl, HB3.out⟩
  · go_enter Tryz.func110, Tryz.ntmps110
    go_wp2_with fail
    refine HN.out.mono ?_
    rintro e w2 ⟨rfl, hb2⟩
    have c1 : w2.cell? ⟨w.heap.size, 1, none⟩ = some (.string V) := by rw [hb2.cell (by simp)]; simp
    have HB2 : Hid (Below w.heap.size w w2) := bel_trans HB1.out hb2
    clear hb2
    go_wp2_with fail
    refine (HV.out _).mono ?_
    rintro e w3 ⟨rfl, hb3⟩
    have HB3 : Hid (Below w.heap.size w w3) := bel_trans HB2.out hb3
    clear hb3
    go_wp2
    go_ret
    exact ⟨rfl, HB3.out⟩
  · go_enter Tryz.func110, Tryz.ntmps110
    go_wp2_with fail
    refine HN.out.mono ?_
    rintro e w2 ⟨rfl, hb2⟩
    have HB2 : Hid (Below w.heap.size w w2) := bel_trans HB1.out hb2
    clear hb2
    go_wp2
    go_ret
    exact ⟨rfl, HB2.out⟩
set_option maxRecDepth 100000 in
set_option maxHeartbeats 1000000 in
theorem PrintLine_any (p : Fl) (h1 : p.1.length ≤ 4000000) (h2 : p.2.length ≤ 4000000) (w : World) (t : Tab w) :
    Calls Tryz.prog 88 #[.agg #[.string (str p.1), .string (str p.2)]] w fun e w' => e = .returned (.tuple #[.string (str (printL p).1), .int .i64 (printL p).2]) ∧ Below w.heap.size w w' := by
  obtain ⟨pn, pv⟩ := p
  dsimp only at h1 h2 ⊢
  have hb1 : Below w.heap.size w (w.alloc (.cells #[.string (str pn), .string (str pv)] 47)) := (Below.refl _ w).alloc (Nat.le_refl _) _
  have HC : Hid (Calls Tryz.prog 110 #[.agg #[.string (str pn), .string (str pv)]] (w.alloc (.cells #[.string (str pn), .string (str pv)] 47)) fun e w' => e = .returned (.int .i64 (chkZ (pn, pv))) ∧ Below (w.alloc (.cells #[.string (str pn), .string (str pv)] 47)).heap.size (w.alloc (.cells #[.string (str pn), .string (str pv)] 47)) w') := check_any (pn, pv) (by unfold maxLen; dsimp only; omega) (by unfold maxLen; dsimp only; omega) _ (t.below hb1 (Nat.le_refl _))
  clear t
  have HB1 : Hid (Below _ _ _) := hb1
  have hn : (str pn).size ≤ 4000000 := by rw [str_size]; exact h1
  have hv : (str pv).size ≤ 4000000 := by rw [str_size]; exact h2
  have E1 : pv = [] → Hid (str (lineP (pn, pv)) = str pn ++ ⟨#[58]⟩) := fun h => by
    show _ = _
    unfold lineP
    rw [if_pos h, ← str_app]
    rfl
  have E2 : pv ≠ [] → Hid (str (lineP (pn, pv)) = str pn ++ ⟨#[58]⟩ ++ ⟨#[32]⟩ ++ str pv) := fun h => by
    show _ = _
    unfold lineP
    rw [if_neg h, ← str_app, ← str_app, ← str_app]
    rfl
  have X1 : pv = [] → (str pv).toList.isEmpty = true := fun h => empty_str h
  have X2 : pv ≠ [] → (str pv).toList.isEmpty = false := fun h => nonempty_str h
  unfold printL
  rcases chk_cases (pn, pv) with ⟨hz, hin, hiv⟩ | ⟨hz, hin, hiv⟩ | ⟨hz, hin⟩
  · dsimp only at hin hiv
    rw [hz] at HC
    rw [if_pos hz]
    dsimp only
    clear hz hin hiv
    by_cases hv0 : pv = []
    · have e1 := E1 hv0
      have x1 := X1 hv0
      clear E1 E2 X1 X2 h1 h2 hb1 hv0
      generalize hL : str (lineP (pn, pv)) = L at *
      clear hL
      generalize str pn = N at *
      generalize str pv = V at *
      go_enter Tryz.func88, Tryz.ntmps88
      go_wp2_with fail
      refine HC.out.mono ?_
      rintro e w2 ⟨rfl, hb2⟩
      have c0 : w2.cell? ⟨w.heap.size, 0, none⟩ = some (.string N) := by rw [hb2.cell (by simp)]; simp
      have c1 : w2.cell? ⟨w.heap.size, 1, none⟩ = some (.string V) := by rw [hb2.cell (by simp)]; simp
      have HB9 : Hid (Below w.heap.size w w2) := bel_trans HB1.out hb2
      clear hb2
      go_wp2
      go_ret2
      exact ⟨by rw [e1.out]; rfl, HB9.out⟩
    · have e2 := E2 hv0
      have x2 := X2 hv0
      clear E1 E2 X1 X2 h1 h2 hb1 hv0
      generalize hL : str (lineP (pn, pv)) = L at *
      clear hL
      generalize str pn = N at *
      generalize str pv = V at *
      go_enter Tryz.func88, Tryz.ntmps88
      go_wp2_with fail
      refine HC.out.mono ?_
      rintro e w2 ⟨rfl, hb2⟩
      have c0 : w2.cell? ⟨w.heap.size, 0, none⟩ = some (.string N) := by rw [hb2.cell (by simp)]; simp
      have c1 : w2.cell? ⟨w.heap.size, 1, none⟩ = some (.string V) := by rw [hb2.cell (by simp)]; simp
      have HB9 : Hid (Below w.heap.size w w2) := bel_trans HB1.out hb2
      clear hb2
      go_wp2
      go_ret2
      exact ⟨by rw [e2.out]; rfl, HB9.out⟩
  · dsimp only at hin hiv
    rw [hz] at HC
    rw [hz, if_neg (by decide)]
    dsimp only
    clear hz hin E1 E2 X1 X2 h1 h2 hb1 hiv
    generalize str pn = N at *
    generalize str pv = V at *
    go_enter Tryz.func88, Tryz.ntmps88
    go_wp2_with fail
    refine HC.out.mono ?_
    rintro e w2 ⟨rfl, hb2⟩
    have c0 : w2.cell? ⟨w.heap.size, 0, none⟩ = some (.string N) := by rw [hb2.cell (by simp)]; simp
    have c1 : w2.cell? ⟨w.heap.size, 1, none⟩ = some (.string V) := by rw [hb2.cell (by simp)]; simp
    have HB9 : Hid (Below w.heap.size w w2) := bel_trans HB1.out hb2
    clear hb2
    go_wp2
    go_ret2
    exact ⟨rfl, HB9.out⟩
  · dsimp only at hin
    rw [hz] at HC
    rw [hz, if_neg (by decide)]
    dsimp only
    clear hz hin E1 E2 X1 X2 h1 h2 hb1
    generalize str pn = N at *
    generalize str pv = V at *
    go_enter Tryz.func88, Tryz.ntmps88
    go_wp2_with fail
    refine HC.out.mono ?_
    rintro e w2 ⟨rfl, hb2⟩
    have c0 : w2.cell? ⟨w.heap.size, 0, none⟩ = some (.string N) := by rw [hb2.cell (by simp)]; simp
    have c1 : w2.cell? ⟨w.heap.size, 1, none⟩ = some (.string V) := by rw [hb2.cell (by simp)]; simp
    have HB9 : Hid (Below w.heap.size w w2) := bel_trans HB1.out hb2
    clear hb2
    go_wp2
    go_ret2
    exact ⟨rfl, HB9.out⟩
end Fd
end Go.Proofs.YtdcfhnbagldilaaGreatDoor
set_option linter.unusedVariables false
set_option linter.unusedSimpArgs false
namespace Go.Proofs.YtdcfhnbagldilaaGreatDoor
open Go.RowKit Go.Shelf
namespace Fd
open Oc Tg
theorem vals_take (s : List UInt8) (t : List Fl) (k : Nat) (h : k < t.length) : vals s (t.take (k + 1)) = if alike s (nth t k) then vals s (t.take k) ++ [(nth t k).2] else vals s (t.take k) := by
  unfold vals
  rw [filter_take (alike s) t k h]
  split
  · rw [List.map_append]; rfl
  · rfl
theorem vals_len (s : List UInt8) (t : List Fl) : (vals s t).length ≤ t.length := by unfold vals; rw [List.length_map]; exact List.length_filter_le _ _
set_option maxRecDepth 100000 in
set_option maxHeartbeats 2000000 in
theorem rAll_any (v : Value) (t : List Fl) (s : List UInt8) (hs : s.length ≤ 1048576) (hM : Each 1048576 t) (hl : t.length ≤ 16777216) (w : World) (hrd : RdF v t w) :
    Calls Tryz.prog 67 #[v, .string (str s)] w fun e w' => ∃ u, e = .returned u ∧ OwnS w.heap.size u (vals s t) w' ∧ Below w.heap.size w w' := by
  have HR : Hid (RdF v t w) := hrd
  have HM : Hid (Each 1048576 t) := hM
  have HAk : Hid (∀ (p : Fl) w, p.1.length ≤ 1048576 → Calls Tryz.prog 102 #[.string (str p.1), .string (str s)] w fun e w' => e = .returned (.bool (alike s p)) ∧ Below w.heap.size w w') := fun p w h => by
    have h := rAlike_any (str p.1) (str s) (by rw [str_size]; unfold maxLen; omega) (by rw [str_size]; unfold maxLen; omega) w
    rw [low_alike] at h
    exact h
  obtain ⟨a, c, rfl, _⟩ := hrd
  clear hM hs
  generalize hS : str s = S at *
  clear hS
  go_enter Tryz.func67, Tryz.ntmps67
  go_wp2
  go_loopw [5, 10] (fun ov i wr => ∃ k : Nat, k ≤ t.length ∧ i = .int .i64 k ∧ Hid (OwnS w.heap.size ov (vals s (t.take k)) wr) ∧ Hid (Below w.heap.size w wr)) (fun _ i _ => t.length - (intOf i).toNat)
  case atStart => exact ⟨0, Nat.zero_le _, rfl, ownS_nil _ _, Below.refl _ _⟩
  case round =>
    obtain ⟨k, hk, rfl, hown, hbl⟩ := hrel
    by_cases hlt : k < t.length
    · obtain ⟨a', c', e', hcs⟩ := HR.out.below hbl.out
      injection e' with e1 _ e2
      subst e1 e2
      rcases hcs with h | ⟨g, o, rfl, hlc, hcell⟩
      · rw [h] at hlt; simp at hlt
      obtain ⟨p0, p1⟩ := hcell k hlt
      have hEk := HM.out.at k hlt
      have hvt := vals_take s t k hlt
      have TT : alike s (nth t k) = true → Hid (vals s (t.take (k + 1)) = vals s (t.take k) ++ [(nth t k).2]) := fun h => by
        have := hvt
        rw [if_pos h] at this
        exact this
      have FF : alike s (nth t k) = false → Hid (vals s (t.take (k + 1)) = vals s (t.take k)) := fun h => by
        have := hvt
        rw [if_neg (by rw [h]; simp)] at this
        exact this
      have HC : Hid (∀ w, Calls Tryz.prog 102 #[.string (str (nth t k).1), .string S] w fun e w' => e = .returned (.bool (alike s (nth t k))) ∧ Below w.heap.size w w') := fun w => HAk.out _ w hEk.1
      have hlk : (vals s (t.take k)).length + 1 ≤ 4294967296 := by
        have := vals_len s (t.take k)
        rw [List.length_take] at this
        omega
      clear hcell hEk hvt
      generalize alike s (nth t k) = b at HC TT FF
      generalize nth t k = p at *
      obtain ⟨pn, pv⟩ := p
      dsimp only at p0 p1 HC TT
      generalize hn : str pn = N at *
      clear hn
      have hb1 : Below wr.heap.size wr (wr.alloc (.cells #[.string N, .string (str pv)] 64)) := (Below.refl _ wr).alloc (Nat.le_refl _) _
      have HB1 : Hid (Below w.heap.size w (wr.alloc (.cells #[.string N, .string (str pv)] 64))) := bel_trans hbl.out hb1
      have HO1 : Hid (OwnS w.heap.size _ (vals s (t.take k)) (wr.alloc (.cells #[.string N, .string (str pv)] 64))) := hown.out.below hb1
      clear hb1
      cases b with
      | true =>
        have tt := TT rfl
        clear TT FF
        go_wp2_with fail
        refine (HC.out _).mono ?_
        rintro e w2 ⟨rfl, hb2⟩
        have c1 : w2.cell? ⟨wr.heap.size, 1, none⟩ = some (.string (str pv)) := by rw [hb2.cell (by simp)]; simp
        have HB2 : Hid (Below w.heap.size w w2) := bel_trans HB1.out hb2
        have HO2 : Hid (OwnS w.heap.size _ (vals s (t.take k)) w2) := HO1.out.below hb2
        have hs2 : w.heap.size ≤ w2.heap.size := HB2.out.size
        clear hb2
        go_wp2_with (at_builtin; go_must (refine wp_appS rfl (.tmp 18) (.tmp 21) rfl w.heap.size _ (vals s (t.take k)) _ pv rfl HO2.out rfl hlk hs2 ?_); intro v6 w6 hown6 hb6)
        have HO6 : Hid (OwnS w.heap.size v6 (vals s (t.take (k + 1))) w6) := (by rw [tt.out]; exact hown6 : OwnS _ v6 _ w6)
        have HB6 : Hid (Below w.heap.size w w6) := HB2.out.trans hb6
        clear hown6 hb6
        go_roundw
        case rel => exact ⟨k + 1, by omega, by go_num, HO6, HB6⟩
        case measure => simp [intOf]; omega
      | false =>
        have ff := FF rfl
        clear TT FF
        go_wp2_with fail
        refine (HC.out _).mono ?_
        rintro e w2 ⟨rfl, hb2⟩
        have HB2 : Hid (Below w.heap.size w w2) := bel_trans HB1.out hb2
        have HO2 : Hid (OwnS w.heap.size _ (vals s (t.take (k + 1))) w2) := (by rw [ff.out]; exact HO1.out.below hb2 : OwnS _ _ _ w2)
        clear hb2
        go_wp2
        go_roundw
        case rel => exact ⟨k + 1, by omega, by go_num, HO2, HB2⟩
        case measure => simp [intOf]; omega
    · obtain rfl : k = t.length := by omega
      rw [List.take_length] at hown
      go_wp2
      go_ret
      exact ⟨_, rfl, hown.out, hbl.out⟩
set_option maxRecDepth 100000 in
set_option maxHeartbeats 2000000 in
theorem rList6_any (v : Value) (t : List Fl) (s : List UInt8) (hs : s.length ≤ 1048576) (hS : sumF t ≤ 1048576) (w : World) (hrd : RdF v t w) :
    Calls Tryz.prog 68 #[v, .string (str s)] w fun e w' => ∃ u, e = .returned (.tuple #[u, .int .i64 (listF s t).2]) ∧ OwnS w.heap.size u (listF s t).1 w' ∧ Below w.heap.size w w' := by
  have hlen := len_sumF t
  have HA : Hid (Calls _ _ _ _ _) := rAll_any v t s hs ((each_sumF t).mono hS) (by omega) w hrd
  have hv := sumV_filter s t
  have hvl : (vals s t).length ≤ 1048576 := by omega
  have hvs : sumV (vals s t) ≤ 1048576 := by omega
  unfold listF
  obtain ⟨a, c, rfl, _⟩ := hrd
  clear hv hs
  generalize vals s t = T at *
  generalize str s = S at *
  go_enter Tryz.func68, Tryz.ntmps68
  go_wp2_with fail
  refine HA.out.mono ?_
  rintro e w1 ⟨u, rfl, ho, hb1⟩
  have HR : Hid (RdS u T w1) := ho.rd
  have HB1 : Hid (Below w.heap.size w w1) := hb1
  obtain ⟨a1, c1, rfl⟩ := ho.form
  clear ho hb1
  go_wp2
  go_loopw [6, 15] (fun ov i wr => ∃ (k : Nat) (acc : List (List UInt8)), k ≤ T.length ∧ i = .int .i64 k ∧ Hid (listV T [] = listV (T.drop k) acc) ∧ Hid (acc.length + sumV (T.drop k) ≤ 1048576) ∧ Hid (OwnS w1.heap.size ov acc wr) ∧ Hid (Below w1.heap.size w1 wr)) (fun _ i _ => T.length - (intOf i).toNat)
  case atStart => exact ⟨0, [], Nat.zero_le _, rfl, (rfl : listV T [] = listV T []), (by simpa using hvs : _ ≤ _), ownS_nil _ _, Below.refl _ _⟩
  case round =>
    obtain ⟨k, acc, hk, rfl, hst, hal, hown, hbl⟩ := hrel
    by_cases hlt : k < T.length
    · obtain ⟨a', c', e', hcs⟩ := HR.out.below hbl.out
      injection e' with e1 _ e2
      subst e1 e2
      rcases hcs with h | ⟨g, o, rfl, hlc, hcell⟩
      · rw [h] at hlt; simp at hlt
      have p0 := hcell k hlt
      have hsd := sumV_drop T k hlt
      have hsh := listR_short (T.getD k [])
      have hal' := hal.out
      have hgl : (T.getD k []).length ≤ 1048576 := by omega
      have HL : Hid (∀ w, Calls Tryz.prog 103 #[.string (str (T.getD k []))] w fun e w' => ∃ v, e = .returned (.tuple #[v, .bool (decide ((listR (T.getD k [])).2 = 0))]) ∧ OwnS w.heap.size v (listR (T.getD k [])).1 w' ∧ Below w.heap.size w w') := fun w => by
        have h := rElements_any (str (T.getD k [])) (by rw [str_size]; omega) w
        rw [str_list] at h
        exact h
      have NX : (listR (T.getD k [])).2 = 0 → Hid (listV T [] = listV (T.drop (k + 1)) (acc ++ (listR (T.getD k [])).1)) := fun h => hst.out.trans (listV_next T k hlt acc h)
      have BD : (listR (T.getD k [])).2 ≠ 0 → Hid (listV T [] = ([], 14)) := fun h => by
        have h2 := hst.out.trans (listV_bad T k hlt acc h)
        rcases listR_err (T.getD k []) with h3 | ⟨_, h3⟩
        · exact absurd h3 h
        · rw [h3] at h2; exact h2
      have HN : Hid ((acc ++ (listR (T.getD k [])).1).length + sumV (T.drop (k + 1)) ≤ 1048576) := by
        show _ ≤ _
        rw [List.length_append]
        omega
      have hln : acc.length + (listR (T.getD k [])).1.length ≤ 4294967296 := by omega
      clear hcell hst hsd hsh hal' hgl
      generalize str (T.getD k []) = X at p0 HL
      generalize (listR (T.getD k [])).2 = z at HL NX BD
      generalize (listR (T.getD k [])).1 = L at HL NX HN hln
      by_cases hz : z = 0
      · have nx := NX hz
        rw [decide_eq_true hz] at HL
        clear NX BD hz
        go_wp2_with fail
        refine (HL.out _).mono ?_
        rintro e w2 ⟨y, rfl, hy, hb2⟩
        have HO2 : Hid (OwnS w1.heap.size _ acc w2) := hown.out.below hb2
        have HB2 : Hid (Below w1.heap.size w1 w2) := bel_trans hbl.out hb2
        have HY : Hid (RdS y L w2) := hy.rd
        have HYN : Hid (L = [] → y = .slice none 0 0 ∨ ∃ g c, y = .slice (some g) 0 c) := hy.nilish
        have hs2 : w1.heap.size ≤ w2.heap.size := HB2.out.size
        obtain ⟨ya, yc, rfl⟩ := hy.form
        clear hy hb2
        go_wp2_with (at_builtin; go_must (refine wp_appR rfl (.tmp 26) (.tmp 27) rfl w1.heap.size _ _ acc L rfl HO2.out rfl HY.out HYN.out hln hs2 ?_); intro v6 w6 hown6 hb6)
        have HO6 : Hid (OwnS w1.heap.size v6 (acc ++ L) w6) := hown6
        have HB6 : Hid (Below w1.heap.size w1 w6) := HB2.out.trans hb6
        clear hown6 hb6
        go_roundw
        case rel => exact ⟨k + 1, acc ++ L, by omega, by go_num, nx, HN, HO6, HB6⟩
        case measure => simp [intOf]; omega
      · have bd := BD hz
        rw [decide_eq_false hz] at HL
        clear NX BD hz
        go_wp2_with fail
        refine (HL.out _).mono ?_
        rintro e w2 ⟨y, rfl, hy, hb2⟩
        have HB2 : Hid (Below w1.heap.size w1 w2) := bel_trans hbl.out hb2
        obtain ⟨ya, yc, rfl⟩ := hy.form
        clear hy hb2
        go_wp2
        go_ret2
        rw [bd.out]
        exact ⟨_, rfl, ownS_nil _ _, HB1.out.trans (HB2.out.mono HB1.out.size)⟩
    · have HE : Hid (listV T [] = (acc, 0)) := by
        show _ = _
        rw [hst.out, List.drop_eq_nil_of_le (by omega)]
        rfl
      go_wp2
      go_ret2
      rw [HE.out]
      exact ⟨_, rfl, hown.out.lower HB1.out.size, HB1.out.trans (hbl.out.mono HB1.out.size)⟩
set_option maxRecDepth 100000 in
set_option maxHeartbeats 2000000 in
theorem rTokens6_any (v : Value) (t : List Fl) (s : List UInt8) (hs : s.length ≤ 1048576) (hS : sumF t ≤ 1048576) (w : World) (hrd : RdF v t w) :
    Calls Tryz.prog 31 #[v, .string (str s)] w fun e w' => ∃ u, e = .returned (.tuple #[u, .int .i64 (tokensF s t).2]) ∧ OwnS w.heap.size u (tokensF s t).1 w' ∧ Below w.heap.size w w' := by
  have hlen := len_sumF t
  have HL : Hid (Calls _ _ _ _ _) := rList6_any v t s hs hS w hrd
  have hv := sumV_filter s t
  have hll := listV_len (vals s t) []
  have HSh : Hid (∀ x ∈ (listF s t).1, x.length ≤ 1048576) := listV_short 1048576 (vals s t) [] (fun x hx => by cases hx) (vals_short ((each_sumF t).mono hS) s)
  have hLn : (listF s t).1.length ≤ 1048576 := by unfold listF; simp at hll; omega
  unfold tokensF
  obtain ⟨a, c, rfl, _⟩ := hrd
  clear hv hs hll
  generalize (listF s t).1 = L at *
  generalize (listF s t).2 = z at *
  generalize str s = S at *
  by_cases hz : z = 0
  · subst hz
    rw [if_pos rfl]
    go_enter Tryz.func31, Tryz.ntmps31
    go_wp2_with fail
    refine HL.out.mono ?_
    rintro e w1 ⟨u, rfl, ho, hb1⟩
    have HB1 : Hid (Below w.heap.size w w1) := hb1
    have HR : Hid (RdS u L w1) := ho.rd
    obtain ⟨ua, uc, rfl⟩ := ho.form
    clear ho hb1
    go_wp2
    go_loopw [8, 22] (fun ov i wr => ∃ k : Nat, k ≤ L.length ∧ i = .int .i64 k ∧ Hid (∀ j, j < k → isTok (L.getD j []) = true) ∧ Hid (OwnS w1.heap.size ov ((L.take k).map lower) wr) ∧ Hid (Below w1.heap.size w1 wr)) (fun _ i _ => L.length - (intOf i).toNat)
    case atStart => exact ⟨0, Nat.zero_le _, rfl, (fun j hj => by omega : ∀ j, j < 0 → _), ownS_nil _ _, Below.refl _ _⟩
    case round =>
      obtain ⟨k, hk, rfl, hall, hown, hbl⟩ := hrel
      by_cases hlt : k < L.length
      · obtain ⟨a', c', e', hcs⟩ := HR.out.below hbl.out
        injection e' with e1 _ e2
        subst e1 e2
        rcases hcs with h | ⟨g, o, rfl, hlc, hcell⟩
        · rw [h] at hlt; simp at hlt
        have p0 := hcell k hlt
        have hxl : (L.getD k []).length ≤ 1048576 := getD_short HSh.out k hlt
        have HI : Hid (∀ w, Calls Tryz.prog 70 #[.string (str (L.getD k []))] w fun e w' => e = .returned (.bool (isTok (L.getD k []))) ∧ w' = w) := fun w => by
          have h := rToken_any (str (L.getD k [])) (by rw [str_size]; unfold maxLen; omega) w
          rw [str_list] at h
          exact h
        have HLo : Hid (∀ w, Calls Tryz.prog 71 #[.string (str (L.getD k []))] w fun e w' => e = .returned (.string (str (lower (L.getD k [])))) ∧ Below w.heap.size w w') := fun w => by
          have h := rLower_any (str (L.getD k [])) (by rw [str_size]; unfold maxLen; omega) w
          rw [lowS_str] at h
          exact h
        have TT : isTok (L.getD k []) = true → Hid (∀ j, j < k + 1 → isTok (L.getD j []) = true) := fun h j hj => by
          by_cases hjk : j = k
          · subst hjk; exact h
          · exact hall.out j (by omega)
        have FF : isTok (L.getD k []) = false → Hid (tokV L = ([], 10)) := fun h => by
          show _ = _
          unfold tokV
          rw [if_neg]
          rw [all_not isTok [] L k hlt h]
          simp
        have HTk : Hid ((L.take (k + 1)).map lower = (L.take k).map lower ++ [lower (L.getD k [])]) := by
          show _ = _
          rw [take_succ L k hlt, List.map_append]
          rfl
        have hlk : ((L.take k).map lower).length + 1 ≤ 4294967296 := by rw [List.length_map, List.length_take]; omega
        clear hcell hxl
        generalize isTok (L.getD k []) = b at HI TT FF
        generalize hY : lower (L.getD k []) = Y at *
        clear hY
        generalize str (L.getD k []) = X at p0 HI HLo
        cases b with
        | true =>
          have tt := TT rfl
          clear TT FF
          go_wp2_with fail
          refine (HI.out _).mono ?_
          rintro e w2 ⟨rfl, rfl⟩
          go_wp2_with fail
          refine (HLo.out _).mono ?_
          rintro e w3 ⟨rfl, hb3⟩
          have HO3 : Hid (OwnS w1.heap.size _ ((L.take k).map lower) w3) := hown.out.below hb3
          have HB3 : Hid (Below w1.heap.size w1 w3) := bel_trans hbl.out hb3
          have hs3 : w1.heap.size ≤ w3.heap.size := HB3.out.size
          clear hb3
          go_wp2_with (at_builtin; go_must (refine wp_appS rfl (.tmp 29) (.tmp 32) rfl w1.heap.size _ ((L.take k).map lower) _ Y rfl HO3.out rfl hlk hs3 ?_); intro v6 w6 hown6 hb6)
          have HO6 : Hid (OwnS w1.heap.size v6 ((L.take (k + 1)).map lower) w6) := (by rw [HTk.out]; exact hown6 : OwnS _ v6 _ w6)
          have HB6 : Hid (Below w1.heap.size w1 w6) := HB3.out.trans hb6
          clear hown6 hb6
          go_roundw
          case rel => exact ⟨k + 1, by omega, by go_num, tt, HO6, HB6⟩
          case measure => simp [intOf]; omega
        | false =>
          have ff := FF rfl
          clear TT FF
          go_wp2_with fail
          refine (HI.out _).mono ?_
          rintro e w2 ⟨rfl, rfl⟩
          go_wp2
          go_ret2
          rw [ff.out]
          exact ⟨_, rfl, ownS_nil _ _, HB1.out.trans (hbl.out.mono HB1.out.size)⟩
      · obtain rfl : k = L.length := by omega
        have HE : Hid (tokV L = (L.map lower, 0)) := by
          show _ = _
          unfold tokV
          rw [if_pos (all_of isTok [] L hall.out)]
        rw [List.take_length] at hown
        go_wp2
        go_ret2
        rw [HE.out]
        exact ⟨_, rfl, hown.out.lower HB1.out.size, HB1.out.trans (hbl.out.mono HB1.out.size)⟩
  · rw [if_neg hz]
    have hzq : (z != 0) = true := by simp [hz]
    go_enter Tryz.func31, Tryz.ntmps31
    go_wp2_with fail
    refine HL.out.mono ?_
    rintro e w1 ⟨u, rfl, ho, hb1⟩
    obtain ⟨ua, uc, rfl⟩ := ho.form
    clear ho
    go_wp2
    go_ret2
    exact ⟨_, rfl, ownS_nil _ _, hb1⟩
def inL (L : List (List UInt8)) (x : List UInt8) : Bool := L.contains x
set_option maxRecDepth 100000 in
set_option maxHeartbeats 1000000 in
theorem rIn_any (v : Value) (L : List (List UInt8)) (x : List UInt8) (hl : L.length ≤ 1048576) (w : World) (h : RdS v L w) :
    Calls Tryz.prog 32 #[v, .string (str x)] w fun e w' => e = .returned (.bool (inL L x)) ∧ w' = w := by
  have HR : Hid (RdS v L w) := h
  obtain ⟨a, c, rfl, _⟩ := h
  generalize hX : str x = X
  have HX : Hid (X = str x) := hX.symm
  clear hX
  go_enter Tryz.func32, Tryz.ntmps32
  go_wp2
  go_loop [9] (fun i => ∃ k : Nat, k ≤ L.length ∧ i = .int .i64 k ∧ Hid (∀ j, j < k → L.getD j [] ≠ x)) (fun i => L.length - (intOf i).toNat)
  case atStart => exact ⟨0, Nat.zero_le _, rfl, (fun j hj => by omega : ∀ j, j < 0 → _)⟩
  case round =>
    obtain ⟨k, hk, rfl, hall⟩ := hrel
    by_cases hlt : k < L.length
    · obtain ⟨a', c', e', hcs⟩ := HR.out
      injection e' with e1 _ e2
      subst e1 e2
      rcases hcs with h | ⟨g, o, rfl, hlc, hcell⟩
      · rw [h] at hlt; simp at hlt
      have p0 := hcell k hlt
      clear hcell
      by_cases he : L.getD k [] = x
      · have HE : Hid (inL L x = true) := by
          show _ = _
          unfold inL
          rw [List.contains_iff_mem, ← he, List.getD_eq_getElem?_getD, List.getElem?_eq_getElem hlt]
          exact List.getElem_mem hlt
        rw [he, ← HX.out] at p0
        have hq : (X.toList == X.toList) = true := by simp
        go_wp2
        go_ret
        exact ⟨ret_bool HE.out.symm, rfl⟩
      · have HN : Hid (∀ j, j < k + 1 → L.getD j [] ≠ x) := fun j hj => by
          by_cases hjk : j = k
          · subst hjk; exact he
          · exact hall.out j (by omega)
        have hq : ((str (L.getD k [])).toList == X.toList) = false := by
          rw [eq_toList, decide_eq_false_iff_not, HX.out]
          exact fun e => he (str_inj e)
        generalize str (L.getD k []) = Y at *
        go_wp2
        go_round
        case rel => exact ⟨k + 1, by omega, by go_num, HN⟩
        case measure => simp [intOf]; omega
    · have HE : Hid (inL L x = false) := by
        show _ = _
        unfold inL
        cases hc : L.contains x with
        | false => rfl
        | true =>
          rw [List.contains_iff_mem] at hc
          obtain ⟨j, hj, e⟩ := List.mem_iff_getElem.1 hc
          exact absurd (by rw [List.getD_eq_getElem?_getD, List.getElem?_eq_getElem hj, ← e]; rfl) (hall.out j (by omega))
      go_wp2
      go_ret
      exact ⟨ret_bool HE.out.symm, rfl⟩
end Fd
end Go.Proofs.YtdcfhnbagldilaaGreatDoor
set_option linter.unusedVariables false
set_option linter.unusedSimpArgs false
namespace Go.Proofs.YtdcfhnbagldilaaGreatDoor
open Go.RowKit Go.Shelf
namespace Fd
open Oc Tg
theorem contains_eq (L : List (List UInt8)) (x : List UInt8) : Lib.containsS (L.map str) (str x) = inL L x := by
  rw [Bool.eq_iff_iff, Lib.containsS_iff]
  unfold inL
  rw [List.contains_iff_mem]
  constructor
  · intro h
    obtain ⟨y, hy, e⟩ := List.mem_map.1 h
    rw [← str_inj e]
    exact hy
  · intro h
    exact List.mem_map.2 ⟨x, h, rfl⟩
set_option maxRecDepth 100000 in
set_option maxHeartbeats 1000000 in
theorem contains_nil (a : Option Addr) (c : Nat) (x : ByteArray) (w : World) :
    Calls Tryz.prog 138 #[.slice a 0 c, .string x] w fun e w' => e = .returned (.bool false) ∧ w' = w := by
  have HI : Hid (∀ w, Calls Tryz.prog 156 #[.slice a 0 c, .string x] w fun e w' => e = .returned (.int .i64 (-1)) ∧ w' = w) := fun w => by
    go_enter Tryz.func156, Tryz.ntmps156
    go_wp2
    refine wp_loop_rounds 1 ?_
    rw [rounds_succ]
    go_wp2
    go_ret
    exact ⟨rfl, rfl⟩
  go_enter Tryz.func138, Tryz.ntmps138
  go_wp2_with fail
  refine (HI.out _).mono ?_
  rintro e w2 ⟨rfl, rfl⟩
  go_wp2
  go_ret
  exact ⟨rfl, rfl⟩
theorem Contains_any (v : Value) (L : List (List UInt8)) (x : List UInt8) (hl : L.length ≤ 1048576) (w : World) (h : RdS v L w) :
    Calls Tryz.prog 138 #[v, .string (str x)] w fun e w' => e = .returned (.bool (inL L x)) ∧ w' = w := by
  obtain ⟨a, c, rfl, h⟩ := h
  by_cases h0 : L = []
  · subst h0
    exact contains_nil a c _ w
  · rcases h with h | ⟨g, o, rfl, hc, hcell⟩
    · exact absurd h h0
    · have h := Tryz.slices_Contains_string g o L.length c (L.map str) (str x) w (by simp) (by omega) (fun j hj => by
        rw [List.length_map] at hj
        rw [hcell j hj, List.getD_eq_getElem?_getD, List.getD_eq_getElem?_getD, List.getElem?_map, List.getElem?_eq_getElem hj]
        rfl)
      rw [List.take_of_length_le (by simp), contains_eq] at h
      exact h
def hasF (s : List UInt8) (t : List Fl) (k : List UInt8) : Bool := decide ((tokensF s t).2 = 0) && inL (tokensF s t).1 (lower k)
theorem tokens_len {t : List Fl} (hS : sumF t ≤ 1048576) (s : List UInt8) : (tokensF s t).1.length ≤ 1048576 := by
  have hv := sumV_filter s t
  have hll := listV_len (vals s t) []
  unfold tokensF tokV
  split
  · split
    · rw [List.length_map]
      unfold listF
      simp at hll
      omega
    · simp
  · simp
end Fd
end Go.Proofs.YtdcfhnbagldilaaGreatDoor
