/- Several texts as one. -/
import Derived.Test.YtggmidkmpgjnoaaDoorMgL
import Derived.Laws.AppendOwnNone
import Derived.OpenShut
import Derived.SliceStrings
import Derived.Carry
/-
  The law's own same; Parse.
-/
set_option linter.unusedVariables false
set_option linter.unusedSimpArgs false
namespace Go.Proofs.YtggmidkmpgjnoaaDoor
open Go.RowKit Go.Shelf
namespace Fd
open Oc Tg

set_option maxRecDepth 100000 in
set_option maxHeartbeats 1000000 in
theorem same_any (v1 v2 : Value) (t : List Fl) (w : World) (h1 : RdF v1 t w) (h2 : RdF v2 t w) (hl : t.length ≤ 4294967296) :
    Calls Tryd.prog 10 #[v1, v2] w fun e w' => e = .returned (.bool true) ∧ Below w.heap.size w w' := by
  obtain ⟨a1, c1, rfl, h1⟩ := h1
  obtain ⟨a2, c2, rfl, h2⟩ := h2
  have hne : ((t.length : Int) != (t.length : Int)) = false := by simp
  go_enter Tryd.func10, Tryd.ntmps10
  go_wp2
  go_loopw [13] (fun i wr => ∃ k : Nat, k ≤ t.length ∧ i = .int .i64 k ∧ Hid (∃ n, wr = w.drewN n)) (fun i _ => t.length - (intOf i).toNat)
  case atStart => exact ⟨0, Nat.zero_le _, rfl, (⟨0, rfl⟩ : ∃ n, w = w.drewN n)⟩
  case round =>
    obtain ⟨k, hk, rfl, hw⟩ := hrel
    obtain ⟨n, rfl⟩ := hw.out
    clear hw
    by_cases hlt : k < t.length
    · rcases h1 with h | ⟨g1, o1, rfl, hc1, hcell1⟩
      · rw [h] at hlt; simp at hlt
      rcases h2 with h | ⟨g2, o2, rfl, hc2, hcell2⟩
      · rw [h] at hlt; simp at hlt
      obtain ⟨p0, p1⟩ := hcell1 k hlt
      obtain ⟨q0, q1⟩ := hcell2 k hlt
      clear hcell1 hcell2
      generalize str (nth t k).1 = x at p0 q0
      generalize str (nth t k).2 = y at p1 q1
      go_wp2_with fail
      go_quiet (fail)
      go_wp2
      go_roundw
      case rel => exact ⟨k + 1, by omega, by go_num, drawn_again w _ _⟩
      case measure => simp [intOf]; omega
    · go_wp2
      go_ret
      exact ⟨rfl, below_drew w n⟩

theorem OwnF.form {T B : Nat} {v : Value} {t : List Fl} {w : World} (h : OwnF T B v t w) : ∃ a c, v = .slice a t.length c := by
  rcases h.2 with ⟨rfl, h0⟩ | ⟨g, cap, cur, rfl, _⟩
  · exact ⟨none, 0, by rw [h0]⟩
  · exact ⟨_, _, rfl⟩
theorem take_cut {l : List UInt8} {a : Nat} (hi : ¬ Lib.index (l.drop a) [13, 10] < 0) : Lib.cut (l.drop a) [13, 10] = ((l.drop a).take (Lib.index (l.drop a) [13, 10]).toNat, (l.drop a).drop ((Lib.index (l.drop a) [13, 10]).toNat + 2), true) := by
  unfold Lib.cut
  rw [if_pos (by omega)]
  rfl
theorem no_cut {l : List UInt8} {a : Nat} (hi : Lib.index (l.drop a) [13, 10] < 0) : (Lib.cut (l.drop a) [13, 10]).2.2 = false := by
  unfold Lib.cut
  rw [if_neg (by omega)]

theorem bad_ret {l : List UInt8} {B : Nat} {W : World} {k : Int} {z : Int} (m : Nat) (hm : k = (m : Int)) (h : parseText l = ([], m, z)) {w : World} {B0 : Nat} (hb : Below B0 w W) : ∃ v, Ending.returned (.tuple #[.slice none 0 0, .int .i64 k, .int .i64 z]) = .returned (.tuple #[v, .int .i64 ((parseText l).2.1 : Nat), .int .i64 (parseText l).2.2]) ∧ OwnF 46 B v (parseText l).1 W ∧ Below B0 w W := by
  rw [h, hm]
  exact ⟨_, rfl, ownF_nil _ _ _, hb⟩

set_option maxRecDepth 100000 in
set_option maxHeartbeats 4000000 in
theorem Parse_any (s : ByteArray) (hs : s.size ≤ 4000000) (w : World) (hw : Env w) :
    Calls Tryd.prog 18 #[.string s] w fun e w' => ∃ v, e = .returned (.tuple #[v, .int .i64 ((parseText s.data.toList).2.1 : Nat), .int .i64 (parseText s.data.toList).2.2]) ∧ OwnF 46 w.heap.size v (parseText s.data.toList).1 w' ∧ Below w.heap.size w w' := by
  have HE : Hid (Env w) := hw
  clear hw
  go_enter Tryd.func18, Tryd.ntmps18
  go_wp2
  go_loopw [5, 6] (fun ov i wr => ∃ (a : Nat) (acc : List Fl), i = .int .i64 a ∧ a ≤ s.size ∧ Hid (Mid s.data.toList a acc) ∧ Hid (OwnF 46 w.heap.size ov acc wr) ∧ Hid (Below w.heap.size w wr)) (fun _ i _ => s.size - (intOf i).toNat)
  case atStart => exact ⟨0, [], rfl, Nat.zero_le _, Mid.start _, ownF_nil _ _ _, Below.refl _ _⟩
  case round =>
    obtain ⟨a, acc, rfl, hle, hmid, hown, hbl⟩ := hrel
    obtain ⟨la, lc, rfl⟩ := hown.out.form
    have hsz := hbl.out.size
    have hsl := size_list s
    by_cases hlt : a < s.size
    · have hltl : a < s.data.toList.length := by omega
      have hdl : (s.data.toList.drop a).length = s.size - a := by rw [List.length_drop, size_list]
      have hxl : (s.extract a s.size).data.toList = s.data.toList.drop a := Lib.extract_to_end s a
      by_cases hi : Lib.index (s.data.toList.drop a) [13, 10] < 0
      · have HP : Hid (parseText s.data.toList = ([], s.size, 64)) := by
          have h := hmid.out.brk hltl hi
          rw [size_list] at h
          exact h
        have HN : Hid (∃ x y, Calls Tryd.prog 34 #[.string (s.extract a s.size), .string ⟨#[13, 10]⟩] wr fun e w' => e = .returned (.tuple #[.string x, .string y, .bool false]) ∧ Below wr.heap.size wr w') := by
          have h := Cut_any (s.extract a s.size) ⟨#[13, 10]⟩ (by simp; omega) wr (HE.out.below hbl.out).2
          rw [hxl, show (⟨#[13, 10]⟩ : ByteArray).data.toList = [13, 10] from rfl, no_cut hi] at h
          exact ⟨_, _, h⟩
        obtain ⟨x, y, hn⟩ := HN.out
        have HN2 : Hid (Calls _ _ _ _ _) := hn
        clear hi hxl hdl hltl hsl hn HN
        go_wp2_with fail
        refine HN2.out.mono ?_
        rintro e w1 ⟨rfl, hb1⟩
        have HB1 : Hid (Below w.heap.size w w1) := bel_trans hbl.out hb1
        clear hb1
        go_wp2
        refine bodyPost_ret (v := .tuple #[.slice none 0 0, .int .i64 (s.size : Int), .int .i64 64]) (by simp [results, Tryd.results18, go_sem]) rfl ?_
        exact bad_ret _ rfl HP.out HB1.out
      · have hroom := index2_room (s.data.toList.drop a) (by omega)
        rw [hdl] at hroom
        generalize hj : (Lib.index (s.data.toList.drop a) [13, 10]).toNat = j at *
        have HJ : Hid (Lib.index (s.data.toList.drop a) [13, 10] = (j : Int)) := by show _ = _; omega
        have HLn : Hid ((s.data.toList.drop a).take j = (s.extract a (a + j)).data.toList) := by show _ = _; rw [Lib.extract_data, show a + j - a = j by omega]
        have HSz : Hid ((s.extract a (a + j)).size = j) := by show _ = _; simp; omega
        have hj1 : a + j + 2 ≤ s.size := by omega
        have HN : Hid (∃ y, Calls Tryd.prog 34 #[.string (s.extract a s.size), .string ⟨#[13, 10]⟩] wr fun e w' => e = .returned (.tuple #[.string (s.extract a (a + j)), .string y, .bool true]) ∧ Below wr.heap.size wr w') := by
          have h := Cut_any (s.extract a s.size) ⟨#[13, 10]⟩ (by simp; omega) wr (HE.out.below hbl.out).2
          rw [hxl, show (⟨#[13, 10]⟩ : ByteArray).data.toList = [13, 10] from rfl, take_cut hi, hj] at h
          dsimp only at h
          rw [HLn.out, str_self] at h
          exact ⟨_, h⟩
        obtain ⟨y, hn⟩ := HN.out
        have HN2 : Hid (Calls _ _ _ _ _) := hn
        clear hn HN
        by_cases ha : acc.length = 100
        · have HP : Hid (parseText s.data.toList = ([], a, 65)) := hmid.out.many hltl hi ha
          have hq : ((acc.length : Int) == 100) = true := by rw [ha]; rfl
          have HA : Hid (acc.length = 100) := ha
          clear hi hj hxl hdl hltl hsl hroom ha
          go_wp2_with fail
          refine HN2.out.mono ?_
          rintro e w1 ⟨rfl, hb1⟩
          have HB1 : Hid (Below w.heap.size w w1) := bel_trans hbl.out hb1
          have HO1 : Hid (OwnF 46 w.heap.size (.slice la acc.length lc) acc w1) := hown.out.below hb1
          clear hb1
          go_wp2
          refine bodyPost_ret (v := .tuple #[.slice none 0 0, .int .i64 (a : Int), .int .i64 65]) (by simp [results, Tryd.results18, go_sem]) rfl ?_
          exact bad_ret _ rfl HP.out HB1.out
        · have hq : ((acc.length : Int) == 100) = false := by simp; omega
          have hfew := hmid.out.few
          have HPL : Hid (∀ w, Env w → Calls Tryd.prog 21 #[.string (s.extract a (a + j))] w fun e w' => e = .returned (lineV (parseL (s.extract a (a + j)).data.toList)) ∧ Below w.heap.size w w') := fun w h => ParseLine_any (s.extract a (a + j)) (by simp; omega) w h
          have hple := parseL_le (s.extract a (a + j)).data.toList
          rw [size_list, HSz.out] at hple
          have BAD : (parseL (s.extract a (a + j)).data.toList).2.2 ≠ 0 → Hid (parseText s.data.toList = ([], a + (parseL (s.extract a (a + j)).data.toList).2.1, (parseL (s.extract a (a + j)).data.toList).2.2)) := fun h => hmid.out.bad hltl hi ha (by rw [hj, HLn.out]) h
          have NXT : (parseL (s.extract a (a + j)).data.toList).2.2 = 0 → Hid (Mid s.data.toList (a + (j + 2)) (acc ++ [(parseL (s.extract a (a + j)).data.toList).1])) := fun h => by
            have h := hmid.out.next hltl hi ha (x := parseL (s.extract a (a + j)).data.toList) (by rw [hj, HLn.out]) h
            rw [hj] at h
            exact h
          generalize parseL (s.extract a (a + j)).data.toList = X at *
          obtain ⟨⟨xn, xv⟩, k, z⟩ := X
          unfold lineV at HPL
          dsimp only at HPL hple BAD NXT
          have hjs : (s.extract a (a + j)).size = j := HSz.out
          clear hi hj hxl hdl hltl hsl hroom hmid HLn HJ
          generalize hXN : str xn = XN at *
          generalize hXV : str xv = XV at *
          have HXN : Hid (XN = str xn) := hXN.symm
          have HXV : Hid (XV = str xv) := hXV.symm
          clear hXN hXV
          by_cases hz : z = 0
          · have NX := NXT hz
            subst hz
            clear BAD NXT
            go_wp2_with fail
            refine HN2.out.mono ?_
            rintro e w1 ⟨rfl, hb1⟩
            have HB1 : Hid (Below w.heap.size w w1) := bel_trans hbl.out hb1
            have HO1 : Hid (OwnF 46 w.heap.size (.slice la acc.length lc) acc w1) := hown.out.below hb1
            clear hb1
            go_wp2_with fail
            refine (HPL.out _ (HE.out.below HB1.out)).mono ?_
            rintro e w2 ⟨rfl, hb2⟩
            have HO2 : Hid (OwnF 46 w.heap.size (.slice la acc.length lc) acc (w2.alloc (.cells #[.string XN, .string XV] 46))) := (HO1.out.below hb2).below ((Below.refl _ w2).alloc (Nat.le_refl _) _)
            have HB2 : Hid (Below w.heap.size w (w2.alloc (.cells #[.string XN, .string XV] 46))) := by
              have hb3 := bel_trans HB1.out hb2
              exact hb3.alloc hb3.size _
            have hs5 : w.heap.size ≤ (w2.alloc (.cells #[.string XN, .string XV] 46)).heap.size := HB2.out.size
            clear hb2
            go_wp2_with (at_builtin; go_must (refine wp_appF 46 22 infoF Tryd.underlying22 rfl (.tmp 45) (.tmp 47) rfl w.heap.size _ acc _ (xn, xv) _ _ HXN.out HXV.out rfl HO2.out _ rfl (by simp) (by omega) hs5 ?_); intro v5 w5 o5 b5)
            have O5 : Hid (OwnF 46 w.heap.size v5 (acc ++ [(xn, xv)]) w5) := o5
            have B5 : Hid (Below w.heap.size w w5) := HB2.out.trans b5
            clear o5 b5
            go_roundw
            case rel => exact ⟨a + (j + 2), acc ++ [(xn, xv)], by go_num, by omega, NX, O5, B5⟩
            case measure => simp [intOf]; omega
          · have BD := BAD hz
            have hzq : (z != 0) = true := by simp [hz]
            clear BAD NXT
            go_wp2_with fail
            refine HN2.out.mono ?_
            rintro e w1 ⟨rfl, hb1⟩
            have HB1 : Hid (Below w.heap.size w w1) := bel_trans hbl.out hb1
            have HO1 : Hid (OwnF 46 w.heap.size (.slice la acc.length lc) acc w1) := hown.out.below hb1
            clear hb1
            go_wp2_with fail
            refine (HPL.out _ (HE.out.below HB1.out)).mono ?_
            rintro e w2 ⟨rfl, hb2⟩
            have HB2 : Hid (Below w.heap.size w (w2.alloc (.cells #[.string XN, .string XV] 46))) := by
              have hb3 := bel_trans HB1.out hb2
              exact hb3.alloc hb3.size _
            clear hb2
            go_wp2
            refine bodyPost_ret (v := .tuple #[.slice none 0 0, .int .i64 ((a : Int) + (k : Int)), .int .i64 z]) (by simp [results, Tryd.results18, go_sem]) rfl ?_
            exact bad_ret _ (by omega) BD.out HB2.out
    · have HP : Hid (parseText s.data.toList = (acc, 0, 0)) := hmid.out.last (by omega)
      clear hsl
      go_wp2
      refine bodyPost_ret (v := .tuple #[.slice la acc.length lc, .int .i64 0, .int .i64 0]) (by simp [results, Tryd.results18, go_sem]) rfl ?_
      rw [HP.out]
      exact ⟨_, rfl, hown.out, hbl.out⟩

end Fd
end Go.Proofs.YtggmidkmpgjnoaaDoor

/-
  Slices of fields that come in; appended whole; the law's own wide, plain, handed, whole.
-/
set_option linter.unusedVariables false
set_option linter.unusedSimpArgs false
namespace Go.Proofs.YtggmidkmpgjnoaaDoor
open Go.RowKit Go.Shelf Go.ChangeShapes Go.WideShapes
namespace Fd
open Oc Tg

theorem laidOutT : laidOutB Tryd.prog = true := by kernel_rfl
theorem cells9 : Tryd.prog.cellsOf 9 = 1 := by kernel_rfl
theorem cellsF : Tryd.prog.cellsOf 46 = 2 := by kernel_rfl
def szF (p : Fl) : Nat := p.1.length + p.2.length + 3
def sumF (t : List Fl) : Nat := (t.map szF).sum
def bulkfields (t : List Fl) : Nat := sumF t
/-- The form of a slice of none. -/
def NilF (v : Value) (t : List Fl) : Prop := t = [] → v = .slice none 0 0 ∨ ∃ g c, v = .slice (some g) 0 c
/-- A slice that reads as these fields, of a form that is known. -/
def InF (v : Value) (t : List Fl) (w : World) : Prop := RdF v t w ∧ NilF v t
theorem InF.below {v : Value} {t : List Fl} {w w' : World} (h : InF v t w) (b : Below w.heap.size w w') : InF v t w' := ⟨h.1.below b, h.2⟩
theorem OwnF.inF {T B : Nat} {v : Value} {t : List Fl} {w : World} (h : OwnF T B v t w) : InF v t w := by
  refine ⟨h.rd, fun e => ?_⟩
  subst e
  rcases h.2 with ⟨rfl, _⟩ | ⟨g, cap, cur, rfl, _⟩
  · exact .inl rfl
  · exact .inr ⟨_, _, rfl⟩
theorem len_sumF : ∀ t : List Fl, t.length * 3 ≤ sumF t
  | [] => Nat.zero_le _
  | p :: t => by
    have := len_sumF t
    simp only [sumF, List.map_cons, List.sum_cons, List.length_cons, szF] at this ⊢
    omega
theorem each_sumF : ∀ t : List Fl, Each (sumF t) t
  | [] => fun p hp => by cases hp
  | q :: t => fun p hp => by
    simp only [sumF, List.map_cons, List.sum_cons, szF]
    rcases List.mem_cons.1 hp with rfl | hp
    · omega
    · have := each_sumF t p hp
      simp only [sumF, szF] at this
      omega
theorem Each.mono {M N : Nat} {t : List Fl} (h : Each M t) (hMN : M ≤ N) : Each N t := fun p hp => ⟨Nat.le_trans (h p hp).1 hMN, Nat.le_trans (h p hp).2 hMN⟩
def flOf {H : Type} (y : DataW H × List MemPlace) : Fl := match y.1 with | .agg [.lit (.string a), .lit (.string b)] => (a, b) | _ => ([], [])
theorem bulk_fls {H : Type} : ∀ es : List (DataW H × List MemPlace), (∀ y ∈ es, ∃ a b, y.1 = .agg [.lit (.string a), .lit (.string b)]) → Rows.uptoBulkAll (es.map (·.1)) = sumF (es.map flOf)
  | [], _ => by simp [sumF, Rows.uptoBulkAll]
  | y :: es, h => by
    have ih := bulk_fls es (fun z hz => h z (List.mem_cons_of_mem _ hz))
    obtain ⟨a, b, e⟩ := h y (by simp)
    simp only [sumF, List.map_cons, List.sum_cons, Rows.uptoBulkAll, ih, e, flOf, szF, Rows.uptoBulk] at ih ⊢
    omega
theorem addr_add (g o k : Nat) : Addr.add ⟨g, o, none⟩ k = ⟨g, o + k, none⟩ := by unfold Addr.add; split <;> simp_all
set_option maxRecDepth 100000 in
theorem open_fields {H : Type} {enc : TypeId × Value → H} {W : World} {base : Nat} {v : Value} {d : DataW H} {ps : List MemPlace} (hval : Value.okWide Tryd.prog W .any base 22 v)
    (h : DataW.Trod enc Tryd.prog W 0 (fun _ => true) true 22 v d ps) : ∃ t : List Fl, InF v t W ∧ bulkfields t ≤ Rows.uptoBulk d := by
  obtain ⟨a0, len, cap, rfl⟩ := okWide_slice Tryd.underlying22 hval
  obtain ⟨fuel, hf⟩ := h
  rcases DataW.trod_slice Tryd.underlying22 hf with ⟨hcs, hx⟩ | ⟨a, len', cap', elems, rest, n, _, hcs, hx, hb, hl, hm, hlen, hel, _, _⟩
  · simp [Value.cells] at hcs
    obtain ⟨rfl, rfl, rfl⟩ := hcs
    exact ⟨[], ⟨⟨none, 0, rfl, .inl rfl⟩, fun _ => .inl rfl⟩, by simp [bulkfields, sumF]⟩
  · simp [Value.cells] at hcs
    obtain ⟨rfl, rfl, rfl⟩ := hcs
    simp only [Prod.mk.injEq] at hx
    obtain ⟨rfl, rfl⟩ := hx
    have each : ∀ i y, elems[i]? = some y → ∃ (s1 s2 : ByteArray), y.1 = .agg [.lit (.string s1.data.toList), .lit (.string s2.data.toList)] ∧ W.cell? ((a.add (i * 2)).add 0) = some (.string s1) ∧ W.cell? ((a.add (i * 2)).add 1) = some (.string s2) := by
      intro i y hy
      have hi : i < len := by rw [← hlen]; exact (List.getElem?_eq_some_iff.1 hy).1
      have h1 := hel i hi
      rw [hy, cellsF, Option.bind_eq_some_iff] at h1
      obtain ⟨cs, hcs, ht⟩ := h1
      obtain ⟨ys, m, _, hx, hl4, hy4, hfs⟩ := DataW.trod_struct Tryd.underlying46 ht
      rw [cellsF] at hl4
      have hcc := (World.cells?_some hcs).2.2
      have t0 := hfs 0 _ rfl
      have t1 := hfs 1 _ rfl
      match cs, hl4 with
      | [x0, x1], _ =>
        match ys, hy4 with
        | [y0, y1], _ =>
          simp [cells9] at t0 t1
          obtain ⟨m0, e0, q0, w0⟩ := DataW.trod_string Tryd.underlying9 t0
          obtain ⟨m1, e1, q1, w1⟩ := DataW.trod_string Tryd.underlying9 t1
          simp at e0 e1
          subst e0 e1
          subst q0 q1
          refine ⟨m0, m1, ?_, hcc 0 (by omega), hcc 1 (by omega)⟩
          rw [hx]
          rfl
    refine ⟨elems.map flOf, ⟨⟨some a, cap, by rw [List.length_map, hlen], ?_⟩, fun e => .inr ⟨a, cap, by have := congrArg List.length e; rw [List.length_map, hlen] at this; rw [this]; rfl⟩⟩, ?_⟩
    · by_cases hl0 : len = 0
      · left
        have : elems = [] := List.length_eq_zero_iff.1 (by omega)
        rw [this]; rfl
      · right
        obtain ⟨g, o, spot⟩ := a
        have hspot : spot = none := by
          obtain ⟨y, hy⟩ : ∃ y, elems[0]? = some y := ⟨elems[0]'(by omega), List.getElem?_eq_getElem (by omega)⟩
          obtain ⟨s1, s2, _, c0, _⟩ := each 0 y hy
          simpa [Addr.add] using World.cell?_spot c0
        subst hspot
        refine ⟨g, o, rfl, by rw [List.length_map, hlen]; exact hl, fun j hj => ?_⟩
        rw [List.length_map] at hj
        obtain ⟨s1, s2, ey, c0, c1⟩ := each j _ (List.getElem?_eq_getElem hj)
        have en : nth (elems.map flOf) j = (s1.data.toList, s2.data.toList) := by
          unfold nth
          rw [List.getD_eq_getElem?_getD, List.getElem?_map, List.getElem?_eq_getElem hj]
          show flOf elems[j] = _
          unfold flOf
          rw [ey]
        rw [addr_add, addr_add] at c0 c1
        rw [en]
        dsimp only
        rw [str_self, str_self]
        exact ⟨c0, c1⟩
    · have hb := bulk_fls elems (fun y hy => by
        obtain ⟨i, hi⟩ := List.getElem?_of_mem hy
        obtain ⟨s1, s2, ey, _⟩ := each i y hi
        exact ⟨_, _, ey⟩)
      simp only [Rows.uptoBulk, hb, bulkfields]
      omega

theorem wantedF {P : Program} {ops : Array Oper} {rest : List Oper} {o : Oper} {a : Act} {w : World} {Q : Exit → Act → World → Prop} (hw : Region.wanted o (yielded ops a.tmps) = true)
    (h : o.wp P a w (wpList P ops Q rest) Q) : wpList P ops Q (o :: rest) a w := by
  rw [wpList, if_pos hw]
  exact .inl h
theorem encF_get (u : List Fl) (j : Nat) (z : Value) (h : (encF u)[j]? = some z) : j / 2 < u.length ∧ z = if j % 2 = 0 then .string (str (nth u (j / 2)).1) else .string (str (nth u (j / 2)).2) := by
  have hl := (List.getElem?_eq_some_iff.1 h).1
  rw [encF_len] at hl
  have hq : j / 2 < u.length := by omega
  refine ⟨hq, ?_⟩
  obtain ⟨e0, e1⟩ := encF_at u (j / 2) hq
  by_cases hm : j % 2 = 0
  · rw [if_pos hm]
    rw [show j / 2 * 2 = j by omega, h] at e0
    exact Option.some.inj e0
  · rw [if_neg hm]
    rw [show j / 2 * 2 + 1 = j by omega, h] at e1
    exact Option.some.inj e1

/-- A slice of fields appended to one of the call's own. -/
theorem wp_appFs {ops : Array Oper} {rest : List Oper} {o : Oper} {a : Act} {W : World} {Q : Exit → Act → World → Prop} (T S : Nat) (hinfo : (Tryd.prog.info? T).map (fun i => (i.zero, i.size, i.bytes)) = some (some (.agg #[.string ⟨#[]⟩, .string ⟨#[]⟩]), 2, 32))
    (hund : Tryd.prog.underlying S = some (.slice T)) (hw : Region.wanted o (yielded ops a.tmps) = true) (s x : Operand)
    (ho : o.op = .call { callee := .builtin .append, args := #[s, x], argTypes := #[S, S] }) (B : Nat) (v y : Value) (t u : List Fl)
    (hs : a.eval s = v) (hown : OwnF T B v t W) (hx : a.eval x = y) (hy : InF y u W) (hlen : t.length + u.length ≤ 2147483648) (hB : B ≤ W.heap.size)
    (h : ∀ v' w', OwnF T B v' (t ++ u) w' → Below B W w' → wpList Tryd.prog ops Q rest (a.put o.dst v') w') : wpList Tryd.prog ops Q (o :: rest) a W := by
  obtain ⟨i0, hi, hz0, hz1, hz2⟩ := info_parts hinfo
  refine wantedF hw ?_
  have own' : ∀ (ad : Addr) (c : Nat), y = .slice (some ad) u.length c → (∀ j z, (encF u)[j]? = some z → W.cell? (ad.add j) = some z) → o.wp Tryd.prog a W (wpList Tryd.prog ops Q rest) Q := by
    intro ad c ey hcell
    refine wp_append_own W s x S ho B T i0 (.agg #[.string ⟨#[]⟩, .string ⟨#[]⟩]) 2 32 hund hi hz0 hz1 hz2 rfl (by decide) v t.length _ hs hown ad u.length c (encF u) (hx.trans ey) (encF_len u) hcell ?_ ?_ ?_ hB ?_
    · intro z hz
      obtain ⟨j, hj⟩ := List.getElem?_of_mem hz
      obtain ⟨_, e⟩ := encF_get u j z hj
      rw [e]
      split <;> rfl
    · unfold maxLen; omega
    · omega
    · intro v' w' h1 h2 _
      refine h v' w' ?_ ((Below.refl B W).grown h2 hB (fun k hk => (World.ownsRow.lt hown k hk).1))
      unfold OwnF
      rw [List.length_append, show encF (t ++ u) = encF t ++ encF u by unfold encF; rw [List.flatMap_append]]
      exact h1
  obtain ⟨⟨a2, c2, rfl, hr⟩, hnil⟩ := hy
  by_cases hu : u = []
  · subst hu
    rcases hnil rfl with e | ⟨g, c, e⟩
    · have hrun := run_append_owned_none (P := Tryd.prog) (w := W) B S o.type T i0 2 hund hi v t.length _ hown
      have hx' : a.eval x = .slice none 0 0 := hx.trans e
      unfold Oper.wp
      simp [execOp, ho, resolve, invoke, builtin, hs, hx', hrun, Result.andThen]
      have := h v W (by simpa using hown) (Below.refl _ _)
      exact this
    · exact own' g c e (fun j z hj => by simp [encF] at hj)
  · rcases hr with hr | ⟨g, o', rfl, hc, hcell⟩
    · exact absurd hr hu
    · refine own' ⟨g, o', none⟩ c2 rfl (fun j z hj => ?_)
      rw [addr_add]
      obtain ⟨hq, e⟩ := encF_get u j z hj
      obtain ⟨h0, h1⟩ := hcell (j / 2) hq
      rw [e]
      by_cases hm : j % 2 = 0
      · rw [if_pos hm]
        rw [show o' + j / 2 * 2 = o' + j by omega] at h0
        exact h0
      · rw [if_neg hm]
        rw [show o' + j / 2 * 2 + 1 = o' + j by omega] at h1
        exact h1

set_option maxRecDepth 100000 in
set_option maxHeartbeats 1000000 in
theorem wide_any (v : Value) (t : List Fl) (w : World) (h : InF v t w) (hl : t.length ≤ 16777216) :
    Calls Tryd.prog 16 #[v] w fun e w' => ∃ u, e = .returned u ∧ OwnF 46 w.heap.size u t w' ∧ Below w.heap.size w w' := by
  have hb1 : Below w.heap.size w (w.alloc (.cells #[] 46)) := (Below.refl _ w).alloc (Nat.le_refl _) _
  have HI : Hid (InF v t (w.alloc (.cells #[] 46))) := h.below hb1
  have HO : Hid (_) := ownF_empty (B := w.heap.size) 46 w (Nat.le_refl _)
  have HB : Hid (Below w.heap.size w (w.alloc (.cells #[] 46))) := hb1
  have hs : w.heap.size ≤ (w.alloc (.cells #[] 46)).heap.size := hb1.size
  obtain ⟨⟨a, c, rfl, _⟩, _⟩ := h
  clear hb1
  go_enter Tryd.func16, Tryd.ntmps16
  go_wp2_with (at_builtin; go_must (refine wp_appFs 46 22 infoF Tryd.underlying22 rfl (.tmp 3) (.tmp 4) rfl w.heap.size _ _ [] t rfl HO.out rfl HI.out (by simp; omega) hs ?_); intro v5 w5 o5 b5)
  go_ret
  exact ⟨_, rfl, by simpa using o5, HB.out.trans b5⟩

end Fd
end Go.Proofs.YtggmidkmpgjnoaaDoor

/-
  The law's own plain, handed, whole.
-/
set_option linter.unusedVariables false
set_option linter.unusedSimpArgs false
namespace Go.Proofs.YtggmidkmpgjnoaaDoor
open Go.RowKit Go.Shelf
namespace Fd
open Oc Tg

set_option maxRecDepth 100000 in
set_option maxHeartbeats 2000000 in
theorem plain_any (v : Value) (t : List Fl) (w : World) (h : RdF v t w) (hl : t.length ≤ 16777216) :
    Calls Tryd.prog 7 #[v] w fun e w' => ∃ u, e = .returned u ∧ OwnF 51 w.heap.size u t w' ∧ Below w.heap.size w w' := by
  have HR : Hid (RdF v t w) := h
  obtain ⟨a, c, rfl, _⟩ := h
  go_enter Tryd.func7, Tryd.ntmps7
  go_wp2
  go_loopw [3, 8] (fun ov i wr => ∃ k : Nat, k ≤ t.length ∧ i = .int .i64 k ∧ Hid (OwnF 51 w.heap.size ov (t.take k) wr) ∧ Hid (Below w.heap.size w wr)) (fun _ i _ => t.length - (intOf i).toNat)
  case atStart => exact ⟨0, Nat.zero_le _, rfl, ownF_nil _ _ _, Below.refl _ _⟩
  case round =>
    obtain ⟨k, hk, rfl, hown, hbl⟩ := hrel
    have hsz := hbl.out.size
    by_cases hlt : k < t.length
    · obtain ⟨a', c', e', hcs⟩ := HR.out.below hbl.out
      injection e' with e1 _ e2
      subst e1 e2
      rcases hcs with h | ⟨g, o, rfl, hlc, hcell⟩
      · rw [h] at hlt; simp at hlt
      obtain ⟨p0, p1⟩ := hcell k hlt
      have HTk : Hid (t.take (k + 1) = t.take k ++ [nth t k]) := take_nth t k hlt
      have hlk : (t.take k).length + 1 ≤ 2147483648 := by rw [List.length_take]; omega
      generalize nth t k = p at *
      obtain ⟨pn, pv⟩ := p
      dsimp only at p0 p1
      generalize hn : str pn = N at p0
      generalize hv : str pv = V at p1
      have HN : Hid (N = str pn) := hn.symm
      have HV : Hid (V = str pv) := hv.symm
      have hb1 : Below wr.heap.size wr (wr.alloc (.cells #[.string N, .string V] 46)) := (Below.refl _ wr).alloc (Nat.le_refl _) _
      have HO1 : Hid (OwnF 51 w.heap.size _ (t.take k) (wr.alloc (.cells #[.string N, .string V] 46))) := hown.out.below hb1
      have HB1 : Hid (Below w.heap.size w (wr.alloc (.cells #[.string N, .string V] 46))) := bel_trans hbl.out hb1
      have hs1 : w.heap.size ≤ (wr.alloc (.cells #[.string N, .string V] 46)).heap.size := HB1.out.size
      clear hcell hn hv hb1
      go_wp2_with (at_builtin; go_must (refine wp_appF 51 26 infoF2 Tryd.underlying26 rfl (.tmp 12) (.tmp 18) rfl w.heap.size _ (t.take k) _ (pn, pv) _ _ HN.out HV.out rfl HO1.out _ rfl (by simp) hlk hs1 ?_); intro v6 w6 hown6 hb6)
      have HO6 : Hid (OwnF 51 w.heap.size v6 (t.take (k + 1)) w6) := (by rw [HTk.out]; exact hown6 : OwnF _ _ v6 (t.take (k + 1)) w6)
      have HB6 : Hid (Below w.heap.size w w6) := HB1.out.trans hb6
      clear hown6 hb6
      go_roundw
      case rel => exact ⟨k + 1, by omega, by go_num, HO6, HB6⟩
      case measure => simp [intOf]; omega
    · obtain rfl : k = t.length := by omega
      rw [List.take_length] at hown
      go_wp2
      go_ret
      exact ⟨_, rfl, hown.out, hbl.out⟩

/-- The two fields of spare room. -/
def spareF : List Fl := [([115, 112, 97, 114, 101], []), ([114, 111, 111, 109], [])]
theorem rd_two (w : World) (T : Nat) : InF (.slice (some ⟨w.heap.size, 0, none⟩) 2 2) spareF (w.alloc (.cells #[.string ⟨#[115, 112, 97, 114, 101]⟩, .string ⟨#[]⟩, .string ⟨#[114, 111, 111, 109]⟩, .string ⟨#[]⟩] T)) := by
  refine ⟨⟨_, _, rfl, .inr ⟨w.heap.size, 0, rfl, by simp [spareF], fun j hj => ?_⟩⟩, fun e => by cases e⟩
  have hj2 : j < 2 := by simpa [spareF] using hj
  match j, hj2 with
  | 0, _ => exact ⟨by simp [nth, spareF, str], by simp [nth, spareF, str]⟩
  | 1, _ => exact ⟨by simp [nth, spareF, str], by simp [nth, spareF, str]⟩
theorem RdF.front {a : Option Addr} {n c : Nat} {t u : List Fl} {w : World} (h : RdF (.slice a n c) (t ++ u) w) : RdF (.slice a t.length c) t w := by
  obtain ⟨a', c', e, h⟩ := h
  injection e with e1 e2 e3
  subst e1 e3
  refine ⟨a, c, rfl, ?_⟩
  rcases h with h | ⟨g, o, rfl, hc, hcell⟩
  · exact .inl (List.append_eq_nil_iff.1 h).1
  · refine .inr ⟨g, o, rfl, by rw [List.length_append] at hc; omega, fun j hj => ?_⟩
    have := hcell j (by rw [List.length_append]; omega)
    rw [show nth (t ++ u) j = nth t j by unfold nth; rw [List.getD_eq_getElem?_getD, List.getD_eq_getElem?_getD, List.getElem?_append_left hj]] at this
    exact this

theorem RdF.cap {a : Option Addr} {n c : Nat} {t : List Fl} {w : World} (h : RdF (.slice a n c) t w) : t.length ≤ c := by
  obtain ⟨a', c', e, h⟩ := h
  injection e with e1 e2 e3
  subst e3
  rcases h with h | ⟨g, o, _, hc, _⟩
  · rw [h]; exact Nat.zero_le _
  · exact hc
theorem RdF.some {a : Option Addr} {n c : Nat} {t : List Fl} {w : World} (h : RdF (.slice a n c) t w) (ht : t ≠ []) : ∃ g, a = .some g := by
  obtain ⟨a', c', e, h⟩ := h
  injection e with e1 e2 e3
  subst e1
  rcases h with h | ⟨g, o, e, _, _⟩
  · exact absurd h ht
  · exact ⟨_, e⟩

set_option maxRecDepth 100000 in
set_option maxHeartbeats 2000000 in
theorem handed_any (v : Value) (t : List Fl) (w : World) (h : InF v t w) (hl : t.length ≤ 16777216) :
    Calls Tryd.prog 6 #[v] w fun e w' => ∃ u f, e = .returned (.tuple #[u, f]) ∧ InF u t w' ∧ RdF f (t ++ spareF) w' ∧ Below w.heap.size w w' := by
  have HW : Hid (Calls _ _ _ _ _) := wide_any v t w h hl
  obtain ⟨⟨a, c, rfl, _⟩, _⟩ := h
  go_enter Tryd.func6, Tryd.ntmps6
  go_wp2_with fail
  refine HW.out.mono ?_
  rintro e w1 ⟨u, rfl, ho1, hb1⟩
  have HI : Hid (_) := rd_two w1 46
  have hb2 : Below w1.heap.size w1 (w1.alloc (.cells #[.string ⟨#[115, 112, 97, 114, 101]⟩, .string ⟨#[]⟩, .string ⟨#[114, 111, 111, 109]⟩, .string ⟨#[]⟩] 46)) := (Below.refl _ w1).alloc (Nat.le_refl _) _
  have HO : Hid (OwnF 46 w.heap.size u t (w1.alloc (.cells #[.string ⟨#[115, 112, 97, 114, 101]⟩, .string ⟨#[]⟩, .string ⟨#[114, 111, 111, 109]⟩, .string ⟨#[]⟩] 46))) := ho1.below hb2
  have HB : Hid (Below w.heap.size w (w1.alloc (.cells #[.string ⟨#[115, 112, 97, 114, 101]⟩, .string ⟨#[]⟩, .string ⟨#[114, 111, 111, 109]⟩, .string ⟨#[]⟩] 46))) := bel_trans hb1 hb2
  have hs : w.heap.size ≤ (w1.alloc (.cells #[.string ⟨#[115, 112, 97, 114, 101]⟩, .string ⟨#[]⟩, .string ⟨#[114, 111, 111, 109]⟩, .string ⟨#[]⟩] 46)).heap.size := HB.out.size
  clear ho1 hb1 hb2
  go_wp2_with (at_builtin; go_must (refine wp_appFs 46 22 infoF Tryd.underlying22 rfl (.tmp 6) (.tmp 9) rfl w.heap.size _ _ t spareF rfl HO.out rfl HI.out (by simp [spareF]; omega) hs ?_); intro v5 w5 o5 b5; obtain ⟨fa, fc, rfl⟩ := o5.form; have HO5 : Hid (OwnF _ _ _ _ _) := o5; have HB5 : Hid (Below w.heap.size w w5) := HB.out.trans b5; clear o5 b5; have hcap : t.length ≤ fc := by {have := HO5.out.rd.cap; rw [List.length_append] at this; omega}; rw [List.length_append, show spareF.length = 2 from rfl] at *)
  go_ret2
  refine ⟨_, _, rfl, ⟨HO5.out.rd.front, fun e => ?_⟩, HO5.out.rd, HB5.out⟩
  obtain ⟨g, rfl⟩ := HO5.out.rd.some (by simp [spareF])
  exact .inr ⟨g, fc, by rw [e]; rfl⟩

set_option maxRecDepth 100000 in
set_option maxHeartbeats 2000000 in
theorem whole_any (f v : Value) (t : List Fl) (w : World) (hf : RdF f (t ++ spareF) w) (h : RdF v t w) (hl : t.length ≤ 16777216) :
    Calls Tryd.prog 11 #[f, v] w fun e w' => e = .returned (.bool true) ∧ Below w.heap.size w w' := by
  have HP : Hid (Calls _ _ _ _ _) := plain_any v t w h hl
  have HF : Hid (RdF f (t ++ spareF) w) := hf
  obtain ⟨a, c, rfl, _⟩ := h
  obtain ⟨a', c', rfl, _⟩ := hf
  have hsp : (t ++ spareF).length ≤ 4294967296 := by rw [List.length_append, show spareF.length = 2 from rfl]; omega
  generalize hn : (t ++ spareF).length = n at *
  clear hn
  go_enter Tryd.func11, Tryd.ntmps11
  go_wp2_with fail
  refine HP.out.mono ?_
  rintro e w1 ⟨u, rfl, ho1, hb1⟩
  have HI : Hid (_) := rd_two w1 51
  have hb2 : Below w1.heap.size w1 (w1.alloc (.cells #[.string ⟨#[115, 112, 97, 114, 101]⟩, .string ⟨#[]⟩, .string ⟨#[114, 111, 111, 109]⟩, .string ⟨#[]⟩] 51)) := (Below.refl _ w1).alloc (Nat.le_refl _) _
  have HO : Hid (OwnF 51 w.heap.size u t (w1.alloc (.cells #[.string ⟨#[115, 112, 97, 114, 101]⟩, .string ⟨#[]⟩, .string ⟨#[114, 111, 111, 109]⟩, .string ⟨#[]⟩] 51))) := ho1.below hb2
  have HB : Hid (Below w.heap.size w (w1.alloc (.cells #[.string ⟨#[115, 112, 97, 114, 101]⟩, .string ⟨#[]⟩, .string ⟨#[114, 111, 111, 109]⟩, .string ⟨#[]⟩] 51))) := bel_trans hb1 hb2
  have hs : w.heap.size ≤ (w1.alloc (.cells #[.string ⟨#[115, 112, 97, 114, 101]⟩, .string ⟨#[]⟩, .string ⟨#[114, 111, 111, 109]⟩, .string ⟨#[]⟩] 51)).heap.size := HB.out.size
  clear ho1 hb1 hb2
  go_wp2_with (at_builtin; go_must (refine wp_appFs 51 26 infoF2 Tryd.underlying26 rfl (.tmp 7) (.tmp 10) rfl w.heap.size _ _ t spareF rfl HO.out rfl HI.out (by simp [spareF]; omega) hs ?_); intro v5 w5 o5 b5)
  have HB5 : Hid (Below w.heap.size w w5) := HB.out.trans b5
  have HS : Hid (Calls _ _ _ _ _) := same_any (.slice a' n c') v5 (t ++ spareF) w5 (HF.out.below HB5.out) o5.rd (by rw [List.length_append, show spareF.length = 2 from rfl]; omega)
  clear o5 b5
  go_wp2_with fail
  refine HS.out.mono ?_
  rintro e w6 ⟨rfl, hb6⟩
  have HB6 : Hid (Below w.heap.size w w6) := bel_trans HB5.out hb6
  clear hb6
  go_wp2
  go_ret
  exact ⟨rfl, HB6.out⟩

end Fd
end Go.Proofs.YtggmidkmpgjnoaaDoor
