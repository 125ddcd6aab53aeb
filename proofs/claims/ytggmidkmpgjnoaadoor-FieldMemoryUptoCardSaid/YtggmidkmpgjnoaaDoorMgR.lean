/- Several texts as one. -/
import Derived.Test.YtggmidkmpgjnoaaDoorFOn
import Derived.Test.YtggmidkmpgjnoaaDoorMgI
import Derived.Test.YtggmidkmpgjnoaaDoorMgO
/-
  field.Onward, whole.
-/
set_option linter.unusedVariables false
set_option linter.unusedSimpArgs false
namespace Go.Proofs.YtggmidkmpgjnoaaDoor
open Go.RowKit Go.Shelf
namespace Fd
open Oc Tg

theorem tokens_short {t : List Fl} (hS : sumF t ≤ 1048576) (s : List UInt8) : ∀ x ∈ (tokensF s t).1, x.length ≤ 1048576 := by
  have h := listV_short 1048576 (vals s t) [] (fun x hx => by cases hx) (vals_short ((each_sumF t).mono hS) s)
  unfold tokensF tokV
  split
  · split
    · intro x hx
      obtain ⟨y, hy, rfl⟩ := List.mem_map.1 hx
      unfold lower
      rw [List.length_map]
      exact h y hy
    · intro x hx; cases hx
  · intro x hx; cases hx
theorem tokens_bad {t : List Fl} {s : List UInt8} (h : (tokensF s t).2 ≠ 0) : (tokensF s t).1 = [] := by
  unfold tokensF tokV at h ⊢
  split
  · rename_i h1
    rw [if_pos h1] at h
    split
    · rename_i h2
      rw [if_pos h2] at h
      exact absurd rfl h
    · rfl
  · rfl
theorem take_getD (L : List (List UInt8)) (k : Nat) (h : k < L.length) : L.take (k + 1) = L.take k ++ [L.getD k []] := by
  rw [List.take_succ_eq_append_getElem h, List.getD_eq_getElem?_getD, List.getElem?_eq_getElem h]
  rfl
theorem ownF_low {T B B' : Nat} {v : Value} {t : List Fl} {w : World} (h : OwnF T B v t w) (hB : B' ≤ B) : OwnF T B' v t w :=
  ⟨h.1, h.2.imp id fun ⟨g, c, cur, e, hg, r⟩ => ⟨g, c, cur, e, Nat.le_trans hB hg, r⟩⟩
theorem OwnS.turned {B B0 : Nat} {v : Value} {t : List (List UInt8)} {w w' : World} (h : OwnS B v t w) (hg : w.mapTurned w' B0) (hB : B0 < B) : OwnS B v t w' := by
  obtain ⟨h1, h2⟩ := h
  refine ⟨h1, ?_⟩
  rcases h2 with hn | ⟨g, cap, cur, hv, hb, hgw, rest⟩
  · exact .inl hn
  · refine .inr ⟨g, cap, cur, hv, hb, ?_, rest⟩
    obtain ⟨es, clock, es', clock', hb0, rfl⟩ := hg
    rw [ChangeMaps.heap_setBlock_other hb0 _ (by omega)]
    exact hgw

set_option maxRecDepth 100000 in
set_option maxHeartbeats 2000000 in
theorem Onward_any (v : Value) (t : List Fl) (hS : sumF t ≤ 1048576) (w : World) (hrd : RdF v t w) (tab : Tab w) :
    Calls Tryd.prog 19 #[v] w fun e w' => ∃ u, e = .returned u ∧ OwnF 46 w.heap.size u (t.filter (onw (endsF t))) w' ∧ Below w.heap.size w w' := by
  have hlen := len_sumF t
  have HH : Hid (Calls _ _ _ _ _) := hopNames_any w
  have hl := tokens_len hS nCo
  have HSh : Hid (∀ x ∈ (tokensF nCo t).1, x.length ≤ 1048576) := tokens_short hS nCo
  have HT : Hid (∀ W : World, Below w.heap.size w W → Calls Tryd.prog 36 #[v, .string ⟨#[67, 111, 110, 110, 101, 99, 116, 105, 111, 110]⟩] W fun e w' => ∃ x, e = .returned (.tuple #[x, .int .i64 (tokensF nCo t).2]) ∧ OwnS W.heap.size x (tokensF nCo t).1 w' ∧ Below W.heap.size W w') := fun W hb => Tokens6_any v t nCo (by decide) hS W (hrd.below hb) (tab.below hb (Nat.le_refl _))
  have HKp : Hid (∀ (A : Nat) (n : Nat) (W : World), Below w.heap.size w W → W.cell? ⟨A, 0, none⟩ = some (.map (some w.heap.size)) → MS w.heap.size n (endsF t) W → Calls Tryd.prog 24 #[v, .func (.func 37) #[] #[.pointer (some ⟨A, 0, none⟩)]] W fun e w' => ∃ u, e = .returned u ∧ OwnF 46 W.heap.size u (t.filter (onw (endsF t))) w' ∧ Below W.heap.size W w') := fun A n W hb hc hm =>
    kept_onward v t (onw (endsF t)) A ((each_sumF t).mono hS) (by omega) W (hrd.below hb) (fun p W2 h1 h2 hb2 => onward1_any p (endsF t) n w.heap.size A h1 W2 ((hb2.cell (World.block_lt_of_cell? W _ hc)).trans hc) (hm.below hb2))
  generalize t.filter (onw (endsF t)) = R at *
  unfold endsF at HKp
  obtain ⟨a, c, rfl, _⟩ := hrd
  clear tab hS hlen
  generalize (tokensF nCo t).1 = L at *
  generalize (tokensF nCo t).2 = z at *
  go_enter Tryd.func19, Tryd.ntmps19
  go_wp2_with fail
  refine HH.out.mono ?_
  rintro e w1 ⟨rfl, hm1, hb1⟩
  obtain ⟨w2, hw2⟩ : ∃ w2, w2 = w1.alloc (.cells #[.map (some w.heap.size)] 63) := ⟨_, rfl⟩
  have hb2 : Below w1.heap.size w1 w2 := by rw [hw2]; exact (Below.refl _ w1).alloc (Nat.le_refl _) _
  have hc2 : w2.cell? ⟨w1.heap.size, 0, none⟩ = some (.map (some w.heap.size)) := by rw [hw2]; simp
  have hm2 : MS w.heap.size 7 hopL w2 := hm1.below hb2
  have hB2 : Below w.heap.size w w2 := bel_trans hb1 hb2
  have hlt1 : w.heap.size < w1.heap.size := hm1.lt
  have hlt2 : w1.heap.size < w2.heap.size := by rw [hw2]; simp
  have HT2 : Hid (Calls _ _ _ _ _) := HT.out w2 hB2
  have HB2 : Hid (Below w.heap.size w w2) := hB2
  have HM2 : Hid (MS w.heap.size 7 hopL w2) := hm2
  have HC2 : Hid (w2.cell? ⟨w1.heap.size, 0, none⟩ = some (.map (some w.heap.size))) := hc2
  have HL1 : Hid (w.heap.size < w1.heap.size) := hlt1
  have HL2 : Hid (w1.heap.size < w2.heap.size) := hlt2
  clear hb1 hb2 hc2 hm1 hm2 hB2 hlt1 hlt2
  go_wp2_with fail
  rw [← hw2]
  clear hw2
  refine HT2.out.mono ?_
  rintro e w3 ⟨u, rfl, ho, hb3⟩
  have HB3 : Hid (Below w.heap.size w w3) := bel_trans HB2.out hb3
  have HM3 : Hid (MS w.heap.size 7 hopL w3) := HM2.out.below hb3
  have hc3 : w3.cell? ⟨w1.heap.size, 0, none⟩ = some (.map (some w.heap.size)) := (hb3.cell HL2.out).trans HC2.out
  have HO3 : Hid (OwnS w2.heap.size u L w3) := ho
  obtain ⟨ua, uc, rfl⟩ := ho.form
  clear hb3 ho
  go_wp2
  go_loopw [16] (fun i wr => ∃ k : Nat, k ≤ L.length ∧ i = .int .i64 k ∧ Hid (MS w.heap.size (7 + k) (hopL ++ L.take k) wr) ∧ Hid (wr.cell? ⟨w1.heap.size, 0, none⟩ = some (.map (some w.heap.size))) ∧ Hid (OwnS w2.heap.size (.slice ua L.length uc) L wr) ∧ Hid (Below w.heap.size w wr)) (fun i _ => L.length - (intOf i).toNat)
  case atStart => exact ⟨0, Nat.zero_le _, rfl, (by rw [List.take_zero, List.append_nil]; exact HM3.out : MS _ _ _ _), hc3, HO3, HB3⟩
  case round =>
    obtain ⟨k, hk, rfl, hM, hC, hO, hB⟩ := hrel
    have cA := hC.out
    by_cases hlt : k < L.length
    · obtain ⟨a', c', e', hcs⟩ := hO.out.rd
      injection e' with e1 _ e2
      subst e1 e2
      rcases hcs with h | ⟨g, o, rfl, hlc, hcell⟩
      · rw [h] at hlt; simp at hlt
      have p0 := hcell k hlt
      clear hcell
      have HTk : Hid (L.take (k + 1) = L.take k ++ [L.getD k []]) := take_getD L k hlt
      have HX : Hid ((L.getD k []).length ≤ maxLen) := (by
        have := HSh.out (L.getD k []) (by rw [List.getD_eq_getElem?_getD, List.getElem?_eq_getElem hlt]; exact List.getElem_mem hlt)
        unfold maxLen; omega : _ ≤ _)
      have HN : Hid (7 + k < maxLen) := (by unfold maxLen; omega : _ < _)
      generalize hX : L.getD k [] = X at *
      generalize hs : str X = S at *
      have HS : Hid (S = str X) := hs.symm
      clear hX hs
      go_wp2_with (at_mapUpdate; refine wp_put _ rfl _ _ _ (Or.inl rfl) w.heap.size _ _ rfl hM.out HN.out X HX.out _ HS.out rfl rfl ?_; intro wn hMn hTn)
      have HMn : Hid (MS w.heap.size (7 + (k + 1)) (hopL ++ L.take (k + 1)) wn) := (by rw [HTk.out, ← List.append_assoc, ← Nat.add_assoc]; exact hMn.out : MS _ _ _ _)
      have HCn : Hid (wn.cell? ⟨w1.heap.size, 0, none⟩ = some (.map (some w.heap.size))) := (turned_cell hTn.out _ (by show w1.heap.size ≠ _; have := HL1.out; omega)).trans cA
      have HOn : Hid (OwnS w2.heap.size (.slice (some ⟨g, o, none⟩) L.length uc) L wn) := OwnS.turned hO.out hTn.out (by have := HL1.out; have := HL2.out; omega)
      have HBn : Hid (Below w.heap.size w wn) := turned_below hB.out (Nat.le_refl _) hTn.out
      go_roundw
      case rel => exact ⟨k + 1, by omega, by go_num, HMn, HCn, HOn, HBn⟩
      case measure => simp [intOf]; omega
    · obtain rfl : k = L.length := by omega
      rw [List.take_length] at hM
      have HQ : Hid (Calls _ _ _ _ _) := HKp.out w1.heap.size _ wr hB.out hC.out hM.out
      clear cA
      go_wp2_with fail
      refine HQ.out.mono ?_
      rintro e w9 ⟨x, rfl, ho9, hb9⟩
      have HO9 : Hid (OwnF 46 w.heap.size x R w9) := ownF_low ho9 hB.out.size
      have HB9 : Hid (Below w.heap.size w w9) := bel_trans hB.out hb9
      clear ho9 hb9
      go_wp2
      go_ret
      exact ⟨_, rfl, HO9.out, HB9.out⟩

end Fd
end Go.Proofs.YtggmidkmpgjnoaaDoor

/-
  Canon, and the document's.
-/
set_option linter.unusedVariables false
set_option linter.unusedSimpArgs false
namespace Go.Proofs.YtggmidkmpgjnoaaDoor
open Go.RowKit
namespace Fd
open Oc

/-- The byte at a place of a text of small letters, as a capital one where a piece begins. -/
def capI (t : ByteArray) (j : Nat) : Int := if 97 ≤ byt t j ∧ byt t j ≤ 122 ∧ (j = 0 ∨ byt t (j - 1) = 45) then byt t j - 32 else byt t j
def canonL (t : ByteArray) : List UInt8 := (List.range t.size).map fun j => UInt8.ofNat (capI t j).toNat
def canonS (s : ByteArray) : ByteArray := str (canonL (lowS s))

theorem capI_bd (t : ByteArray) (j : Nat) : 0 ≤ capI t j ∧ capI t j ≤ 255 := by
  have := byt_bd t j
  unfold capI
  split <;> omega
theorem capI_dash (t : ByteArray) (j : Nat) : (capI t j = 45) ↔ (byt t j = 45) := by
  unfold capI
  split <;> omega
theorem capI_up {t : ByteArray} {j : Nat} (h : 97 ≤ byt t j ∧ byt t j ≤ 122 ∧ (j = 0 ∨ byt t (j - 1) = 45)) : capI t j = byt t j - 32 := by unfold capI; rw [if_pos h]
theorem capI_not {t : ByteArray} {j : Nat} (h : ¬ (97 ≤ byt t j ∧ byt t j ≤ 122 ∧ (j = 0 ∨ byt t (j - 1) = 45))) : capI t j = byt t j := by unfold capI; rw [if_neg h]
theorem canonL_len (t : ByteArray) : (canonL t).length = t.size := by unfold canonL; simp
theorem canonL_at (t : ByteArray) (j : Nat) (h : j < t.size) : (((canonL t).getD j 0).toNat : Int) = capI t j := by
  unfold canonL
  rw [List.getD_eq_getElem?_getD, List.getElem?_map, List.getElem?_range h]
  have := capI_bd t j
  simp [UInt8.toNat_ofNat']
  omega
theorem cap_next (t : ByteArray) (k : Nat) : ∀ j, j < t.size → (if j < k + 1 then capI t j else byt t j) = if j = k then capI t k else if j < k then capI t j else byt t j := by
  intro j hj
  by_cases hjk : j = k
  · subst hjk; rw [if_pos (by omega), if_pos rfl]
  · rw [if_neg hjk]
    by_cases h2 : j < k
    · rw [if_pos (by omega), if_pos h2]
    · rw [if_neg (by omega), if_neg h2]

set_option maxRecDepth 100000 in
set_option maxHeartbeats 1000000 in
theorem rCanon_any (s : ByteArray) (hs : s.size ≤ maxLen) (w : World) :
    Calls Tryd.prog 20 #[.string s] w fun e w' => e = .returned (.string (canonS s)) ∧ Below w.heap.size w w' := by
  have HL : Hid (Calls Tryd.prog 39 #[.string s] w fun e w' => e = .returned (.string (lowS s)) ∧ Below w.heap.size w w') := rLower_any s hs w
  unfold canonS
  have hs2 : (lowS s).size ≤ maxLen := by rw [lowS_size]; exact hs
  clear hs
  unfold maxLen at hs2
  generalize lowS s = t at *
  have hcv := fun w => Lib.run_convert_string_bytes (P := Tryd.prog) w 9 70 5 t Tryd.underlying9 Tryd.underlying70 Tryd.underlying5
  go_enter Tryd.func20, Tryd.ntmps20
  go_wp2_with fail
  refine HL.out.mono ?_
  rintro e w1 ⟨rfl, hb1⟩
  have HB1 : Hid (Below w.heap.size w w1) := hb1
  clear hb1
  have HB2 : Hid (Below w.heap.size w (Lib.bytesWorld w1 5 t)) := bel_trans HB1.out (below_bytes w1 5 t)
  have HR : Hid (Row (Lib.bytesWorld w1 5 t) w1.heap.size t.size (byt t)) := bytes_row w1 5 t
  have hle : w.heap.size ≤ w1.heap.size := HB1.out.size
  go_wp2
  go_loopw [4] (fun i wr => ∃ k : Nat, k ≤ t.size ∧ i = .int .i64 k ∧ Hid (Row wr w1.heap.size t.size (fun j => if j < k then capI t j else byt t j)) ∧ Hid (Below w.heap.size w wr)) (fun i _ => t.size - (intOf i).toNat)
  case atStart => exact ⟨0, Nat.zero_le _, rfl, (by simpa using HR.out : Row _ _ _ _), HB2⟩
  case round =>
    obtain ⟨k, hk, rfl, hrow, hbel⟩ := hrel
    clear HR HB2 hcv
    by_cases hlt : k < t.size
    · have hck : wr.cell? ⟨w1.heap.size, k, none⟩ = some (.int .u8 (byt t k)) := by
        have := hrow.out.cell k hlt
        rwa [if_neg (by omega)] at this
      have hfk := hrow.out.free k hlt
      obtain ⟨b0, b1⟩ := byt_bd t k
      have HN : Hid (∀ j, j < t.size → (if j < k + 1 then capI t j else byt t j) = if j = k then capI t k else if j < k then capI t j else byt t j) := cap_next t k
      have HU : 97 ≤ byt t k ∧ byt t k ≤ 122 ∧ (k = 0 ∨ byt t (k - 1) = 45) → Hid (capI t k = byt t k - 32) := fun h => (by rw [capI_up h] : capI t k = _)
      have HS : ¬ (97 ≤ byt t k ∧ byt t k ≤ 122 ∧ (k = 0 ∨ byt t (k - 1) = 45)) → Hid (Row wr w1.heap.size t.size (fun j => if j < k + 1 then capI t j else byt t j)) := fun h => by
        refine ⟨fun j hj => ?_, hrow.out.free⟩
        rw [hrow.out.cell j hj, HN.out j hj]
        by_cases hjk : j = k
        · subst hjk; rw [if_neg (by omega), if_pos rfl, capI_not h]
        · rw [if_neg hjk]
      by_cases h97 : 97 ≤ byt t k
      · by_cases h122 : byt t k ≤ 122
        · by_cases hk0 : k = 0
          · have E1 := HU ⟨h97, h122, .inl hk0⟩
            clear HU HS
            subst hk0
            go_wp2
            go_roundw
            case rel => exact ⟨1, by omega, by go_num, hrow.out.set 0 hlt _ _ (by rw [← E1.out]; exact HN.out), hbel.out.setCell hle _⟩
            case measure => simp [intOf]; omega
          · have hpk : wr.cell? ⟨w1.heap.size, k - 1, none⟩ = some (.int .u8 (capI t (k - 1))) := by
              have := hrow.out.cell (k - 1) (by omega)
              rwa [if_pos (by omega)] at this
            have hcast : ((k : Int) - 1) = ((k - 1 : Nat) : Int) := by omega
            have hkz : ((k : Int) == 0) = false := by simp; omega
            obtain ⟨p0, p1⟩ := capI_bd t (k - 1)
            by_cases hd : byt t (k - 1) = 45
            · have E1 := HU ⟨h97, h122, .inr hd⟩
              have hq : capI t (k - 1) = 45 := (capI_dash t (k - 1)).2 hd
              clear HU HS hd
              generalize capI t (k - 1) = pv at *
              subst hq
              go_wp2
              go_roundw
              case rel => exact ⟨k + 1, by omega, by go_num, hrow.out.set k hlt _ _ (by rw [← E1.out]; exact HN.out), hbel.out.setCell hle _⟩
              case measure => simp [intOf]; omega
            · have hsame := HS (fun h => h.2.2.elim hk0 hd)
              have hq : (capI t (k - 1) == 45) = false := by
                rw [beq_eq_false_iff_ne]
                exact fun e => hd ((capI_dash t (k - 1)).1 e)
              clear HU HS hd
              generalize capI t (k - 1) = pv at *
              go_wp2
              go_roundw
              case rel => exact ⟨k + 1, by omega, by go_num, hsame.out, hbel.out⟩
              case measure => simp [intOf]; omega
        · have hsame := HS (fun h => h122 h.2.1)
          have g122 : decide (byt t k ≤ 122) = false := decide_eq_false h122
          clear HU HS
          go_wp2
          go_roundw
          case rel => exact ⟨k + 1, by omega, by go_num, hsame.out, hbel.out⟩
          case measure => simp [intOf]; omega
      · have hsame := HS (fun h => h97 h.1)
        have g97 : decide (97 ≤ byt t k) = false := decide_eq_false h97
        clear HU HS
        go_wp2
        go_roundw
        case rel => exact ⟨k + 1, by omega, by go_num, hsame.out, hbel.out⟩
        case measure => simp [intOf]; omega
    · have hbk := back wr w1.heap.size t.size (grownCap w1 t.size 0 5) _ (canonL t) hrow.out (canonL_len t) (fun j hj => by rw [if_pos (by omega), canonL_at _ _ hj])
      go_wp2
      go_ret
      exact ⟨rfl, hbel.out⟩

end Fd
end Go.Proofs.YtggmidkmpgjnoaaDoor

/-
  Print, and the document's.
-/
set_option linter.unusedVariables false
set_option linter.unusedSimpArgs false
namespace Go.Proofs.YtggmidkmpgjnoaaDoor
open Go.RowKit Go.Shelf
namespace Fd
open Oc Tg

theorem sz_le : ∀ (t : List Fl) (k : Nat), k < t.length → szF (nth t k) ≤ sumF t
  | [], k, h => by simp at h
  | p :: t, 0, _ => by
    simp only [sumF, List.map_cons, List.sum_cons]
    show szF p ≤ _
    omega
  | p :: t, k + 1, h => by
    have := sz_le t k (by simpa using h)
    simp only [sumF, List.map_cons, List.sum_cons]
    show szF (nth t k) ≤ _
    simp only [sumF] at this
    omega
theorem printG_next (t : List Fl) (k : Nat) (h : k < t.length) (acc : List UInt8) (hz : chkZ (nth t k) = 0) : printG (t.drop k) acc = printG (t.drop (k + 1)) (acc ++ lineP (nth t k) ++ [13, 10]) := by
  rw [drop_nth t k h]
  show (if _ then _ else _) = _
  rw [if_pos hz]
theorem printG_bad (t : List Fl) (k : Nat) (h : k < t.length) (acc : List UInt8) (hz : chkZ (nth t k) ≠ 0) : printG (t.drop k) acc = ([], chkZ (nth t k)) := by
  rw [drop_nth t k h]
  show (if _ then _ else _) = _
  rw [if_neg hz]

set_option maxRecDepth 100000 in
set_option maxHeartbeats 2000000 in
theorem rPrint_any (v : Value) (t : List Fl) (hs : sumF t ≤ 1048576) (w : World) (hr : RdF v t w) :
    Calls Tryd.prog 17 #[v] w fun e w' => e = .returned (.tuple #[.string (str (printT t).1), .int .i64 (printT t).2]) ∧ Below w.heap.size w w' := by
  have hlen := len_sumF t
  have HR : Hid (RdF v t w) := hr
  obtain ⟨a, c, rfl, _⟩ := hr
  by_cases h100 : 100 < t.length
  · have HP : Hid (printT t = ([], 65)) := by show _ = _; unfold printT; rw [if_pos h100]
    go_enter Tryd.func17, Tryd.ntmps17
    go_wp2
    go_ret2
    exact ⟨by rw [HP.out]; rfl, Below.refl _ _⟩
  · have HP : Hid (printT t = printG t []) := by show _ = _; unfold printT; rw [if_neg h100]
    go_enter Tryd.func17, Tryd.ntmps17
    go_wp2
    go_loopw [4, 14] (fun ov i wr => ∃ (k : Nat) (acc : List UInt8), k ≤ t.length ∧ ov = .string (str acc) ∧ i = .int .i64 k ∧ Hid (printT t = printG (t.drop k) acc) ∧ Hid (acc.length ≤ k * 1048600) ∧ Hid (Below w.heap.size w wr)) (fun _ i _ => t.length - (intOf i).toNat)
    case atStart => exact ⟨0, [], Nat.zero_le _, rfl, rfl, HP, (by simp : _ ≤ _), Below.refl _ _⟩
    case round =>
      obtain ⟨k, acc, hk, rfl, rfl, hst, hal, hW⟩ := hrel
      by_cases hlt : k < t.length
      · obtain ⟨a', c', e', hcs⟩ := HR.out.below hW.out
        injection e' with e1 _ e2
        subst e1 e2
        rcases hcs with h | ⟨g, o, rfl, hlc, hcell⟩
        · rw [h] at hlt; simp at hlt
        obtain ⟨p0, p1⟩ := hcell k hlt
        have hz := sz_le t k hlt
        have hll := lineP_len (nth t k)
        have NX : chkZ (nth t k) = 0 → Hid (printT t = printG (t.drop (k + 1)) (acc ++ lineP (nth t k) ++ [13, 10])) := fun h => hst.out.trans (printG_next t k hlt acc h)
        have BD : chkZ (nth t k) ≠ 0 → Hid (printT t = ([], chkZ (nth t k))) := fun h => hst.out.trans (printG_bad t k hlt acc h)
        have hp1 : (nth t k).1.length ≤ 1048576 := by unfold szF at hz; omega
        have hp2 : (nth t k).2.length ≤ 1048576 := by unfold szF at hz; omega
        have HPL : Hid (∀ w, Calls Tryd.prog 33 #[.agg #[.string (str (nth t k).1), .string (str (nth t k).2)]] w fun e w' => e = .returned (.tuple #[.string (str (printL (nth t k)).1), .int .i64 (printL (nth t k)).2]) ∧ Below w.heap.size w w') := fun w => rPrintLine_any (nth t k) (by omega) (by omega) w
        clear hcell hst
        generalize nth t k = p at *
        have hx : (lineP p).length ≤ 1048576 := by omega
        have hxs : (str (lineP p)).size ≤ 1048576 := by rw [str_size]; exact hx
        have has : (str acc).size ≤ 104860000 := by rw [str_size]; have := hal.out; omega
        have HEQ : Hid (str acc ++ (str (lineP p) ++ ⟨#[13, 10]⟩) = str (acc ++ lineP p ++ [13, 10])) := by
          show _ = _
          rw [List.append_assoc, ← str_app, ← str_app]
          rfl
        generalize str p.1 = N at *
        generalize str p.2 = V at *
        have hb1 : Below wr.heap.size wr (wr.alloc (.cells #[.string N, .string V] 51)) := (Below.refl _ wr).alloc (Nat.le_refl _) _
        have HBW : Hid (Below w.heap.size w (wr.alloc (.cells #[.string N, .string V] 51))) := bel_trans hW.out hb1
        clear hb1 hz hll hp1 hp2
        by_cases hz0 : chkZ p = 0
        · have nx := NX hz0
          rw [show printL p = (lineP p, 0) by unfold printL; rw [if_pos hz0]] at HPL
          dsimp only at HPL
          clear NX BD hz0
          have HA4 : Hid ((acc ++ lineP p ++ [13, 10]).length ≤ (k + 1) * 1048600) := by show _ ≤ _; rw [List.length_append, List.length_append]; have := hal.out; simp; omega
          generalize hLP : str (lineP p) = LP at *
          generalize hAC : str acc = AC at *
          clear hLP hAC
          go_wp2_with fail
          refine (HPL.out _).mono ?_
          rintro e w2 ⟨rfl, hb2⟩
          have HW2 : Hid (Below w.heap.size w w2) := bel_trans HBW.out hb2
          clear hb2
          go_wp2
          go_roundw
          case rel => exact ⟨k + 1, acc ++ lineP p ++ [13, 10], by omega, by rw [HEQ.out], by go_num, nx, HA4, HW2⟩
          case measure => simp [intOf]; omega
        · have bd := BD hz0
          rw [show printL p = ([], chkZ p) by unfold printL; rw [if_neg hz0]] at HPL
          dsimp only at HPL
          have hzq : (chkZ p != 0) = true := by simp [hz0]
          clear NX BD hz0
          generalize chkZ p = z at *
          go_wp2_with fail
          refine (HPL.out _).mono ?_
          rintro e w2 ⟨rfl, hb2⟩
          have HW2 : Hid (Below w.heap.size w w2) := bel_trans HBW.out hb2
          clear hb2
          go_wp2
          go_ret2
          exact ⟨by rw [bd.out]; rfl, HW2.out⟩
      · have HE : Hid (printT t = (acc, 0)) := by
          show _ = _
          rw [hst.out, List.drop_eq_nil_of_le (by omega)]
          rfl
        go_wp2
        go_ret2
        exact ⟨by rw [HE.out]; rfl, hW.out⟩

end Fd
end Go.Proofs.YtggmidkmpgjnoaaDoor
