/- Several texts as one. -/
import Derived.Test.YtlfobdjbnpgchaaGreatDoorMgN
import Derived.Test.YtlfobdjbnpgchaaGreatDoorHtF
import Derived.Test.YtlfobdjbnpgchaaGreatDoorMgU
import Derived.Test.YtlfobdjbnpgchaaGreatDoorMgM
import Derived.BigQuiet
import Derived.Test.YtlfobdjbnpgchaaGreatDoorMgG
/-
  handle: only, upgraded (written by mkhs.py).
-/
set_option linter.unusedVariables false
set_option linter.unusedSimpArgs false
set_option maxRecDepth 100000
namespace Go.Proofs.YtlfobdjbnpgchaaGreatDoor
open Go.RowKit Go.Shelf
namespace Hn
open Oc Tg _root_.Go.Proofs.YtlfobdjbnpgchaaGreatDoor.Fd _root_.Go.Proofs.YtlfobdjbnpgchaaGreatDoor.Ck _root_.Go.Proofs.YtlfobdjbnpgchaaGreatDoor.Ms

def upN : List UInt8 := [85, 112, 103, 114, 97, 100, 101]
def wsK : List UInt8 := [119, 101, 98, 115, 111, 99, 107, 101, 116]
def coN : List UInt8 := [67, 111, 110, 110, 101, 99, 116, 105, 111, 110]
def ugK : List UInt8 := [117, 112, 103, 114, 97, 100, 101]
def ugV : List UInt8 := [85, 112, 103, 114, 97, 100, 101]
def verN : List UInt8 := [83, 101, 99, 45, 87, 101, 98, 83, 111, 99, 107, 101, 116, 45, 86, 101, 114, 115, 105, 111, 110]
def keyN : List UInt8 := [83, 101, 99, 45, 87, 101, 98, 83, 111, 99, 107, 101, 116, 45, 75, 101, 121]
def accN : List UInt8 := [83, 101, 99, 45, 87, 101, 98, 83, 111, 99, 107, 101, 116, 45, 65, 99, 99, 101, 112, 116]
def upL : List Fl := [(upN, wsK), (coN, ugV)]
def onlyF (s : List UInt8) (t : List Fl) : List UInt8 := match vals s t with | [x] => x | _ => []
/-- What an upgrade is answered with. -/
def sockR (t : List Fl) : Int :=
  if hasF upN t wsK = false then 426
  else if hasF coN t ugK = false then 426
  else if onlyF verN t ≠ [49, 51] then 426
  else if (Bs.accR (onlyF keyN t)).2 ≠ 0 then 400 else 101

theorem szF_of {t : List Fl} {p : Fl} (h : p ∈ t) : szF p ≤ sumF t := by
  unfold sumF
  induction t with
  | nil => cases h
  | cons q t ih =>
    rw [List.map_cons, List.sum_cons]
    rcases List.mem_cons.1 h with rfl | h
    · omega
    · have := ih h
      omega
theorem each_of {t : List Fl} (hS : sumF t ≤ 4000000) : Each 4000000 t := fun p hp => by
  have := szF_of hp
  unfold szF at this
  omega
theorem only_len {t : List Fl} (hS : sumF t ≤ 4000000) (s : List UInt8) : (onlyF s t).length ≤ 4000000 := by
  unfold onlyF
  split
  · rename_i x hx
    have hm : x ∈ vals s t := by rw [hx]; simp
    unfold vals at hm
    obtain ⟨p, hp, rfl⟩ := List.mem_map.1 hm
    exact (each_of hS p ((List.mem_filter.1 hp).1)).2
  · simp

set_option maxHeartbeats 1000000 in
theorem only_any (v : Value) (t : List Fl) (s : List UInt8) (hs : s.length ≤ 4000000) (hM : Each 4000000 t) (hl : t.length ≤ 16777216) (w : World) (hrd : RdF v t w) :
    Calls Tryz.prog 109 #[v, .string (str s)] w fun e w' => e = .returned (.string (str (onlyF s t))) ∧ Below w.heap.size w w' := by
  have HA : Hid (Calls _ _ _ _ _) := Fz.All_any v t s hs hM hl w hrd
  have HO : Hid (onlyF s t = match vals s t with | [x] => x | _ => []) := rfl
  generalize onlyF s t = R at *
  generalize vals s t = V at *
  clear hM hrd
  generalize str s = S at *
  go_enter Tryz.func109, Tryz.ntmps109
  go_wp2_with fail
  refine HA.out.mono ?_
  rintro e w2 ⟨u, rfl, ho, hb⟩
  have HB : Hid (Below w.heap.size w w2) := hb
  obtain ⟨a, c, rfl⟩ := ho.form
  by_cases h1 : V.length = 1
  · obtain ⟨x, rfl⟩ := List.length_eq_one_iff.1 h1
    obtain ⟨g, rfl, hc, hcell⟩ := ho.cell 0 (by simp)
    have hcell : w2.cell? ⟨g, 0, none⟩ = some (.string (str x)) := hcell
    have HQ : Hid (R = x) := HO.out
    rw [show [x].length = 1 from rfl]
    generalize hX : str x = X at *
    have HX : Hid (str x = X) := hX
    clear ho hb h1 HO HA hX hc
    go_wp2
    go_ret
    exact ⟨by rw [HQ.out, HX.out]; rfl, HB.out⟩
  · have h1' : ((V.length : Int) != 1) = true := by simp; omega
    have HQ : Hid (R = []) := (by
      rw [HO.out]
      split
      · rename_i x hx
        exact absurd (by simp) h1
      · rfl : R = [])
    clear ho hb h1 HO HA
    go_wp2
    go_ret
    exact ⟨by rw [HQ.out]; rfl, HB.out⟩

set_option maxHeartbeats 1000000 in
theorem upgraded_any (w : World) :
    Calls Tryz.prog 117 #[] w fun e w' => e = .returned (.slice (some ⟨w.heap.size, 0, none⟩) 2 2) ∧ OwnF 36 w.heap.size (.slice (some ⟨w.heap.size, 0, none⟩) 2 2) upL w' ∧ Below w.heap.size w w' := by
  obtain ⟨w1, hw1⟩ : ∃ w1, w1 = w.alloc (.cells #[.string ⟨#[85, 112, 103, 114, 97, 100, 101]⟩, .string ⟨#[119, 101, 98, 115, 111, 99, 107, 101, 116]⟩, .string ⟨#[67, 111, 110, 110, 101, 99, 116, 105, 111, 110]⟩, .string ⟨#[85, 112, 103, 114, 97, 100, 101]⟩] 36) := ⟨_, rfl⟩
  have hb1 : Below w.heap.size w w1 := by rw [hw1]; exact (Below.refl _ w).alloc (Nat.le_refl _) _
  have ho : OwnF 36 w.heap.size (.slice (some ⟨w.heap.size, 0, none⟩) 2 2) upL w1 := by
    rw [hw1]
    exact ⟨rfl, .inr ⟨w.heap.size, 2, #[.string ⟨#[85, 112, 103, 114, 97, 100, 101]⟩, .string ⟨#[119, 101, 98, 115, 111, 99, 107, 101, 116]⟩, .string ⟨#[67, 111, 110, 110, 101, 99, 116, 105, 111, 110]⟩, .string ⟨#[85, 112, 103, 114, 97, 100, 101]⟩], rfl, Nat.le_refl _, heap_alloc_new w _, by simp [upL], by decide, by simp, rfl⟩⟩
  have HB1 : Hid (Below w.heap.size w w1) := hb1
  have HO1 : Hid (OwnF _ _ _ _ _) := ho
  have HW1 : Hid (w1 = _) := hw1
  clear hb1 ho hw1
  go_enter Tryz.func117, Tryz.ntmps117
  go_wp2
  rw [← HW1.out]
  go_ret
  exact ⟨rfl, HO1.out, HB1.out⟩

end Hn
end Go.Proofs.YtlfobdjbnpgchaaGreatDoor

/-
  handle: the law's sameFields, fields (written by mkhnh.py out of MtM)
-/
set_option linter.unusedVariables false
set_option linter.unusedSimpArgs false
set_option maxRecDepth 100000
namespace Go.Proofs.YtlfobdjbnpgchaaGreatDoor
open Go.RowKit Go.Shelf
namespace Hn
open Oc Tg _root_.Go.Proofs.YtlfobdjbnpgchaaGreatDoor.Fd _root_.Go.Proofs.YtlfobdjbnpgchaaGreatDoor.Ck _root_.Go.Proofs.YtlfobdjbnpgchaaGreatDoor.Ms

theorem again12 (w : World) (n q : Nat) : Hid (∃ k, w.drewN (n + q) = w.drewN k) := (⟨_, rfl⟩ : ∃ k, w.drewN (n + q) = w.drewN k)
set_option maxRecDepth 100000 in
set_option maxHeartbeats 1000000 in
theorem same18_any (v1 v2 : Value) (t : List Fl) (w : World) (h1 : RdF v1 t w) (h2 : RdF v2 t w) (hl : t.length ≤ 4294967296) :
    Calls Tryz.prog 16 #[v1, v2] w fun e w' => e = .returned (.bool true) ∧ Below w.heap.size w w' := by
  obtain ⟨a1, c1, rfl, h1⟩ := h1
  obtain ⟨a2, c2, rfl, h2⟩ := h2
  have hne : ((t.length : Int) != (t.length : Int)) = false := by simp
  go_enter Tryz.func16, Tryz.ntmps16
  go_wp2
  go_loopw [13] (fun i wr => ∃ k : Nat, k ≤ t.length ∧ i = .int .i64 k ∧ Hid (∃ n, wr = w.drewN n)) (fun i _ => t.length - (intOf i).toNat)
  case atStart => exact ⟨0, Nat.zero_le _, rfl, (⟨0, rfl⟩ : ∃ n, w = w.drewN n)⟩
  case round =>
    obtain ⟨k, hk, rfl, hw⟩ := hrel
    obtain ⟨n, rfl⟩ := hw.out
    clear hw
    by_cases hlt : k < t.length
    · rcases h1 with h | ⟨g1, o1, rfl, hc1, hcell1⟩
      · rw [h] at hlt; simp at hlt
      rcases h2 with h | ⟨g2, o2, rfl, hc2, hcell2⟩
      · rw [h] at hlt; simp at hlt
      obtain ⟨p0, p1⟩ := hcell1 k hlt
      obtain ⟨q0, q1⟩ := hcell2 k hlt
      clear hcell1 hcell2
      generalize str (nth t k).1 = x at p0 q0
      generalize str (nth t k).2 = y at p1 q1
      go_wp2_with fail
      go_quiet (fail)
      go_wp2
      go_roundw
      case rel => exact ⟨k + 1, by omega, by go_num, again12 w _ _⟩
      case measure => simp [intOf]; omega
    · go_wp2
      go_ret
      exact ⟨rfl, below_drew w n⟩

set_option maxRecDepth 100000 in
set_option maxHeartbeats 2000000 in
theorem fields18_any (v : Value) (t : List Fl) (w : World) (h : RdF v t w) (hl : t.length ≤ 16777216) :
    Calls Tryz.prog 13 #[v] w fun e w' => ∃ u, e = .returned u ∧ OwnF 52 w.heap.size u t w' ∧ Below w.heap.size w w' := by
  have HR : Hid (RdF v t w) := h
  obtain ⟨a, c, rfl, _⟩ := h
  go_enter Tryz.func13, Tryz.ntmps13
  go_wp2
  go_loopw [3, 8] (fun ov i wr => ∃ k : Nat, k ≤ t.length ∧ i = .int .i64 k ∧ Hid (OwnF 52 w.heap.size ov (t.take k) wr) ∧ Hid (Below w.heap.size w wr)) (fun _ i _ => t.length - (intOf i).toNat)
  case atStart => exact ⟨0, Nat.zero_le _, rfl, ownF_nil _ _ _, Below.refl _ _⟩
  case round =>
    obtain ⟨k, hk, rfl, hown, hbl⟩ := hrel
    have hsz := hbl.out.size
    by_cases hlt : k < t.length
    · obtain ⟨a', c', e', hcs⟩ := HR.out.below hbl.out
      injection e' with e1 _ e2
      subst e1 e2
      rcases hcs with h | ⟨g, o, rfl, hlc, hcell⟩
      · rw [h] at hlt; simp at hlt
      obtain ⟨p0, p1⟩ := hcell k hlt
      have HTk : Hid (t.take (k + 1) = t.take k ++ [nth t k]) := take_nth t k hlt
      have hlk : (t.take k).length + 1 ≤ 2147483648 := by rw [List.length_take]; omega
      generalize nth t k = p at *
      obtain ⟨pn, pv⟩ := p
      dsimp only at p0 p1
      generalize hn : str pn = N at p0
      generalize hv : str pv = V at p1
      have HN : Hid (N = str pn) := hn.symm
      have HV : Hid (V = str pv) := hv.symm
      have hb1 : Below wr.heap.size wr (wr.alloc (.cells #[.string N, .string V] 36)) := (Below.refl _ wr).alloc (Nat.le_refl _) _
      have HO1 : Hid (OwnF 52 w.heap.size _ (t.take k) (wr.alloc (.cells #[.string N, .string V] 36))) := hown.out.below hb1
      have HB1 : Hid (Below w.heap.size w (wr.alloc (.cells #[.string N, .string V] 36))) := bel_trans hbl.out hb1
      have hs1 : w.heap.size ≤ (wr.alloc (.cells #[.string N, .string V] 36)).heap.size := HB1.out.size
      clear hcell hn hv hb1
      go_wp2_with (at_builtin; go_must (refine wp_appF 52 41 infoF2 Tryz.underlying41 rfl (.tmp 12) (.tmp 18) rfl w.heap.size _ (t.take k) _ (pn, pv) _ _ HN.out HV.out rfl HO1.out _ rfl (by simp) hlk hs1 ?_); intro v6 w6 hown6 hb6)
      have HO6 : Hid (OwnF 52 w.heap.size v6 (t.take (k + 1)) w6) := (by rw [HTk.out]; exact hown6 : OwnF _ _ v6 (t.take (k + 1)) w6)
      have HB6 : Hid (Below w.heap.size w w6) := HB1.out.trans hb6
      clear hown6 hb6
      go_roundw
      case rel => exact ⟨k + 1, by omega, by go_num, HO6, HB6⟩
      case measure => simp [intOf]; omega
    · obtain rfl : k = t.length := by omega
      rw [List.take_length] at hown
      go_wp2
      go_ret
      exact ⟨_, rfl, hown.out, hbl.out⟩



end Hn
end Go.Proofs.YtlfobdjbnpgchaaGreatDoor

/-
  handle: the document's Plain (written by mkhnl.py)
-/
set_option linter.unusedVariables false
set_option linter.unusedSimpArgs false
set_option maxRecDepth 100000
namespace Go.Proofs.YtlfobdjbnpgchaaGreatDoor
open Go.RowKit Go.Shelf
namespace Hn
open Oc Tg _root_.Go.Proofs.YtlfobdjbnpgchaaGreatDoor.Fd _root_.Go.Proofs.YtlfobdjbnpgchaaGreatDoor.Ck _root_.Go.Proofs.YtlfobdjbnpgchaaGreatDoor.Ms

theorem own_one {B : Nat} (w : World) (hB : B ≤ w.heap.size) : OwnF 52 B (.slice (some ⟨w.heap.size, 0, none⟩) 1 1) [(nCT, plT)] (w.alloc (.cells #[.string ⟨#[67, 111, 110, 116, 101, 110, 116, 45, 84, 121, 112, 101]⟩, .string ⟨#[116, 101, 120, 116, 47, 112, 108, 97, 105, 110, 59, 32, 99, 104, 97, 114, 115, 101, 116, 61, 117, 116, 102, 45, 56]⟩] 52)) := by
  exact ⟨by simp [Fd.encF, Fd.encF1], .inr ⟨w.heap.size, 1, #[.string ⟨#[67, 111, 110, 116, 101, 110, 116, 45, 84, 121, 112, 101]⟩, .string ⟨#[116, 101, 120, 116, 47, 112, 108, 97, 105, 110, 59, 32, 99, 104, 97, 114, 115, 101, 116, 61, 117, 116, 102, 45, 56]⟩], rfl, hB, heap_alloc_new w _, by simp, by decide, by simp, rfl⟩⟩

theorem plainType_any (w : World) : Calls Tryz.prog 33 #[] w fun e w' => e = .returned (.agg #[.string ⟨#[67, 111, 110, 116, 101, 110, 116, 45, 84, 121, 112, 101]⟩, .string ⟨#[116, 101, 120, 116, 47, 112, 108, 97, 105, 110, 59, 32, 99, 104, 97, 114, 115, 101, 116, 61, 117, 116, 102, 45, 56]⟩]) ∧ Below w.heap.size w w' := by
  go_enter Tryz.func33, Tryz.ntmps33
  go_wp2
  refine bodyPost_ret (v := .agg #[.string ⟨#[67, 111, 110, 116, 101, 110, 116, 45, 84, 121, 112, 101]⟩, .string ⟨#[116, 101, 120, 116, 47, 112, 108, 97, 105, 110, 59, 32, 99, 104, 97, 114, 115, 101, 116, 61, 117, 116, 102, 45, 56]⟩]) (by simp [results, Tryz.results33, go_sem]) rfl ⟨rfl, (Below.refl _ w).alloc (Nat.le_refl _) _⟩

set_option maxHeartbeats 4000000 in
theorem rPlain_any (n : Int) (hn : i64 n) (v : Value) (t : List Fl) (hl : t.length ≤ 1000000000) (w : World) (hI : InF v t w) :
    Calls Tryz.prog 12 #[.int .i64 n, v] w fun e w' => ∃ a c, e = .returned (.agg #[.int .i64 n, .string ⟨#[]⟩, .slice a (t.length + 1) c, .string (str (stW n ++ [10]))]) ∧ OwnF 52 w.heap.size (.slice a (t.length + 1) c) ((nCT, plT) :: t) w' ∧ Below w.heap.size w w' := by
  obtain ⟨w1, hw1⟩ : ∃ w1, w1 = w.alloc (.cells #[.int .i64 0, .string ⟨#[]⟩, .slice none 0 0, .string ⟨#[]⟩] 43) := ⟨_, rfl⟩
  have hb1 : Below w.heap.size w w1 := by rw [hw1]; exact (Below.refl _ w).alloc (Nat.le_refl _) _
  have hR1 : Blk 43 w1 w.heap.size [.int .i64 0, .string ⟨#[]⟩, .slice none 0 0, .string ⟨#[]⟩] := by rw [hw1]; exact heap_alloc_new w _
  have HI : Hid (InF v t w) := hI
  have HR1 : Hid (Blk 43 w1 w.heap.size [.int .i64 0, .string ⟨#[]⟩, .slice none 0 0, .string ⟨#[]⟩]) := hR1
  have HB1 : Hid (Below w.heap.size w w1) := hb1
  have HW1 : Hid (w1 = _) := hw1
  have HRs : Hid (Calls _ _ _ _ _) := rReason_any n hn w1
  have hrl := rsL_len n
  have HDg : Hid (∀ W, Calls Tryz.prog 32 #[.int .i64 n] W fun e w' => e = .returned (.string (str (Lib.itoa n))) ∧ Below W.heap.size W w') := fun W => rDigits_any n hn.1 hn.2 W
  have HPt : Hid (∀ W, Calls _ _ _ W _) := fun W => plainType_any W
  have hil : (Lib.itoa n).length ≤ 21 := Lib.itoa_length_le n hn.1 hn.2
  obtain ⟨⟨av, cv, rfl, _⟩, _⟩ := id hI
  clear hw1 hb1 hR1 hI
  go_enter Tryz.func12, Tryz.ntmps12
  go_wp2_with fail
  rw [← HW1.out]
  refine HRs.out.mono ?_
  rintro e w2 ⟨rfl, hb2⟩
  have HB2 : Hid (Below w.heap.size w w2) := bel_tr HB1.out hb2 HB1.out.size
  have HR2 : Hid (Blk 43 w2 w.heap.size [.int .i64 0, .string ⟨#[]⟩, .slice none 0 0, .string ⟨#[]⟩]) := HR1.out.below hb2
  clear hb2 HW1 HRs HB1 HR1
  by_cases hz : rsL n = []
  · have hem : (str (rsL n)).toList.isEmpty = true := empty_of (by rw [str_size, hz]; rfl)
    have hSt : stW n = [83, 116, 97, 116, 117, 115, 32] ++ Lib.itoa n := if_pos hz
    generalize str (rsL n) = RS at *
    go_wp2_with fail
    refine (HDg.out w2).mono ?_
    rintro e w3 ⟨rfl, hb3⟩
    obtain ⟨DG, hDG⟩ : ∃ DG, DG = str (Lib.itoa n) := ⟨_, rfl⟩
    have hdz : DG.size ≤ 21 := by rw [hDG, str_size]; exact hil
    have HDG : Hid (DG = str (Lib.itoa n)) := hDG
    rw [← hDG]
    have hk1 : (⟨#[83, 116, 97, 116, 117, 115, 32]⟩ : ByteArray).size = 7 := rfl
    have hk2 : (⟨#[10]⟩ : ByteArray).size = 1 := rfl
    have hs1 : (⟨#[83, 116, 97, 116, 117, 115, 32]⟩ : ByteArray).size + DG.size ≤ 9223372036854775807 := by rw [hk1]; omega
    have hs2 : ((⟨#[83, 116, 97, 116, 117, 115, 32]⟩ : ByteArray) ++ DG).size + (⟨#[10]⟩ : ByteArray).size ≤ 9223372036854775807 := by rw [ByteArray.size_append, hk1, hk2]; omega
    have HB3 : Hid (Below w.heap.size w w3) := bel_tr HB2.out hb3 HB2.out.size
    have HR3 : Hid (Blk 43 w3 w.heap.size [.int .i64 0, .string ⟨#[]⟩, .slice none 0 0, .string ⟨#[]⟩]) := HR2.out.below hb3
    have HBO : Hid (str (stW n ++ [10]) = ((⟨#[83, 116, 97, 116, 117, 115, 32]⟩ : ByteArray) ++ DG) ++ ⟨#[10]⟩) := (by rw [hSt, HDG.out]; symm; apply eq_list; simp [str] : _ = _)
    clear hb3 hDG hk1 hk2 HDg hem hz hSt HB2 HR2
    go_wp2_with fail
    refine (HPt.out w3).mono ?_
    rintro e w5 ⟨rfl, hb5⟩
    have HB5 : Hid (Below w.heap.size w w5) := bel_tr HB3.out hb5 HB3.out.size
    have HR5 : Hid (Blk 43 w5 w.heap.size [.int .i64 0, .string ⟨#[]⟩, .slice none 0 0, .string ⟨#[]⟩]) := HR3.out.below hb5
    have hO6 : OwnF 52 (w.heap.size + 1) (.slice (some ⟨w5.heap.size, 0, none⟩) 1 1) [(nCT, plT)] (w5.alloc (.cells #[.string ⟨#[67, 111, 110, 116, 101, 110, 116, 45, 84, 121, 112, 101]⟩, .string ⟨#[116, 101, 120, 116, 47, 112, 108, 97, 105, 110, 59, 32, 99, 104, 97, 114, 115, 101, 116, 61, 117, 116, 102, 45, 56]⟩] 52)) := own_one w5 HR5.out.lt
    have hb6 : Below w5.heap.size w5 (w5.alloc (.cells #[.string ⟨#[67, 111, 110, 116, 101, 110, 116, 45, 84, 121, 112, 101]⟩, .string ⟨#[116, 101, 120, 116, 47, 112, 108, 97, 105, 110, 59, 32, 99, 104, 97, 114, 115, 101, 116, 61, 117, 116, 102, 45, 56]⟩] 52)) := (Below.refl _ w5).alloc (Nat.le_refl _) _
    have HO6 : Hid (OwnF 52 (w.heap.size + 1) (.slice (some ⟨w5.heap.size, 0, none⟩) 1 1) [(nCT, plT)] (w5.alloc (.cells #[.string ⟨#[67, 111, 110, 116, 101, 110, 116, 45, 84, 121, 112, 101]⟩, .string ⟨#[116, 101, 120, 116, 47, 112, 108, 97, 105, 110, 59, 32, 99, 104, 97, 114, 115, 101, 116, 61, 117, 116, 102, 45, 56]⟩] 52))) := hO6
    have HB6 : Hid (Below w.heap.size w (w5.alloc (.cells #[.string ⟨#[67, 111, 110, 116, 101, 110, 116, 45, 84, 121, 112, 101]⟩, .string ⟨#[116, 101, 120, 116, 47, 112, 108, 97, 105, 110, 59, 32, 99, 104, 97, 114, 115, 101, 116, 61, 117, 116, 102, 45, 56]⟩] 52))) := bel_tr HB5.out hb6 HB5.out.size
    have HI6 : Hid (InF (.slice av t.length cv) t (w5.alloc (.cells #[.string ⟨#[67, 111, 110, 116, 101, 110, 116, 45, 84, 121, 112, 101]⟩, .string ⟨#[116, 101, 120, 116, 47, 112, 108, 97, 105, 110, 59, 32, 99, 104, 97, 114, 115, 101, 116, 61, 117, 116, 102, 45, 56]⟩] 52))) := (HI.out.below HB6.out : InF _ _ _)
    have HR6 : Hid (Blk 43 (w5.alloc (.cells #[.string ⟨#[67, 111, 110, 116, 101, 110, 116, 45, 84, 121, 112, 101]⟩, .string ⟨#[116, 101, 120, 116, 47, 112, 108, 97, 105, 110, 59, 32, 99, 104, 97, 114, 115, 101, 116, 61, 117, 116, 102, 45, 56]⟩] 52)) w.heap.size [.int .i64 0, .string ⟨#[]⟩, .slice none 0 0, .string ⟨#[]⟩]) := (HR5.out.below hb6 : Blk _ _ _ _)
    have HS6 : Hid (w.heap.size + 1 ≤ (w5.alloc (.cells #[.string ⟨#[67, 111, 110, 116, 101, 110, 116, 45, 84, 121, 112, 101]⟩, .string ⟨#[116, 101, 120, 116, 47, 112, 108, 97, 105, 110, 59, 32, 99, 104, 97, 114, 115, 101, 116, 61, 117, 116, 102, 45, 56]⟩] 52)).heap.size) := HR6.out.lt
    clear hO6 hb6 hb5 HPt HB5 HR5 HB3 HR3
    go_wp2_with (at_builtin; go_must (refine wp_appFs 52 41 infoF2 Tryz.underlying41 rfl (.tmp 15) (.tmp 16) rfl (w.heap.size + 1) _ _ [(nCT, plT)] t rfl HO6.out rfl HI6.out (by simp; omega) HS6.out ?_); intro v9 w9 o9 b9; obtain ⟨a, c, e9⟩ := ownF_form o9; subst e9; have HO9 : Hid (OwnF 52 w.heap.size (.slice a (t.length + 1) c) ((nCT, plT) :: t) w9) := (by have := own_upF (B' := w.heap.size) o9 (by omega); rw [show ([(nCT, plT)] ++ t : List Fl).length = t.length + 1 by simp] at this; exact this : OwnF _ _ _ _ _); have HB9 : Hid (Below w.heap.size w w9) := HB6.out.trans (b9.mono (by omega)); have HR9 : Hid (Blk 43 w9 w.heap.size [.int .i64 0, .string ⟨#[]⟩, .slice none 0 0, .string ⟨#[]⟩]) := ((b9.block _ (Nat.lt_succ_self _)).trans HR6.out : Blk _ _ _ _); have r0 := HR9.out.cell 0 rfl; have r1 := HR9.out.cell 1 rfl; have r2 := HR9.out.cell 2 rfl; have r3 := HR9.out.cell 3 rfl; have rf := HR9.out.free; clear o9 b9)
    rw [HBO.out]
    generalize (((⟨#[83, 116, 97, 116, 117, 115, 32]⟩ : ByteArray) ++ DG) ++ ⟨#[10]⟩) = BX at *
    have hb9 := set4_but w9 w.heap.size (.int .i64 n) (.string ⟨#[]⟩) (.slice a (t.length + 1) c) (.string BX)
    have hlt9 := HR9.out.lt
    obtain ⟨W9, hW9⟩ : ∃ W9, W9 = set4 w9 w.heap.size (.int .i64 n) (.string ⟨#[]⟩) (.slice a (t.length + 1) c) (.string BX) := ⟨_, rfl⟩
    have HL9 : Hid (Below w.heap.size w W9) := (by rw [hW9]; exact HB9.out.trans (hb9.below (by omega) (fun x hx => by simp at hx; omega)) : Below _ _ _)
    have hB9 : Blk 43 W9 w.heap.size [.int .i64 n, .string ⟨#[]⟩, .slice a (t.length + 1) c, .string BX] := by rw [hW9]; exact set4_blk HR9.out _ _ _ _
    have HP9 : Hid (OwnF 52 w.heap.size (.slice a (t.length + 1) c) ((nCT, plT) :: t) W9) := (by rw [hW9]; exact HR9.out.keep HO9.out (by decide) hb9 : OwnF _ _ _ _ _)
    have HW9 : Hid (((((w9.setCell ⟨w.heap.size, 0, none⟩ (.int .i64 n)).setCell ⟨w.heap.size, 1, none⟩ (.string ⟨#[]⟩)).setCell ⟨w.heap.size, 2, none⟩ (.slice a (t.length + 1) c)).setCell ⟨w.heap.size, 3, none⟩ (.string BX)) = W9) := hW9.symm
    rw [HW9.out]
    clear r0 r1 r2 r3 rf hb9 hW9
    have q0 := hB9.cell 0 rfl
    have q1 := hB9.cell 1 rfl
    have q2 := hB9.cell 2 rfl
    have q3 := hB9.cell 3 rfl
    refine bodyPost_ret (v := .agg #[.int .i64 n, .string ⟨#[]⟩, .slice a (t.length + 1) c, .string BX]) (by simp [results, Tryz.results12, go_sem, q0, q1, q2, q3]) rfl ?_
    exact ⟨a, c, rfl, HP9.out, HL9.out⟩

  · have hem : (str (rsL n)).toList.isEmpty = false := nonempty_of (by rw [str_size]; exact fun e => hz (List.length_eq_zero_iff.1 e))
    have hSt : stW n = rsL n := if_neg hz
    obtain ⟨RS, hRS⟩ : ∃ RS, RS = str (rsL n) := ⟨_, rfl⟩
    have HRS : Hid (RS = str (rsL n)) := hRS
    have hrz : RS.size ≤ 100 := by rw [hRS, str_size]; exact hrl
    rw [← hRS] at hem ⊢
    have hk2 : (⟨#[10]⟩ : ByteArray).size = 1 := rfl
    have hs2 : RS.size + (⟨#[10]⟩ : ByteArray).size ≤ 9223372036854775807 := by rw [hk2]; omega
    have HBO : Hid (str (stW n ++ [10]) = RS ++ ⟨#[10]⟩) := (by rw [hSt, HRS.out]; symm; apply eq_list; simp [str] : _ = _)
    clear hRS hk2 HDg hrl hz hSt
    go_wp2_with fail
    refine (HPt.out w2).mono ?_
    rintro e w5 ⟨rfl, hb5⟩
    have HB5 : Hid (Below w.heap.size w w5) := bel_tr HB2.out hb5 HB2.out.size
    have HR5 : Hid (Blk 43 w5 w.heap.size [.int .i64 0, .string ⟨#[]⟩, .slice none 0 0, .string ⟨#[]⟩]) := HR2.out.below hb5
    have hO6 : OwnF 52 (w.heap.size + 1) (.slice (some ⟨w5.heap.size, 0, none⟩) 1 1) [(nCT, plT)] (w5.alloc (.cells #[.string ⟨#[67, 111, 110, 116, 101, 110, 116, 45, 84, 121, 112, 101]⟩, .string ⟨#[116, 101, 120, 116, 47, 112, 108, 97, 105, 110, 59, 32, 99, 104, 97, 114, 115, 101, 116, 61, 117, 116, 102, 45, 56]⟩] 52)) := own_one w5 HR5.out.lt
    have hb6 : Below w5.heap.size w5 (w5.alloc (.cells #[.string ⟨#[67, 111, 110, 116, 101, 110, 116, 45, 84, 121, 112, 101]⟩, .string ⟨#[116, 101, 120, 116, 47, 112, 108, 97, 105, 110, 59, 32, 99, 104, 97, 114, 115, 101, 116, 61, 117, 116, 102, 45, 56]⟩] 52)) := (Below.refl _ w5).alloc (Nat.le_refl _) _
    have HO6 : Hid (OwnF 52 (w.heap.size + 1) (.slice (some ⟨w5.heap.size, 0, none⟩) 1 1) [(nCT, plT)] (w5.alloc (.cells #[.string ⟨#[67, 111, 110, 116, 101, 110, 116, 45, 84, 121, 112, 101]⟩, .string ⟨#[116, 101, 120, 116, 47, 112, 108, 97, 105, 110, 59, 32, 99, 104, 97, 114, 115, 101, 116, 61, 117, 116, 102, 45, 56]⟩] 52))) := hO6
    have HB6 : Hid (Below w.heap.size w (w5.alloc (.cells #[.string ⟨#[67, 111, 110, 116, 101, 110, 116, 45, 84, 121, 112, 101]⟩, .string ⟨#[116, 101, 120, 116, 47, 112, 108, 97, 105, 110, 59, 32, 99, 104, 97, 114, 115, 101, 116, 61, 117, 116, 102, 45, 56]⟩] 52))) := bel_tr HB5.out hb6 HB5.out.size
    have HI6 : Hid (InF (.slice av t.length cv) t (w5.alloc (.cells #[.string ⟨#[67, 111, 110, 116, 101, 110, 116, 45, 84, 121, 112, 101]⟩, .string ⟨#[116, 101, 120, 116, 47, 112, 108, 97, 105, 110, 59, 32, 99, 104, 97, 114, 115, 101, 116, 61, 117, 116, 102, 45, 56]⟩] 52))) := (HI.out.below HB6.out : InF _ _ _)
    have HR6 : Hid (Blk 43 (w5.alloc (.cells #[.string ⟨#[67, 111, 110, 116, 101, 110, 116, 45, 84, 121, 112, 101]⟩, .string ⟨#[116, 101, 120, 116, 47, 112, 108, 97, 105, 110, 59, 32, 99, 104, 97, 114, 115, 101, 116, 61, 117, 116, 102, 45, 56]⟩] 52)) w.heap.size [.int .i64 0, .string ⟨#[]⟩, .slice none 0 0, .string ⟨#[]⟩]) := (HR5.out.below hb6 : Blk _ _ _ _)
    have HS6 : Hid (w.heap.size + 1 ≤ (w5.alloc (.cells #[.string ⟨#[67, 111, 110, 116, 101, 110, 116, 45, 84, 121, 112, 101]⟩, .string ⟨#[116, 101, 120, 116, 47, 112, 108, 97, 105, 110, 59, 32, 99, 104, 97, 114, 115, 101, 116, 61, 117, 116, 102, 45, 56]⟩] 52)).heap.size) := HR6.out.lt
    clear hO6 hb6 hb5 HPt HB5 HR5 HB2 HR2
    go_wp2_with (at_builtin; go_must (refine wp_appFs 52 41 infoF2 Tryz.underlying41 rfl (.tmp 15) (.tmp 16) rfl (w.heap.size + 1) _ _ [(nCT, plT)] t rfl HO6.out rfl HI6.out (by simp; omega) HS6.out ?_); intro v9 w9 o9 b9; obtain ⟨a, c, e9⟩ := ownF_form o9; subst e9; have HO9 : Hid (OwnF 52 w.heap.size (.slice a (t.length + 1) c) ((nCT, plT) :: t) w9) := (by have := own_upF (B' := w.heap.size) o9 (by omega); rw [show ([(nCT, plT)] ++ t : List Fl).length = t.length + 1 by simp] at this; exact this : OwnF _ _ _ _ _); have HB9 : Hid (Below w.heap.size w w9) := HB6.out.trans (b9.mono (by omega)); have HR9 : Hid (Blk 43 w9 w.heap.size [.int .i64 0, .string ⟨#[]⟩, .slice none 0 0, .string ⟨#[]⟩]) := ((b9.block _ (Nat.lt_succ_self _)).trans HR6.out : Blk _ _ _ _); have r0 := HR9.out.cell 0 rfl; have r1 := HR9.out.cell 1 rfl; have r2 := HR9.out.cell 2 rfl; have r3 := HR9.out.cell 3 rfl; have rf := HR9.out.free; clear o9 b9)
    rw [HBO.out]
    generalize (RS ++ ⟨#[10]⟩) = BX at *
    have hb9 := set4_but w9 w.heap.size (.int .i64 n) (.string ⟨#[]⟩) (.slice a (t.length + 1) c) (.string BX)
    have hlt9 := HR9.out.lt
    obtain ⟨W9, hW9⟩ : ∃ W9, W9 = set4 w9 w.heap.size (.int .i64 n) (.string ⟨#[]⟩) (.slice a (t.length + 1) c) (.string BX) := ⟨_, rfl⟩
    have HL9 : Hid (Below w.heap.size w W9) := (by rw [hW9]; exact HB9.out.trans (hb9.below (by omega) (fun x hx => by simp at hx; omega)) : Below _ _ _)
    have hB9 : Blk 43 W9 w.heap.size [.int .i64 n, .string ⟨#[]⟩, .slice a (t.length + 1) c, .string BX] := by rw [hW9]; exact set4_blk HR9.out _ _ _ _
    have HP9 : Hid (OwnF 52 w.heap.size (.slice a (t.length + 1) c) ((nCT, plT) :: t) W9) := (by rw [hW9]; exact HR9.out.keep HO9.out (by decide) hb9 : OwnF _ _ _ _ _)
    have HW9 : Hid (((((w9.setCell ⟨w.heap.size, 0, none⟩ (.int .i64 n)).setCell ⟨w.heap.size, 1, none⟩ (.string ⟨#[]⟩)).setCell ⟨w.heap.size, 2, none⟩ (.slice a (t.length + 1) c)).setCell ⟨w.heap.size, 3, none⟩ (.string BX)) = W9) := hW9.symm
    rw [HW9.out]
    clear r0 r1 r2 r3 rf hb9 hW9
    have q0 := hB9.cell 0 rfl
    have q1 := hB9.cell 1 rfl
    have q2 := hB9.cell 2 rfl
    have q3 := hB9.cell 3 rfl
    refine bodyPost_ret (v := .agg #[.int .i64 n, .string ⟨#[]⟩, .slice a (t.length + 1) c, .string BX]) (by simp [results, Tryz.results12, go_sem, q0, q1, q2, q3]) rfl ?_
    exact ⟨a, c, rfl, HP9.out, HL9.out⟩


end Hn
end Go.Proofs.YtlfobdjbnpgchaaGreatDoor
