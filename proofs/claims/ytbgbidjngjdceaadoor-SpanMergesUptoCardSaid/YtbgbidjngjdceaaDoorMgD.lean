/-
  slices.IndexFunc and slices.DeleteFunc at spans, with isEmpty.
-/
import Derived.Test.YtbgbidjngjdceaaDoorMgR
import Derived.Test.YtbgbidjngjdceaaDoorSnB
set_option linter.unusedVariables false
set_option linter.unusedSimpArgs false
namespace Go.Proofs.YtbgbidjngjdceaaDoor
open Go.RowKit
namespace Sn
open Oc

def idxE (d : List Sp) : Int := match d.findIdx? emp with | some k => (k : Int) | none => -1
theorem nthN_mem {d : List Sp} {k : Nat} (h : k < d.length) : nthN d k = d[k] := by
  unfold nthN
  rw [List.getD_eq_getElem?_getD, List.getElem?_eq_getElem h]
  rfl
theorem idxE_at {d : List Sp} {k : Nat} (hk : k < d.length) (h : emp (nthN d k) = true) (hall : ∀ j, j < k → emp (nthN d j) = false) : idxE d = k := by
  unfold idxE
  have : d.findIdx? emp = some k := by
    rw [List.findIdx?_eq_some_iff_getElem]
    exact ⟨hk, by rw [← nthN_mem hk]; exact h, fun j hj => by rw [← nthN_mem (by omega), hall j hj]; simp⟩
  rw [this]
theorem idxE_none {d : List Sp} (hall : ∀ j, j < d.length → emp (nthN d j) = false) : idxE d = -1 ∧ d.filter (fun x => !emp x) = d := by
  have h : ∀ x ∈ d, emp x = false := fun x hx => by
    obtain ⟨k, hk, rfl⟩ := List.mem_iff_getElem.1 hx
    rw [← nthN_mem hk]
    exact hall k hk
  constructor
  · unfold idxE
    have : d.findIdx? emp = none := by
      rw [List.findIdx?_eq_none_iff]
      exact h
    rw [this]
  · rw [List.filter_eq_self]
    intro x hx
    rw [h x hx]
    rfl
theorem idxE_cases (d : List Sp) : (idxE d = -1 ∧ d.filter (fun x => !emp x) = d) ∨ (∃ k : Nat, k < d.length ∧ idxE d = k ∧ (d.take (k + 1)).filter (fun x => !emp x) = d.take k) := by
  cases h : d.findIdx? emp with
  | none =>
    left
    rw [List.findIdx?_eq_none_iff] at h
    exact idxE_none (fun j hj => h _ (by rw [nthN_mem hj]; exact List.getElem_mem _))
  | some k =>
    right
    rw [List.findIdx?_eq_some_iff_getElem] at h
    obtain ⟨hk, h1, h2⟩ := h
    refine ⟨k, hk, idxE_at hk (by rw [nthN_mem hk]; exact h1) (fun j hj => by rw [nthN_mem (by omega)]; simpa using h2 j hj), ?_⟩
    rw [List.take_succ_eq_append_getElem hk, List.filter_append]
    have e1 : (d.take k).filter (fun x => !emp x) = d.take k := by
      rw [List.filter_eq_self]
      intro x hx
      obtain ⟨j, hj, rfl⟩ := List.mem_iff_getElem.1 hx
      rw [List.length_take] at hj
      rw [List.getElem_take]
      simpa using h2 j (by omega)
    rw [e1]
    simp [h1]

set_option maxRecDepth 100000 in
set_option maxHeartbeats 1000000 in
theorem IndexFunc_e (g n c : Nat) (d : List Sp) (hd : d.length = n) (hn : n ≤ 4294967296) (w : World) (hrw : RW 44 w g d) :
    Calls Tryd.prog 62 #[.slice (some ⟨g, 0, none⟩) n c, .func (.func 31) #[] #[]] w fun e w' => e = .returned (.int .i64 (idxE d)) ∧ Below w.heap.size w w' := by
  have HR : Hid (RW 44 w g d) := hrw
  clear hrw
  go_enter Tryd.func62, Tryd.ntmps62
  go_wp2
  go_loopw [8] (fun i wr => ∃ k : Nat, k ≤ n ∧ i = .int .i64 k ∧ Hid (∀ j, j < k → emp (nthN d j) = false) ∧ Hid (Below w.heap.size w wr)) (fun i _ => n - (intOf i).toNat)
  case atStart => exact ⟨0, Nat.zero_le _, rfl, (fun j hj => by omega : ∀ j, j < 0 → _), Below.refl _ _⟩
  case round =>
    obtain ⟨k, hk, rfl, hall, hbl⟩ := hrel
    by_cases hlt : k < n
    · have hr := HR.out.below hbl.out
      have p0 := hr.c0 k (by omega)
      have p1 := hr.c1 k (by omega)
      clear hr
      have HN : Hid (∀ W, Calls _ _ _ W _) := fun W => isEmpty_any (nthN d k).1 (nthN d k).2 W
      have HT : emp (nthN d k) = true → Hid (idxE d = k) := fun h => idxE_at (by omega) h hall.out
      have HF : emp (nthN d k) = false → Hid (∀ j, j < k + 1 → emp (nthN d j) = false) := fun h j hj => by
        by_cases hjk : j = k
        · subst hjk; exact h
        · exact hall.out j (by omega)
      rw [show ((nthN d k).1, (nthN d k).2) = nthN d k from rfl] at HN
      generalize emp (nthN d k) = b at HN HT HF
      generalize (nthN d k).1 = X at *
      generalize (nthN d k).2 = Y at *
      cases b with
      | true =>
        have HT2 := HT rfl
        clear HT HF
        go_wp2_with fail
        refine (HN.out _).mono ?_
        rintro e w2 ⟨rfl, hb2⟩
        have HB2 : Hid (Below w.heap.size w w2) := bel_trans hbl.out hb2
        clear hb2
        go_wp2
        go_ret
        exact ⟨ret_int HT2.out.symm, HB2.out⟩
      | false =>
        have HF2 := HF rfl
        clear HT HF
        go_wp2_with fail
        refine (HN.out _).mono ?_
        rintro e w2 ⟨rfl, hb2⟩
        have HB2 : Hid (Below w.heap.size w w2) := bel_trans hbl.out hb2
        clear hb2
        go_wp2
        go_roundw
        case rel => exact ⟨k + 1, by omega, by go_num, HF2, HB2⟩
        case measure => simp [intOf]; omega
    · have HE : Hid (idxE d = -1) := (idxE_none (fun j hj => hall.out j (by omega))).1
      go_wp2
      go_ret
      exact ⟨ret_int HE.out.symm, hbl.out⟩

theorem encN_app (a b : List Sp) : encN (a ++ b) = encN a ++ encN b := by unfold encN; rw [List.flatMap_append]
theorem encN_take : ∀ (d : List Sp) (i : Nat), encN (d.take i) = (encN d).take (i * 2)
  | [], i => by simp [encN]
  | x :: d, 0 => by simp [encN]
  | x :: d, i + 1 => by
    have e : ∀ (y : Sp) (t : List Sp), encN (y :: t) = .int .i64 y.1 :: .int .i64 y.2 :: encN t := fun _ _ => rfl
    rw [List.take_succ_cons, e, e, encN_take d i, show (i + 1) * 2 = i * 2 + 1 + 1 by omega]
    simp
theorem run_clearN (w : World) (ty : TypeId) (g i m c : Nat) (d : List Sp) (hg : RW 44 w g d) (hm : 0 < m) (hd : i + m = d.length) :
    (Builtin.clear_ #[22] ty #[.slice (some ⟨g, i * 2, none⟩) m c]).run Tryd.prog w = .ok (.tuple #[]) (w.setRow g (encN (d.take i ++ List.replicate m (0, 0))).toArray) := by
  obtain ⟨i0, hi, hz0, hz1, hz2⟩ := info_parts infoN
  have h1 := encN_one (List.replicate m ((0, 0) : Sp))
  have hst := run_storeCells_at Tryd.prog g (i * 2) 44 (encN (List.replicate m ((0, 0) : Sp))) 0 (encN d).toArray w hg (by simp [encN_len]; omega) h1
  have hz : (Builtin.zeroCells (Value.agg #[.int .i64 0, .int .i64 0]).cells m).toList = encN (List.replicate m ((0, 0) : Sp)) := by
    show (madeCells #[(.int .i64 0 : Value), .int .i64 0] (m * 2)).toList = _
    rw [made2]
  obtain ⟨m', rfl⟩ : ∃ m', m = m' + 1 := ⟨m - 1, by omega⟩
  simp [Builtin.clear_, run_underlying Tryd.underlying22, zeroValue, typeInfo, hi, hz0, hz, hst]
  rw [encN_app, encN_take, List.drop_of_length_le (by rw [encN_len, encN_len]; simp; omega), List.append_nil]

theorem below_setRow {B : Nat} {w w' : World} {g : Nat} (h : Below B w w') (hg : B ≤ g) (cs : Array Value) : Below B w (w'.setRow g cs) := by
  refine ⟨h.os, h.tape, h.output, ?_, fun k hk => ?_⟩
  · have := h.size
    simp [World.setRow]
    omega
  · rw [← h.block k hk]
    simp [World.setRow, Array.getElem?_modify]
    omega
theorem RW.setRow {T : Nat} {w : World} {g : Nat} {d : List Sp} (h : RW T w g d) (t : List Sp) : RW T (w.setRow g (encN t).toArray) g t := by
  unfold RW at h ⊢
  simp [World.setRow, Array.getElem?_modify, h]

set_option maxRecDepth 100000 in
set_option maxHeartbeats 2000000 in
theorem DeleteFunc_e (g n c : Nat) (d : List Sp) (hd : d.length = n) (hn : n ≤ 4294967296) (hc : n ≤ c) (w : World) (hrw : RW 44 w g d) :
    Calls Tryd.prog 40 #[.slice (some ⟨g, 0, none⟩) n c, .func (.func 31) #[] #[]] w fun e w' => ∃ d' : List Sp, e = .returned (.slice (some ⟨g, 0, none⟩) (d.filter (fun x => !emp x)).length c) ∧ RW 44 w' g d' ∧ d'.length = n ∧ d'.take (d.filter (fun x => !emp x)).length = d.filter (fun x => !emp x) ∧ Below g w w' := by
  have HR : Hid (RW 44 w g d) := hrw
  have HI : Hid (Calls _ _ _ w _) := IndexFunc_e g n c d hd hn w hrw
  have hgw := hrw.lt
  clear hrw
  rcases idxE_cases d with ⟨hi, hf⟩ | ⟨k0, hk0, hi, hf⟩
  · rw [hi] at HI
    rw [hf]
    have HD : Hid (d.length = n) := hd
    clear hf hi
    go_enter Tryd.func40, Tryd.ntmps40
    go_wp2_with fail
    refine HI.out.mono ?_
    rintro e w2 ⟨rfl, hb2⟩
    have HB2 : Hid (Below w.heap.size w w2) := hb2
    clear hb2
    go_wp2
    go_ret
    exact ⟨d, by rw [HD.out]; rfl, HR.out.below HB2.out, HD.out, by rw [List.take_length], HB2.out.mono (by omega)⟩
  · rw [hi] at HI
    have HF0 : Hid ((d.take (k0 + 1)).filter (fun x => !emp x) = d.take k0) := hf
    clear hf hi
    have hneg : ((k0 : Int) == -1) = false := by rw [beq_eq_false_iff_ne]; omega
    go_enter Tryd.func40, Tryd.ntmps40
    go_wp2_with fail
    refine HI.out.mono ?_
    rintro e w2 ⟨rfl, hb2⟩
    have HB2 : Hid (Below g w w2) := hb2.mono (by omega)
    have HR2 : Hid (RW 44 w2 g d) := HR.out.below hb2
    clear hb2
    go_wp2
    go_loopw [5, 6] (fun iv jv wr => ∃ (i j : Nat) (d' : List Sp), i < j ∧ j ≤ n ∧ iv = .int .i64 i ∧ jv = .int .i64 j ∧ Hid (RW 44 wr g d') ∧ d'.length = n ∧ Hid (d'.take i = (d.take j).filter (fun x => !emp x)) ∧ Hid (∀ k, j ≤ k → nthN d' k = nthN d k) ∧ Hid (i = ((d.take j).filter (fun x => !emp x)).length) ∧ Hid (Below g w wr)) (fun _ jv _ => n - (intOf jv).toNat)
    case atStart =>
      refine ⟨k0, k0 + 1, d, by omega, by omega, rfl, by go_num, HR2, hd, ?_, (fun k _ => rfl : ∀ k, _), ?_, HB2⟩
      · exact (HF0.out.symm : d.take k0 = _)
      · exact (by rw [HF0.out, List.length_take]; omega : k0 = ((d.take (k0 + 1)).filter (fun x => !emp x)).length)
    case round =>
      obtain ⟨i, j, d', hij, hj, rfl, rfl, hrw, hl', htk, hrest, hlen, hbl⟩ := hrel
      by_cases hlt : j < n
      · have p0 := hrw.out.c0 j (by omega)
        have p1 := hrw.out.c1 j (by omega)
        have hnj := hrest.out j (Nat.le_refl _)
        rw [hnj] at p0 p1
        have HN : Hid (∀ W, Calls _ _ _ W _) := fun W => isEmpty_any (nthN d j).1 (nthN d j).2 W
        rw [show ((nthN d j).1, (nthN d j).2) = nthN d j from rfl] at HN
        have htj : d.take (j + 1) = d.take j ++ [nthN d j] := by rw [List.take_succ_eq_append_getElem (by omega), nthN_mem]
        have HE : Hid (emp (nthN d j) = true → (d.take (j + 1)).filter (fun x => !emp x) = (d.take j).filter (fun x => !emp x)) := (fun h => by rw [htj, List.filter_append]; simp [h] : _ → _ = _)
        have HK : Hid (emp (nthN d j) = false → (d.take (j + 1)).filter (fun x => !emp x) = (d.take j).filter (fun x => !emp x) ++ [nthN d j]) := (fun h => by rw [htj, List.filter_append]; simp [h] : _ → _ = _)
        clear htj hnj
        obtain ⟨X, hX⟩ : ∃ X, X = nthN d j := ⟨_, rfl⟩
        rw [← hX] at p0 p1 HN HE HK
        obtain ⟨x1, x2⟩ := X
        dsimp only at *
        have hgr : g < wr.heap.size := hrw.out.lt
        obtain ⟨w5, hw5⟩ : ∃ w5, w5 = wr.alloc (.cells #[.int .i64 x1, .int .i64 x2] 44) := ⟨_, rfl⟩
        have HP5 : Hid (PB 44 w5 wr.heap.size (x1, x2)) := (by rw [hw5]; exact PB.new _ wr (x1, x2) : PB _ _ _ _)
        have HB5 : Hid (Below wr.heap.size wr w5) := (by rw [hw5]; exact (Below.refl _ wr).alloc (Nat.le_refl _) _ : Below _ _ _)
        have q0 := HP5.out.c0
        have q1 := HP5.out.c1
        generalize hgx : wr.heap.size = gx at *
        go_wp2_with fail
        rw [← hw5]
        clear hw5
        refine (HN.out _).mono ?_
        rintro e w6 ⟨rfl, hb6⟩
        have HP6 : Hid (PB _ _ _ _) := HP5.out.below hb6
        have HB6 : Hid (Below wr.heap.size wr w6) := (by rw [hgx]; exact HB5.out.trans (hb6.mono (by have := HB5.out.size; omega)) : Below _ _ _)
        have HR6 : Hid (RW 44 w6 g d') := hrw.out.below HB6.out
        have HBg : Hid (Below g w w6) := hbl.out.trans (HB6.out.mono (by omega))
        clear hb6
        cases hem : emp (x1, x2) with
        | true =>
          have HE2 := HE.out hem
          have HT2 : Hid (d'.take i = (d.take (j + 1)).filter (fun x => !emp x)) := (by rw [HE2]; exact htk.out : _ = _)
          have HL2 : Hid (i = ((d.take (j + 1)).filter (fun x => !emp x)).length) := (by rw [HE2]; exact hlen.out : _ = _)
          clear HE2 HE HK hem hX
          go_wp2
          go_roundw
          case rel => exact ⟨i, j + 1, d', by omega, by omega, rfl, by go_num, HR6, hl', HT2, (fun k hk => hrest.out k (by omega) : ∀ k, _), HL2, HBg⟩
          case measure => simp [intOf]; omega
        | false =>
          have HK2 := HK.out hem
          have r0 := HP6.out.c0
          have r1 := HP6.out.c1
          have s0 := HR6.out.c0 i (by omega)
          have s1 := HR6.out.c1 i (by omega)
          have f0 := HR6.out.f (i * 2)
          have f1 := HR6.out.f (i * 2 + 1)
          obtain ⟨w7, hw7⟩ : ∃ w7, w7 = (w6.setCell ⟨g, i * 2, none⟩ (.int .i64 x1)).setCell ⟨g, i * 2 + 1, none⟩ (.int .i64 x2) := ⟨_, rfl⟩
          have HR7 : Hid (RW 44 w7 g (d'.set i (x1, x2))) := (by rw [hw7]; exact HR6.out.set i x1 x2 : RW _ _ _ _)
          have HB7 : Hid (Below g w w7) := (by rw [hw7]; exact (HBg.out.setCell (Nat.le_refl _) _).setCell (Nat.le_refl _) _ : Below _ _ _)
          have HT2 : Hid ((d'.set i (x1, x2)).take (i + 1) = (d.take (j + 1)).filter (fun x => !emp x)) := (by
            rw [HK2, ← htk.out, List.take_succ_eq_append_getElem (by simp; omega), List.take_set_of_le (Nat.le_refl _)]
            simp : _ = _)
          have HL2 : Hid (i + 1 = ((d.take (j + 1)).filter (fun x => !emp x)).length) := (by rw [HK2, List.length_append, ← hlen.out]; rfl : _ = _)
          have HS2 : Hid (∀ k, j + 1 ≤ k → nthN (d'.set i (x1, x2)) k = nthN d k) := (fun k hk => by
            rw [← hrest.out k (by omega)]
            unfold nthN
            rw [List.getD_eq_getElem?_getD, List.getD_eq_getElem?_getD, List.getElem?_set_ne (by omega)] : ∀ k, _)
          clear HK2 HE HK hem hX
          go_wp2_with fail
          rw [← hw7]
          clear hw7
          go_wp2
          go_roundw
          case rel => exact ⟨i + 1, j + 1, d'.set i (x1, x2), by omega, by omega, by go_num, by go_num, HR7, by simp [hl'], HT2, HS2, HL2, HB7⟩
          case measure => simp [intOf]; omega
      · obtain rfl : j = n := by omega
        have htl : d.take j = d := List.take_of_length_le (by omega)
        rw [htl] at htk hlen
        have hcl := run_clearN wr 0 g i (j - i) (c - i) d' hrw.out (by omega) (by omega)
        have HR8 : Hid (RW 44 (wr.setRow g (encN (d'.take i ++ List.replicate (j - i) (0, 0))).toArray) g (d'.take i ++ List.replicate (j - i) (0, 0))) := hrw.out.setRow _
        have HB8 : Hid (Below g w (wr.setRow g (encN (d'.take i ++ List.replicate (j - i) (0, 0))).toArray)) := below_setRow hbl.out (Nat.le_refl _) _
        go_wp2
        go_ret
        refine ⟨_, ?_, HR8.out, ?_, ?_, HB8.out⟩
        · rw [← hlen.out]; rfl
        · simp; omega
        · rw [← hlen.out, ← htk.out, List.take_append_of_le_length (by simp; omega), List.take_take, Nat.min_self]

end Sn
end Go.Proofs.YtbgbidjngjdceaaDoor
