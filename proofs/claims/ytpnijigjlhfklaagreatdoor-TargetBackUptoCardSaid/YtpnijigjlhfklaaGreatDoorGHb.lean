/-
  target: isGroup, isDecimalEnd, countGroups, isAddress.
-/
import Derived.Test.YtpnijigjlhfklaaGreatDoorGHa
set_option linter.unusedVariables false
set_option linter.unusedSimpArgs false
set_option maxRecDepth 100000
namespace Go.Proofs.YtpnijigjlhfklaaGreatDoor
open Go.RowKit Go.Shelf
namespace Tg
open Oc

def HE (w : World) : Prop := ML w ∧ Pow w
theorem HE.below {w w' : World} (h : HE w) (b : Below w.heap.size w w') : HE w' := ⟨h.1.below b, h.2.below b (Nat.le_refl _)⟩
theorem rdS_get {a : Option Addr} {n c k : Nat} {t : List (List UInt8)} {w : World} (h : RdS (.slice a n c) t w) (hk : k < t.length) : ∃ g o, a = some ⟨g, o, none⟩ ∧ t.length ≤ c ∧ w.cell? ⟨g, o + k, none⟩ = some (.string (str (t.getD k []))) := by
  obtain ⟨a', c', e, h⟩ := h
  injection e with e1 e2 e3
  subst e1 e3
  rcases h with h | ⟨g, o, rfl, hc, hcell⟩
  · rw [h] at hk; simp at hk
  · exact ⟨g, o, rfl, hc, hcell k hk⟩
theorem split_each (b : UInt8) (l : List UInt8) : ∀ z ∈ splitB b l, z.length ≤ l.length := by
  induction l with
  | nil => intro z hz; simp [splitB] at hz; subst hz; simp
  | cons c t ih =>
    intro z hz
    rw [splitB_cons] at hz
    by_cases h : (c == b) = true
    · rw [if_pos h] at hz
      rcases List.mem_cons.1 hz with rfl | hz
      · simp
      · have := ih z hz
        simp only [List.length_cons]
        omega
    · rw [if_neg h] at hz
      cases hs : splitB b t with
      | nil => exact absurd hs (splitB_ne b t)
      | cons x r =>
        rw [hs] at hz ih
        rcases List.mem_cons.1 hz with rfl | hz
        · have := ih x (by simp)
          simp only [List.length_cons]
          omega
        · have := ih z (by simp [hz])
          simp only [List.length_cons]
          omega
theorem getD_mem {α : Type} (L : List α) (k : Nat) (d : α) (h : k < L.length) : L.getD k d ∈ L := by
  rw [List.getD_eq_getElem?_getD, List.getElem?_eq_getElem h]
  exact List.getElem_mem h

theorem numR_nn (base : Int) (hb : 0 ≤ base) (m : Int) (hm : 0 ≤ m) (l : List UInt8) : 0 ≤ (numR base l m).1 ∧ (numR base l m).1 ≤ m := by
  have h0 : 0 ≤ numOf base l := by
    have := pre_nonneg base hb (str l) (str l).size (Nat.le_refl _)
    rw [pre_all, str_list] at this
    exact this
  unfold numR
  split
  · exact ⟨Int.le_refl _, hm⟩
  · split
    · exact ⟨Int.le_refl _, hm⟩
    · rename_i h
      exact ⟨h0, by show numOf base l ≤ _; omega⟩
theorem numR_bd10 (l : List UInt8) : 0 ≤ (numR 10 l 255).1 ∧ (numR 10 l 255).1 ≤ 255 := numR_nn 10 (by decide) 255 (by decide) l

set_option maxHeartbeats 1000000 in
theorem isGroup_any (s : ByteArray) (hs : s.size ≤ 40000000) (w : World) :
    Calls Tryz.prog 119 #[.string s] w fun e w' => e = .returned (.bool (grp1 s.data.toList)) ∧ Below w.heap.size w w' := by
  have HX : Hid (∀ w, Calls Tryz.prog 86 #[.string s, .int .i64 65535] w fun e w' => e = .returned (.tuple #[.int .i64 (numR 16 s.data.toList 65535).1, .int .i64 (numR 16 s.data.toList 65535).2]) ∧ Below w.heap.size w w') := fun w => Hex_any s (by unfold maxLen; omega) _ (by decide) (by decide) w
  have HG : Hid (grp1 s.data.toList = (decide ((numR 16 s.data.toList 65535).2 = 0) && decide (s.size ≤ 4))) := (by unfold grp1; rw [size_list] : _ = _)
  rw [HG.out]
  generalize (numR 16 s.data.toList 65535).1 = X at *
  generalize (numR 16 s.data.toList 65535).2 = E at *
  go_enter Tryz.func119, Tryz.ntmps119
  go_wp2_with fail
  refine (HX.out _).mono ?_
  rintro e w1 ⟨rfl, hb1⟩
  have HB1 : Hid (Below w.heap.size w w1) := hb1
  clear hb1
  by_cases hE : E = 0
  · subst hE
    by_cases h4 : s.size ≤ 4
    · have h4' : ((s.size : Nat) : Int) ≤ 4 := by omega
      go_wp2
      go_ret
      exact ⟨by simp [h4], HB1.out⟩
    · have h4' : ¬ ((s.size : Nat) : Int) ≤ 4 := by omega
      go_wp2
      go_ret
      exact ⟨by simp [h4]; omega, HB1.out⟩
  · have hq : (E == 0) = false := by simp [hE]
    go_wp2
    go_ret
    exact ⟨by simp [hE], HB1.out⟩

set_option maxHeartbeats 2000000 in
theorem isDecimalEnd_any (s : ByteArray) (hs : s.size ≤ 4000000) (w : World) (he : HE w) :
    Calls Tryz.prog 120 #[.string s] w fun e w' => e = .returned (.bool (quadR s.data.toList)) ∧ Below w.heap.size w w' := by
  have HS := Split_any s 46 (by omega) w he.1
  have HSp : Hid (_) := HS
  have HEn : Hid (HE w) := he
  have hLl := split_len 46 s.data.toList
  have HEa : Hid (∀ z ∈ splitB 46 s.data.toList, z.length ≤ 4000000) := (fun z hz => by have := split_each 46 s.data.toList z hz; rw [size_list] at this; omega : ∀ z ∈ splitB 46 s.data.toList, z.length ≤ 4000000)
  have HQ : Hid (quadR s.data.toList = ((splitB 46 s.data.toList).all dec1 && decide ((splitB 46 s.data.toList).length = 4))) := rfl
  rw [HQ.out]
  rw [size_list] at hLl
  have hL1 : (splitB 46 s.data.toList).length ≤ 4000001 := by omega
  clear HS he hLl HQ
  generalize splitB 46 s.data.toList = L at *
  go_enter Tryz.func120, Tryz.ntmps120
  go_wp2_with fail
  refine Calls.mono HSp.out ?_
  rintro e w1 ⟨a, c, rfl, hr1, hb1⟩
  have HR : Hid (RdS (.slice a L.length c) L w1) := hr1
  have HB1 : Hid (Below w.heap.size w w1) := hb1
  have HE1 : Hid (HE w1) := HEn.out.below hb1
  clear hr1 hb1
  go_wp2
  go_loopw [12] (fun i wr => ∃ k : Nat, k ≤ L.length ∧ i = .int .i64 k ∧ Hid (∀ j, j < k → dec1 (L.getD j []) = true) ∧ Hid (Below w1.heap.size w1 wr)) (fun i _ => L.length - (intOf i).toNat)
  case atStart => exact ⟨0, Nat.zero_le _, rfl, (fun j hj => by omega : ∀ j, j < 0 → _), Below.refl _ _⟩
  case round =>
    obtain ⟨k, hk, rfl, hall, hbl⟩ := hrel
    by_cases hlt : k < L.length
    · obtain ⟨g, o, rfl, hgc, p0⟩ := rdS_get (HR.out.below hbl.out) hlt
      have hz := HEa.out _ (getD_mem L k [] hlt)
      have NX : dec1 (L.getD k []) = true → Hid (∀ j, j < k + 1 → dec1 (L.getD j []) = true) := fun h j hj => by
        by_cases hjk : j = k
        · subst hjk; exact h
        · exact hall.out j (by omega)
      have BD : dec1 (L.getD k []) = false → Hid ((L.all dec1 && decide (L.length = 4)) = false) := fun h => (by
        have : L.all dec1 = false := by
          rw [List.all_eq_false]
          exact ⟨_, getD_mem L k [] hlt, by rw [h]; simp⟩
        rw [this]; rfl : _ = _)
      have HD1 : Hid (∀ w, Calls Tryz.prog 93 #[.string (str (L.getD k [])), .int .i64 255] w fun e w' => e = .returned (.tuple #[.int .i64 (numR 10 (L.getD k []) 255).1, .int .i64 (numR 10 (L.getD k []) 255).2]) ∧ Below w.heap.size w w') := fun w => by
        have := Decimal_any (str (L.getD k [])) (by rw [str_size]; unfold maxLen; omega) 255 (by decide) (by decide) w
        rw [str_list] at this
        exact this
      have hnb := numR_bd10 (L.getD k [])
      have HDg : Hid (∀ w, Pow w → Calls Tryz.prog 81 #[.int .i64 (numR 10 (L.getD k []) 255).1] w fun e w' => e = .returned (.string (str (Lib.itoa (numR 10 (L.getD k []) 255).1))) ∧ Below w.heap.size w w') := fun w hp => Digits_any _ (by omega) (by omega) w hp
      have HDe : Hid (dec1 (L.getD k []) = (decide ((numR 10 (L.getD k []) 255).2 = 0) && decide (str (L.getD k []) = str (Lib.itoa (numR 10 (L.getD k []) 255).1)))) := (by
        unfold dec1
        congr 1
        rw [decide_eq_decide]
        exact ⟨fun h => congrArg str h, fun h => str_inj h⟩ : _ = _)
      rw [HDe.out] at NX BD
      clear HDe hnb
      generalize str (Lib.itoa (numR 10 (L.getD k []) 255).1) = D at *
      generalize (numR 10 (L.getD k []) 255).1 = X at *
      generalize (numR 10 (L.getD k []) 255).2 = E at *
      generalize str (L.getD k []) = S at *
      go_wp2_with fail
      refine (HD1.out _).mono ?_
      rintro e w2 ⟨rfl, hb2⟩
      have HB2 : Hid (Below w1.heap.size w1 w2) := bel_trans hbl.out hb2
      have HP2 : Hid (Pow w2) := (HE1.out.below HB2.out).2
      clear hb2
      by_cases hE : E = 0
      · subst hE
        by_cases hSD : S = D
        · have nx := NX (by simp [hSD])
          have hq : (S.toList == D.toList) = true := by rw [eq_toList]; simp [hSD]
          clear NX BD hSD
          go_wp2_with fail
          refine (HDg.out _ HP2.out).mono ?_
          rintro e w3 ⟨rfl, hb3⟩
          have HB3 : Hid (Below w1.heap.size w1 w3) := bel_trans HB2.out hb3
          clear hb3
          go_wp2
          go_roundw
          case rel => exact ⟨k + 1, by omega, by go_num, nx, HB3⟩
          case measure => simp [intOf]; omega
        · have bd := BD (by simp [hSD])
          have hq : (S.toList == D.toList) = false := by rw [eq_toList]; simp [hSD]
          clear NX BD hSD
          go_wp2_with fail
          refine (HDg.out _ HP2.out).mono ?_
          rintro e w3 ⟨rfl, hb3⟩
          have HB3 : Hid (Below w1.heap.size w1 w3) := bel_trans HB2.out hb3
          clear hb3
          go_wp2
          go_ret
          exact ⟨by rw [bd.out]; rfl, bel_trans HB1.out HB3.out⟩
      · have bd := BD (by simp [hE])
        have hq : (E != 0) = true := by simp [hE]
        clear NX BD
        go_wp2
        go_ret
        exact ⟨by rw [bd.out]; rfl, bel_trans HB1.out HB2.out⟩
    · have HAl : Hid (L.all dec1 = true) := (by
        rw [List.all_eq_true]
        intro x hx
        obtain ⟨j, hj, rfl⟩ := List.mem_iff_getElem.1 hx
        have := hall.out j (by omega)
        rw [List.getD_eq_getElem?_getD, List.getElem?_eq_getElem hj] at this
        exact this : _ = _)
      by_cases h4 : L.length = 4
      · have h4' : (((L.length : Nat) : Int) == 4) = true := by simp [h4]
        go_wp2
        go_ret
        exact ⟨by rw [HAl.out]; simp [h4], bel_trans HB1.out hbl.out⟩
      · have h4' : (((L.length : Nat) : Int) == 4) = false := by simp; omega
        go_wp2
        go_ret
        exact ⟨by rw [HAl.out]; simp [h4], bel_trans HB1.out hbl.out⟩

end Tg
end Go.Proofs.YtpnijigjlhfklaaGreatDoor
