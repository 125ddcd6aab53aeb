/- Several texts as one. -/
import Derived.Test.YticncpjpkgdnlaaGreatDoorMgB
import Derived.Test.YticncpjpkgdnlaaGreatDoorMgA
import Derived.RangeFuncNested
import Derived.RangeFuncBound
import Derived.RangeFuncCalls
import Derived.RangeFuncLeaves
import Derived.Shelf.Abstract
import Derived.Shelf.RegionOpen
import Derived.WalkKit
import Derived.OwnWalkIn
import Derived.TacticsInMore
import Derived.LoopNIn
import Derived.LoopIn
/-
  Plain mathematics for package target: signs of texts put together, triples written and read back.
-/
set_option linter.unusedVariables false
set_option linter.unusedSimpArgs false
namespace Go.Proofs.YticncpjpkgdnlaaGreatDoor
namespace Tg

theorem sg_z (p q : Nat) (l : List UInt8) : (sg p l).map Sg.z = (sg q l).map Sg.z := by
  match l with
  | [] => rw [sg_nil, sg_nil]
  | c :: t =>
    by_cases h : trip (c :: t) = true
    · rw [sg_trip p _ h, sg_trip q _ h]
      simp only [List.map_cons]
      rw [sg_z (p + 3) (q + 3) ((c :: t).drop 3)]
    · rw [sg_one p c t (by simpa using h), sg_one q c t (by simpa using h)]
      simp only [List.map_cons]
      rw [sg_z (p + 1) (q + 1) t]
termination_by l.length
decreasing_by
  · simp; omega
  · simp
/-- The signs of a text, without their places. -/
def zs (l : List UInt8) : List (List UInt8) := (sg 0 l).map Sg.z
theorem zs_nil : zs [] = [] := by unfold zs; rw [sg_nil]; rfl
theorem zs_trip (l : List UInt8) (h : trip l = true) : zs l = l.take 3 :: zs (l.drop 3) := by
  unfold zs; rw [sg_trip 0 l h, List.map_cons, sg_z _ 0]
theorem zs_one (c : UInt8) (t : List UInt8) (h : trip (c :: t) = false) : zs (c :: t) = [c] :: zs t := by
  unfold zs; rw [sg_one 0 c t h, List.map_cons, sg_z _ 0]
theorem trip_ne {c : UInt8} (h : c ≠ 37) (t : List UInt8) : trip (c :: t) = false := by
  cases hh : trip (c :: t) with
  | false => rfl
  | true => exact absurd (trip_head hh) h
theorem zs_flat (l : List UInt8) : (zs l).flatten = l := by
  match l with
  | [] => rw [zs_nil]; rfl
  | c :: t =>
    by_cases h : trip (c :: t) = true
    · rw [zs_trip _ h, List.flatten_cons, zs_flat ((c :: t).drop 3), List.take_append_drop]
    · rw [zs_one c t (by simpa using h), List.flatten_cons, zs_flat t]; rfl
termination_by l.length
decreasing_by
  · simp; omega
  · simp
def valZ (z : List UInt8) : List UInt8 := match z with | [_, a, b] => [byteOf a b] | z => z
theorem valS_z (x : Sg) : valS x = valZ x.z := rfl
def goodZ (ok : UInt8 → Bool) (z : List UInt8) : Bool := z.length == 3 || ok (z.headD 0)
/-- A text in which each % begins a triple. -/
def whole (l : List UInt8) : Bool := (zs l).all fun z => z != [37]
def allOk (ok : UInt8 → Bool) (l : List UInt8) : Bool := (zs l).all (goodZ ok)
theorem zs_append (a b : List UInt8) (h : whole a = true) : zs (a ++ b) = zs a ++ zs b := by
  match a with
  | [] => rw [zs_nil]; rfl
  | c :: t =>
    by_cases ht : trip (c :: t) = true
    · have h3 := trip_len ht
      have e : trip (c :: t ++ b) = true := by
        rw [← trip_take, List.take_append_of_le_length h3, trip_take]; exact ht
      have hw : whole ((c :: t).drop 3) = true := by
        unfold whole at h ⊢
        rw [zs_trip _ ht, List.all_cons, Bool.and_eq_true] at h
        exact h.2
      rw [zs_trip _ e, zs_trip _ ht, List.take_append_of_le_length h3, List.drop_append_of_le_length h3, zs_append _ b hw]
      rfl
    · have ht' : trip (c :: t) = false := by simpa using ht
      have hw : whole t = true ∧ c ≠ 37 := by
        unfold whole at h ⊢
        rw [zs_one _ _ ht', List.all_cons, Bool.and_eq_true] at h
        exact ⟨h.2, by simpa using h.1⟩
      rw [List.cons_append, zs_one c _ (trip_ne hw.2 _), zs_one c t ht', zs_append t b hw.1]
      rfl
termination_by a.length
decreasing_by
  · simp; omega
  · simp
theorem whole_append (a b : List UInt8) (h : whole a = true) : whole (a ++ b) = whole b := by
  unfold whole at h ⊢; rw [zs_append a b h, List.all_append, h, Bool.true_and]
theorem allOk_append (ok : UInt8 → Bool) (a b : List UInt8) (h : whole a = true) : allOk ok (a ++ b) = (allOk ok a && allOk ok b) := by
  unfold allOk; rw [zs_append a b h, List.all_append]
theorem whole_of (ok : UInt8 → Bool) (h37 : ok 37 = false) (l : List UInt8) (h : allOk ok l = true) : whole l = true := by
  unfold allOk at h; unfold whole
  rw [List.all_eq_true] at h ⊢
  intro z hz
  have := h z hz
  by_cases e : z = [37]
  · subst e; simp [goodZ, h37] at this
  · simpa using e

/-- The results, by the signs alone. -/
theorem chk_ok (ok : UInt8 → Bool) (other : Int) (l : List UInt8) (h : allOk ok l = true) : chk ok other l = (0, 0) := by
  unfold chk
  have : (sg 0 l).find? (wrong ok) = none := by
    rw [List.find?_eq_none]
    intro x hx
    unfold allOk zs at h
    rw [List.all_map, List.all_eq_true] at h
    have := h x hx
    simp [goodZ] at this
    simp [wrong]
    intro h3
    rcases this with h | h
    · exact absurd h h3
    · exact h
  rw [this]
theorem chk_bad (ok : UInt8 → Bool) (other : Int) (ho : other ≠ 0) (l : List UInt8) (h : allOk ok l = false) : (chk ok other l).2 ≠ 0 := by
  unfold chk
  split
  · dsimp only; split <;> first | decide | exact ho
  · rename_i e
    rw [List.find?_eq_none] at e
    exfalso
    rw [Bool.eq_false_iff] at h
    apply h
    unfold allOk zs
    rw [List.all_map, List.all_eq_true]
    intro x hx
    have := e x hx
    simp [wrong] at this
    simp [goodZ]
    by_cases h3 : x.z.length = 3
    · exact .inl h3
    · exact .inr (this h3)
theorem decR_whole (l : List UInt8) (h : whole l = true) : decR l = ((zs l).flatMap valZ, 0, 0) := by
  unfold decR
  have : (sg 0 l).find? bad = none := by
    rw [List.find?_eq_none]
    intro x hx
    unfold whole zs at h
    rw [List.all_map, List.all_eq_true] at h
    have := h x hx
    simpa [bad] using this
  rw [this]
  unfold zs
  rw [List.flatMap_map]
  rfl
theorem decR_not (l : List UInt8) (h : whole l = false) : (decR l).1 = [] ∧ (decR l).2.2 = 51 := by
  unfold decR
  split
  · exact ⟨rfl, rfl⟩
  · rename_i e
    rw [List.find?_eq_none] at e
    exfalso
    rw [Bool.eq_false_iff] at h
    apply h
    unfold whole zs
    rw [List.all_map, List.all_eq_true]
    intro x hx
    simpa [bad] using e x hx

theorem hd_facts : ∀ n : Nat, n < 256 → (hx (hd (n / 16)) && hx (hd (n % 16))) = true ∧ byteOf (hd (n / 16)) (hd (n % 16)) = UInt8.ofNat n := by decide +kernel
theorem unr37 : unr 37 = false := by decide +kernel
theorem hd_trip (c : UInt8) (t : List UInt8) : trip (37 :: hd (c.toNat / 16) :: hd (c.toNat % 16) :: t) = true := by
  have := (hd_facts c.toNat c.toNat_lt).1
  simp [trip]
  simpa using this
theorem hd_byte (c : UInt8) : byteOf (hd (c.toNat / 16)) (hd (c.toNat % 16)) = c := by
  rw [(hd_facts c.toNat c.toNat_lt).2]; simp
theorem zs_encB (c : UInt8) : zs (encB c) = [encB c] := by
  unfold encB
  split
  · rename_i h
    rw [zs_one c [] rfl, zs_nil]
  · rw [zs_trip _ (hd_trip c [])]; simp [zs_nil]
theorem encB_val (c : UInt8) : valZ (encB c) = [c] := by
  unfold encB
  split
  · rfl
  · simp only [valZ, hd_byte]
theorem encB_whole (c : UInt8) : whole (encB c) = true := by
  unfold whole
  rw [zs_encB]
  unfold encB
  split
  · rename_i h
    simp
    intro e
    rw [e, unr37] at h
    cases h
  · simp
theorem zs_enc (l : List UInt8) : zs (enc l) = l.map encB := by
  induction l with
  | nil => exact zs_nil
  | cons c t ih =>
    show zs (encB c ++ enc t) = _
    rw [zs_append _ _ (encB_whole c), ih, zs_encB]
    rfl
theorem enc_whole (l : List UInt8) : whole (enc l) = true := by
  unfold whole
  rw [zs_enc, List.all_map, List.all_eq_true]
  intro c _
  have := encB_whole c
  unfold whole at this
  rw [zs_encB] at this
  simpa using this
theorem dec_enc (l : List UInt8) : decR (enc l) = (l, 0, 0) := by
  rw [decR_whole _ (enc_whole l), zs_enc, List.flatMap_map]
  congr 1
  induction l with
  | nil => rfl
  | cons c t ih => rw [List.flatMap_cons, ih, encB_val]; rfl
theorem enc_append (a b : List UInt8) : enc (a ++ b) = enc a ++ enc b := by unfold enc; rw [List.flatMap_append]
theorem hd_unr : ∀ n : Nat, n < 16 → unr (hd n) = true := by decide +kernel
theorem enc_mem (l : List UInt8) (c : UInt8) (h : c ∈ enc l) : c = 37 ∨ unr c = true := by
  unfold enc at h
  rw [List.mem_flatMap] at h
  obtain ⟨a, _, ha⟩ := h
  unfold encB at ha
  split at ha
  · simp at ha; subst ha; right; assumption
  · have h1 := hd_unr (a.toNat / 16) (by have := a.toNat_lt; omega)
    have h2 := hd_unr (a.toNat % 16) (by omega)
    simp at ha
    rcases ha with rfl | rfl | rfl
    · exact .inl rfl
    · exact .inr h1
    · exact .inr h2
theorem enc_len (l : List UInt8) : (enc l).length ≤ 3 * l.length := by
  induction l with
  | nil => exact Nat.le_refl _
  | cons c t ih =>
    show (encB c ++ enc t).length ≤ _
    rw [List.length_append, List.length_cons]
    have : (encB c).length ≤ 3 := by unfold encB; split <;> simp
    omega
theorem enc_ok (ok : UInt8 → Bool) (h : ∀ c, unr c = true → ok c = true) (l : List UInt8) : allOk ok (enc l) = true := by
  unfold allOk
  rw [zs_enc, List.all_map, List.all_eq_true]
  intro c _
  unfold Function.comp goodZ encB
  split
  · rename_i hu; simp [h c hu]
  · simp
theorem val_len (z : List UInt8) (h : 1 ≤ z.length) : (valZ z).length ≤ z.length := by
  unfold valZ
  split
  · simp
  · exact Nat.le_refl _
theorem nt_len (x : Sg) : (nt x).length ≤ 3 := by
  unfold nt
  split
  · have : (valS x).length ≤ 1 := by
      rw [valS_z]
      rcases x.ok with ⟨h, _⟩ | ⟨h, _⟩
      · match x.z, h with
        | [a, b, c], _ => simp [valZ]
      · omega
    exact Nat.le_trans (enc_len _) (by omega)
  · rcases x.ok with ⟨h, _⟩ | ⟨h, _⟩ <;> omega
theorem valS_len (x : Sg) : (valS x).length = 1 := by
  rw [valS_z]
  rcases x.ok with ⟨h, _⟩ | ⟨h, _⟩
  · match x.z, h with
    | [a, b, c], _ => simp [valZ]
  · match x.z, h with
    | [a], _ => simp [valZ]

end Tg
end Go.Proofs.YticncpjpkgdnlaaGreatDoor

/-
  target: isTriple, tripleByte, classOf, signs.
-/
set_option linter.unusedVariables false
set_option linter.unusedSimpArgs false
namespace Go.Proofs.YticncpjpkgdnlaaGreatDoor
open Go.RowKit
namespace Tg
open Oc

theorem hx_val (c : UInt8) : hx c = decide (valI (c.toNat : Int) < 16) := hexI_val
theorem vl_int (c : UInt8) : ((vl c : Nat) : Int) = valI (c.toNat : Int) := by
  unfold vl
  have := valI_bd (show (0 : Int) ≤ (c.toNat : Int) by omega)
  omega
theorem num_two (a b : UInt8) : numR 16 [a, b] 255 = if hx a && hx b then (((byteOf a b).toNat : Int), 0) else (0, 11) := by
  unfold numR
  rw [hx_val, hx_val]
  have ha := valI_bd (show (0 : Int) ≤ (a.toNat : Int) by omega)
  have hb := valI_bd (show (0 : Int) ≤ (b.toNat : Int) by omega)
  by_cases h1 : valI (a.toNat : Int) < 16
  · by_cases h2 : valI (b.toNat : Int) < 16
    · have e : ((byteOf a b).toNat : Int) = valI (a.toNat : Int) * 16 + valI (b.toNat : Int) := by
        unfold byteOf
        have v1 := vl_int a
        have v2 := vl_int b
        rw [show (UInt8.ofNat (vl a * 16 + vl b)).toNat = (vl a * 16 + vl b) % 256 from rfl, Nat.mod_eq_of_lt (by omega)]
        omega
      have n : numOf 16 [a, b] = valI (a.toNat : Int) * 16 + valI (b.toNat : Int) := by simp [numOf]
      have c1 : ([a, b].isEmpty || [a, b].any fun c => decide (16 ≤ valI (c.toNat : Int))) = false := by
        simp; omega
      rw [c1, if_neg (by simp), n, if_neg (by omega), if_pos (by simp [h1, h2]), e]
    · have c1 : ([a, b].isEmpty || [a, b].any fun c => decide (16 ≤ valI (c.toNat : Int))) = true := by
        simp; omega
      rw [c1, if_pos rfl, if_neg (by simp [h2])]
  · have c1 : ([a, b].isEmpty || [a, b].any fun c => decide (16 ≤ valI (c.toNat : Int))) = true := by
      simp; omega
    rw [c1, if_pos rfl, if_neg (by simp [h1])]

theorem list3 {s : ByteArray} (h : s.size = 3) : ∃ a b c, s = ⟨#[a, b, c]⟩ := by
  have hl : s.data.toList.length = 3 := (size_list s).trans h
  match hh : s.data.toList, hl with
  | [a, b, c], _ => exact ⟨a, b, c, eq_list (by rw [hh])⟩
theorem list1 {s : ByteArray} (h : s.size = 1) : ∃ a, s = ⟨#[a]⟩ := by
  have hl : s.data.toList.length = 1 := (size_list s).trans h
  match hh : s.data.toList, hl with
  | [a], _ => exact ⟨a, eq_list (by rw [hh])⟩
theorem ext3 (a b c : UInt8) : (⟨#[a, b, c]⟩ : ByteArray).extract 1 3 = ⟨#[b, c]⟩ := rfl

set_option maxRecDepth 100000 in
set_option maxHeartbeats 1000000 in
theorem isTriple_any (s : ByteArray) (w : World) :
    Calls Tryz.prog 81 #[.string s] w fun e w' => e = .returned (.bool (decide (s.size = 3) && trip s.data.toList)) ∧ Below w.heap.size w w' := by
  by_cases h : s.size = 3
  · obtain ⟨a, b, c, rfl⟩ := list3 h
    by_cases ha : a = 37
    · subst ha
      have hn : numR 16 (⟨#[b, c]⟩ : ByteArray).data.toList 255 = _ := num_two b c
      have HC : Hid (∀ w, Calls Tryz.prog 129 #[.string ((⟨#[37, b, c]⟩ : ByteArray).extract 1 3), .int .i64 255] w fun e w' => e = .returned (.tuple #[.int .i64 (if hx b && hx c then (((byteOf b c).toNat : Int), (0 : Int)) else (0, 11)).1, .int .i64 (if hx b && hx c then (((byteOf b c).toNat : Int), (0 : Int)) else (0, 11)).2]) ∧ Below w.heap.size w w') := fun w => by
        have := Hex_any ⟨#[b, c]⟩ (by show 2 ≤ maxLen; unfold maxLen; decide) 255 (by omega) (by omega) w
        rw [hn] at this
        exact this
      have ht : trip (⟨#[37, b, c]⟩ : ByteArray).data.toList = (hx b && hx c) := rfl
      rw [ht]
      clear hn ht
      cases hh : hx b && hx c with
      | true =>
        rw [hh] at HC
        go_enter Tryz.func81, Tryz.ntmps81
        go_wp2_with (refine (HC.out _).mono ?_; rintro e w1 ⟨rfl, hb⟩)
        go_ret
        exact ⟨rfl, hb⟩
      | false =>
        rw [hh] at HC
        go_enter Tryz.func81, Tryz.ntmps81
        go_wp2_with (refine (HC.out _).mono ?_; rintro e w1 ⟨rfl, hb⟩)
        go_ret
        exact ⟨rfl, hb⟩
    · have h1 : ((⟨#[a, b, c]⟩ : ByteArray)[0].toNat : Int) = (a.toNat : Int) := rfl
      have h2 : ((a.toNat : Int) != 37) = true := by
        simp
        intro e
        exact ha (UInt8.toNat_inj.1 (by show a.toNat = 37; omega))
      have h3 : trip (⟨#[a, b, c]⟩ : ByteArray).data.toList = false := trip_ne ha _
      rw [h3, Bool.and_false]
      clear h3
      go_enter Tryz.func81, Tryz.ntmps81
      go_wp2
      go_ret
      exact ⟨rfl, Below.refl _ _⟩
  · have h' : (((s.size : Nat) : Int) != 3) = true := by simp; omega
    have hd : decide (s.size = 3) = false := by simp [h]
    rw [hd, Bool.false_and]
    clear hd
    go_enter Tryz.func81, Tryz.ntmps81
    go_wp2
    go_ret
    exact ⟨rfl, Below.refl _ _⟩

set_option maxRecDepth 100000 in
set_option maxHeartbeats 1000000 in
theorem tripleByte_any (a b c : UInt8) (ht : (hx b && hx c) = true) (w : World) :
    Calls Tryz.prog 83 #[.string ⟨#[a, b, c]⟩] w fun e w' => e = .returned (.int .u8 ((byteOf b c).toNat : Int)) ∧ Below w.heap.size w w' := by
  have hn : numR 16 (⟨#[b, c]⟩ : ByteArray).data.toList 255 = _ := num_two b c
  have HC : Hid (∀ w, Calls Tryz.prog 129 #[.string ((⟨#[a, b, c]⟩ : ByteArray).extract 1 3), .int .i64 255] w fun e w' => e = .returned (.tuple #[.int .i64 ((byteOf b c).toNat : Int), .int .i64 0]) ∧ Below w.heap.size w w') := fun w => by
    have := Hex_any ⟨#[b, c]⟩ (by show 2 ≤ maxLen; unfold maxLen; decide) 255 (by omega) (by omega) w
    rw [hn, if_pos ht] at this
    exact this
  have h1 : (byteOf b c).toNat < 256 := (byteOf b c).toNat_lt
  clear hn ht
  generalize (byteOf b c).toNat = n at *
  have h2 : (n : Int) % 256 = n := by omega
  go_enter Tryz.func83, Tryz.ntmps83
  go_wp2_with (refine (HC.out _).mono ?_; rintro e w1 ⟨rfl, hb⟩)
  go_ret
  exact ⟨ret_int (by simp), hb⟩

/-- Classes, by the byte's number. -/
def clsN (n : Nat) : Int := if n = 45 then 1 else if n = 46 then 1 else if n = 95 then 1 else if n = 126 then 1 else if n = 33 then 2 else if n = 36 then 2 else if n = 38 then 2 else if n = 39 then 2 else if n = 40 then 2 else if n = 41 then 2 else if n = 42 then 2 else if n = 43 then 2 else if n = 44 then 2 else if n = 59 then 2 else if n = 61 then 2 else if n = 58 then 4 else if n = 64 then 4 else if n = 47 then 8 else if n = 63 then 16 else if 97 ≤ n ∧ n ≤ 122 ∨ 65 ≤ n ∧ n ≤ 90 ∨ 48 ≤ n ∧ n ≤ 57 then 1 else 0
theorem cls_clsN : ∀ n : Nat, n < 256 → cls (UInt8.ofNat n) = clsN n := by decide +kernel
theorem cls_N (c : UInt8) : cls c = clsN c.toNat := by rw [← cls_clsN c.toNat c.toNat_lt]; simp

set_option maxRecDepth 100000 in
set_option maxHeartbeats 1000000 in
theorem class_45 (w : World) : Calls Tryz.prog 84 #[.int .u8 45] w fun e w' => e = .returned (.int .u8 1) ∧ w' = w := by
  go_enter Tryz.func84, Tryz.ntmps84
  go_wp2
  go_ret
  exact ⟨rfl, rfl⟩

set_option maxRecDepth 100000 in
set_option maxHeartbeats 1000000 in
theorem class_46 (w : World) : Calls Tryz.prog 84 #[.int .u8 46] w fun e w' => e = .returned (.int .u8 1) ∧ w' = w := by
  go_enter Tryz.func84, Tryz.ntmps84
  go_wp2
  go_ret
  exact ⟨rfl, rfl⟩

set_option maxRecDepth 100000 in
set_option maxHeartbeats 1000000 in
theorem class_95 (w : World) : Calls Tryz.prog 84 #[.int .u8 95] w fun e w' => e = .returned (.int .u8 1) ∧ w' = w := by
  go_enter Tryz.func84, Tryz.ntmps84
  go_wp2
  go_ret
  exact ⟨rfl, rfl⟩

set_option maxRecDepth 100000 in
set_option maxHeartbeats 1000000 in
theorem class_126 (w : World) : Calls Tryz.prog 84 #[.int .u8 126] w fun e w' => e = .returned (.int .u8 1) ∧ w' = w := by
  go_enter Tryz.func84, Tryz.ntmps84
  go_wp2
  go_ret
  exact ⟨rfl, rfl⟩

set_option maxRecDepth 100000 in
set_option maxHeartbeats 1000000 in
theorem class_33 (w : World) : Calls Tryz.prog 84 #[.int .u8 33] w fun e w' => e = .returned (.int .u8 2) ∧ w' = w := by
  go_enter Tryz.func84, Tryz.ntmps84
  go_wp2
  go_ret
  exact ⟨rfl, rfl⟩

set_option maxRecDepth 100000 in
set_option maxHeartbeats 1000000 in
theorem class_36 (w : World) : Calls Tryz.prog 84 #[.int .u8 36] w fun e w' => e = .returned (.int .u8 2) ∧ w' = w := by
  go_enter Tryz.func84, Tryz.ntmps84
  go_wp2
  go_ret
  exact ⟨rfl, rfl⟩

set_option maxRecDepth 100000 in
set_option maxHeartbeats 1000000 in
theorem class_38 (w : World) : Calls Tryz.prog 84 #[.int .u8 38] w fun e w' => e = .returned (.int .u8 2) ∧ w' = w := by
  go_enter Tryz.func84, Tryz.ntmps84
  go_wp2
  go_ret
  exact ⟨rfl, rfl⟩

set_option maxRecDepth 100000 in
set_option maxHeartbeats 1000000 in
theorem class_39 (w : World) : Calls Tryz.prog 84 #[.int .u8 39] w fun e w' => e = .returned (.int .u8 2) ∧ w' = w := by
  go_enter Tryz.func84, Tryz.ntmps84
  go_wp2
  go_ret
  exact ⟨rfl, rfl⟩

set_option maxRecDepth 100000 in
set_option maxHeartbeats 1000000 in
theorem class_40 (w : World) : Calls Tryz.prog 84 #[.int .u8 40] w fun e w' => e = .returned (.int .u8 2) ∧ w' = w := by
  go_enter Tryz.func84, Tryz.ntmps84
  go_wp2
  go_ret
  exact ⟨rfl, rfl⟩

set_option maxRecDepth 100000 in
set_option maxHeartbeats 1000000 in
theorem class_41 (w : World) : Calls Tryz.prog 84 #[.int .u8 41] w fun e w' => e = .returned (.int .u8 2) ∧ w' = w := by
  go_enter Tryz.func84, Tryz.ntmps84
  go_wp2
  go_ret
  exact ⟨rfl, rfl⟩

set_option maxRecDepth 100000 in
set_option maxHeartbeats 1000000 in
theorem class_42 (w : World) : Calls Tryz.prog 84 #[.int .u8 42] w fun e w' => e = .returned (.int .u8 2) ∧ w' = w := by
  go_enter Tryz.func84, Tryz.ntmps84
  go_wp2
  go_ret
  exact ⟨rfl, rfl⟩

set_option maxRecDepth 100000 in
set_option maxHeartbeats 1000000 in
theorem class_43 (w : World) : Calls Tryz.prog 84 #[.int .u8 43] w fun e w' => e = .returned (.int .u8 2) ∧ w' = w := by
  go_enter Tryz.func84, Tryz.ntmps84
  go_wp2
  go_ret
  exact ⟨rfl, rfl⟩

set_option maxRecDepth 100000 in
set_option maxHeartbeats 1000000 in
theorem class_44 (w : World) : Calls Tryz.prog 84 #[.int .u8 44] w fun e w' => e = .returned (.int .u8 2) ∧ w' = w := by
  go_enter Tryz.func84, Tryz.ntmps84
  go_wp2
  go_ret
  exact ⟨rfl, rfl⟩

set_option maxRecDepth 100000 in
set_option maxHeartbeats 1000000 in
theorem class_59 (w : World) : Calls Tryz.prog 84 #[.int .u8 59] w fun e w' => e = .returned (.int .u8 2) ∧ w' = w := by
  go_enter Tryz.func84, Tryz.ntmps84
  go_wp2
  go_ret
  exact ⟨rfl, rfl⟩

set_option maxRecDepth 100000 in
set_option maxHeartbeats 1000000 in
theorem class_61 (w : World) : Calls Tryz.prog 84 #[.int .u8 61] w fun e w' => e = .returned (.int .u8 2) ∧ w' = w := by
  go_enter Tryz.func84, Tryz.ntmps84
  go_wp2
  go_ret
  exact ⟨rfl, rfl⟩

set_option maxRecDepth 100000 in
set_option maxHeartbeats 1000000 in
theorem class_58 (w : World) : Calls Tryz.prog 84 #[.int .u8 58] w fun e w' => e = .returned (.int .u8 4) ∧ w' = w := by
  go_enter Tryz.func84, Tryz.ntmps84
  go_wp2
  go_ret
  exact ⟨rfl, rfl⟩

set_option maxRecDepth 100000 in
set_option maxHeartbeats 1000000 in
theorem class_64 (w : World) : Calls Tryz.prog 84 #[.int .u8 64] w fun e w' => e = .returned (.int .u8 4) ∧ w' = w := by
  go_enter Tryz.func84, Tryz.ntmps84
  go_wp2
  go_ret
  exact ⟨rfl, rfl⟩

set_option maxRecDepth 100000 in
set_option maxHeartbeats 1000000 in
theorem class_47 (w : World) : Calls Tryz.prog 84 #[.int .u8 47] w fun e w' => e = .returned (.int .u8 8) ∧ w' = w := by
  go_enter Tryz.func84, Tryz.ntmps84
  go_wp2
  go_ret
  exact ⟨rfl, rfl⟩

set_option maxRecDepth 100000 in
set_option maxHeartbeats 1000000 in
theorem class_63 (w : World) : Calls Tryz.prog 84 #[.int .u8 63] w fun e w' => e = .returned (.int .u8 16) ∧ w' = w := by
  go_enter Tryz.func84, Tryz.ntmps84
  go_wp2
  go_ret
  exact ⟨rfl, rfl⟩

set_option maxRecDepth 100000 in
set_option maxHeartbeats 4000000 in
theorem class_other (n : Nat) (hn : n < 256) (h45 : n ≠ 45) (h46 : n ≠ 46) (h95 : n ≠ 95) (h126 : n ≠ 126) (h33 : n ≠ 33) (h36 : n ≠ 36) (h38 : n ≠ 38) (h39 : n ≠ 39) (h40 : n ≠ 40) (h41 : n ≠ 41) (h42 : n ≠ 42) (h43 : n ≠ 43) (h44 : n ≠ 44) (h59 : n ≠ 59) (h61 : n ≠ 61) (h58 : n ≠ 58) (h64 : n ≠ 64) (h47 : n ≠ 47) (h63 : n ≠ 63) (w : World) : Calls Tryz.prog 84 #[.int .u8 (n : Int)] w fun e w' => e = .returned (.int .u8 (if 97 ≤ n ∧ n ≤ 122 ∨ 65 ≤ n ∧ n ≤ 90 ∨ 48 ≤ n ∧ n ≤ 57 then 1 else 0)) ∧ w' = w := by
  have g45 : ((n : Int) == 45) = false := by simp; omega
  have g46 : ((n : Int) == 46) = false := by simp; omega
  have g95 : ((n : Int) == 95) = false := by simp; omega
  have g126 : ((n : Int) == 126) = false := by simp; omega
  have g33 : ((n : Int) == 33) = false := by simp; omega
  have g36 : ((n : Int) == 36) = false := by simp; omega
  have g38 : ((n : Int) == 38) = false := by simp; omega
  have g39 : ((n : Int) == 39) = false := by simp; omega
  have g40 : ((n : Int) == 40) = false := by simp; omega
  have g41 : ((n : Int) == 41) = false := by simp; omega
  have g42 : ((n : Int) == 42) = false := by simp; omega
  have g43 : ((n : Int) == 43) = false := by simp; omega
  have g44 : ((n : Int) == 44) = false := by simp; omega
  have g59 : ((n : Int) == 59) = false := by simp; omega
  have g61 : ((n : Int) == 61) = false := by simp; omega
  have g58 : ((n : Int) == 58) = false := by simp; omega
  have g64 : ((n : Int) == 64) = false := by simp; omega
  have g47 : ((n : Int) == 47) = false := by simp; omega
  have g63 : ((n : Int) == 63) = false := by simp; omega
  clear h45 h46 h95 h126 h33 h36 h38 h39 h40 h41 h42 h43 h44 h59 h61 h58 h64 h47 h63
  rcases (show n < 48 ∨ (48 ≤ n ∧ n ≤ 57) ∨ (57 < n ∧ n < 65) ∨ (65 ≤ n ∧ n ≤ 90) ∨ (90 < n ∧ n < 97) ∨ (97 ≤ n ∧ n ≤ 122) ∨ 122 < n by omega) with h | ⟨h, h'⟩ | ⟨h, h'⟩ | ⟨h, h'⟩ | ⟨h, h'⟩ | ⟨h, h'⟩ | h
  all_goals
    go_enter Tryz.func84, Tryz.ntmps84
    go_wp2
    go_ret
    exact ⟨ret_int (by first | rfl | rw [if_pos (by omega)] | rw [if_neg (by omega)]), rfl⟩

theorem classOf_any (c : UInt8) (w : World) : Calls Tryz.prog 84 #[.int .u8 (c.toNat : Int)] w fun e w' => e = .returned (.int .u8 (cls c)) ∧ w' = w := by
  rw [cls_N]
  have hn := c.toNat_lt
  generalize c.toNat = n at *
  by_cases h45 : n = 45
  · subst h45; exact class_45 w
  by_cases h46 : n = 46
  · subst h46; exact class_46 w
  by_cases h95 : n = 95
  · subst h95; exact class_95 w
  by_cases h126 : n = 126
  · subst h126; exact class_126 w
  by_cases h33 : n = 33
  · subst h33; exact class_33 w
  by_cases h36 : n = 36
  · subst h36; exact class_36 w
  by_cases h38 : n = 38
  · subst h38; exact class_38 w
  by_cases h39 : n = 39
  · subst h39; exact class_39 w
  by_cases h40 : n = 40
  · subst h40; exact class_40 w
  by_cases h41 : n = 41
  · subst h41; exact class_41 w
  by_cases h42 : n = 42
  · subst h42; exact class_42 w
  by_cases h43 : n = 43
  · subst h43; exact class_43 w
  by_cases h44 : n = 44
  · subst h44; exact class_44 w
  by_cases h59 : n = 59
  · subst h59; exact class_59 w
  by_cases h61 : n = 61
  · subst h61; exact class_61 w
  by_cases h58 : n = 58
  · subst h58; exact class_58 w
  by_cases h64 : n = 64
  · subst h64; exact class_64 w
  by_cases h47 : n = 47
  · subst h47; exact class_47 w
  by_cases h63 : n = 63
  · subst h63; exact class_63 w
  have e : clsN n = if 97 ≤ n ∧ n ≤ 122 ∨ 65 ≤ n ∧ n ≤ 90 ∨ 48 ≤ n ∧ n ≤ 57 then 1 else 0 := by
    unfold clsN
    rw [if_neg h45, if_neg h46, if_neg h95, if_neg h126, if_neg h33, if_neg h36, if_neg h38, if_neg h39, if_neg h40, if_neg h41, if_neg h42, if_neg h43, if_neg h44, if_neg h59, if_neg h61, if_neg h58, if_neg h64, if_neg h47, if_neg h63]
  rw [e]
  exact class_other n hn h45 h46 h95 h126 h33 h36 h38 h39 h40 h41 h42 h43 h44 h59 h61 h58 h64 h47 h63 w

end Tg
end Go.Proofs.YticncpjpkgdnlaaGreatDoor

/-
  target: the iterator over the signs of a text.
-/
set_option linter.unusedVariables false
set_option linter.unusedSimpArgs false
namespace Go.Proofs.YticncpjpkgdnlaaGreatDoor
open Go.RowKit Go.Shelf
attribute [local go_sem] Oper.semAt_some
namespace Tg
open Oc

/-- A block lies as it lay. -/
def Keep (b : Nat) (A B : World) : Prop := B.heap[b]? = A.heap[b]?
theorem Keep.refl (b : Nat) (A : World) : Keep b A A := rfl
theorem Keep.trans {b : Nat} {A B C : World} (h : Keep b A B) (k : Keep b B C) : Keep b A C := Eq.trans k h
theorem Keep.cell {b : Nat} {A B : World} (h : Keep b A B) (i : Nat) : B.cell? ⟨b, i, none⟩ = A.cell? ⟨b, i, none⟩ := World.cell?_of_block (w := A) (w' := B) (a := ⟨b, i, none⟩) h
theorem Keep.below {b n : Nat} {A B : World} (h : Below n A B) (hb : b < n) : Keep b A B := h.block b hb
theorem keepK_t {b : Nat} {A B C : World} (h : Keep b A B) (k : Keep b B C) : Keep b A C := h.trans k
theorem keepK_b {b : Nat} {w : World} (hb : b < w.heap.size) (W : World) (l : Nat) (o o' : Obj) (hl : w.heap.size ≤ l) (h : W.heap[l]? = some o) (hc : o.isCells = false) (hw : o.isWalk = false) : Keep b W (W.putObj l o') :=
  (belowK_b (w := w) (Nat.le_refl _) W l o o' hl h hc hw).block b hb

def encS (x : Sg) : Array Value := #[.int .i64 (x.at_ : Int), .string (str x.z)]

theorem grown_of_below {w w' : World} (h : Below w.heap.size w w') : w.grownBy w' none := ⟨h.os, h.tape, h.output, h.size, fun k hk _ => h.block k hk⟩

theorem ext_list (s : ByteArray) (a b : Nat) : (s.extract a b).data.toList = (s.data.toList.drop a).take (b - a) := by
  rw [ByteArray.data_extract, Array.toList_extract, List.extract_eq_take_drop]
theorem ext_rest (s : ByteArray) (k : Nat) : ((s.extract k s.size).extract 0 3).data.toList = (s.data.toList.drop k).take 3 := by
  rw [ext_list, ext_list, List.drop_zero, Nat.sub_zero, List.take_of_length_le (l := s.data.toList.drop k) (by rw [List.length_drop, size_list]; omega)]
theorem drop_cons (s : ByteArray) (k : Nat) (h : k < s.size) : s.data.toList.drop k = s.data.toList.getD k 0 :: s.data.toList.drop (k + 1) := by
  have hl : k < s.data.toList.length := by rw [size_list]; exact h
  rw [List.drop_eq_getElem_cons hl, List.getD_eq_getElem?_getD, List.getElem?_eq_getElem hl]; rfl
theorem cell_lt {w : World} {b i : Nat} {v : Value} (h : w.cell? ⟨b, i, none⟩ = some v) : b < w.heap.size := by
  rcases Nat.lt_or_ge b w.heap.size with h' | h'
  · exact h'
  · simp [World.cell?, Array.getElem?_eq_none h'] at h
/-- One sign more. -/
theorem sg_next3 (s : ByteArray) (k : Nat) (h : trip (s.data.toList.drop k) = true) : ∃ x : Sg, sg k (s.data.toList.drop k) = x :: sg (k + 3) (s.data.toList.drop (k + 3)) ∧ encS x = #[.int .i64 (k : Int), .string (s.extract k (k + 3))] := by
  refine ⟨_, by rw [sg_trip k _ h, List.drop_drop], ?_⟩
  unfold encS
  dsimp only
  rw [show str (List.take 3 (s.data.toList.drop k)) = s.extract k (k + 3) from eq_list (by rw [str_list, ext_list]; congr 1; omega)]
theorem sg_next1 (s : ByteArray) (k : Nat) (hk : k < s.size) (h : trip (s.data.toList.drop k) = false) : ∃ x : Sg, sg k (s.data.toList.drop k) = x :: sg (k + 1) (s.data.toList.drop (k + 1)) ∧ encS x = #[.int .i64 (k : Int), .string (s.extract k (k + 1))] := by
  rw [drop_cons s k hk] at h ⊢
  refine ⟨_, sg_one k _ _ h, ?_⟩
  unfold encS
  dsimp only
  rw [show str [s.data.toList.getD k 0] = s.extract k (k + 1) from eq_list (by rw [str_list, ext_list, drop_cons s k hk, Nat.add_sub_cancel_left]; rfl)]

set_option maxRecDepth 100000 in
set_option maxHeartbeats 2000000 in
theorem signs1_in (n : Nat) (l Bs : Nat) (s : ByteArray) (hs : s.size ≤ 140737488355328) (J Jx : List Sg → World → Prop)
    (hJb : ∀ pre W W', J pre W → Below W.heap.size W W' → J pre W')
    (hY : ∀ pre x W, J pre W → pre.length < s.size → YieldAt Fence.wide (n - 1) Tryz.prog l (encS x) W fun e W' =>
      (e = .returned (.bool true) ∧ J (pre ++ [x]) W' ∧ Keep Bs W W') ∨ (e = .returned (.bool false) ∧ Jx (pre ++ [x]) W'))
    (W : World) (hBs : W.cell? ⟨Bs, 0, none⟩ = some (.string s)) (hBl : Bs < W.heap.size) (h0 : J [] W) :
    CallsIn Fence.wide n Tryz.prog 128 #[.func (.yield l) #[] #[], .pointer (some ⟨Bs, 0, none⟩)] W fun e W' => (∃ v, e = .returned v) ∧
      ((∃ ys, ys = sg 0 s.data.toList ∧ J ys W') ∨ (∃ pre, (∃ rest, pre ++ rest = sg 0 s.data.toList) ∧ Jx pre W')) := by
  refine callsIn_of_wp Tryz.func128 rfl trivial ?_ rfl
  simp only [Tryz.ntmps128, List.size_toArray, List.length_cons, List.length_nil, Nat.reduceAdd, Nat.reduceSub, Array.replicate_succ, Array.replicate_zero, List.push_toArray, List.append_toArray, List.nil_append, List.cons_append]
  gi_wp2
  gi_loopw [3] (fun i wr => ∃ k : Nat, k ≤ s.size ∧ i = .int .i64 k ∧ ∃ pre, Hid (pre ++ sg k (s.data.toList.drop k) = sg 0 s.data.toList) ∧ Hid (pre.length ≤ k) ∧ J pre wr ∧ wr.cell? ⟨Bs, 0, none⟩ = some (.string s) ∧ Bs < wr.heap.size)
    (fun i _ => s.size - (intOf i).toNat)
  case atStart => exact ⟨0, Nat.zero_le _, rfl, [], (rfl : [] ++ sg 0 (s.data.toList.drop 0) = _), (Nat.le_refl 0 : _ ≤ 0), h0, hBs, hBl⟩
  case round =>
    obtain ⟨k, hk, rfl, pre, hpre, hpl, hJs, hc, hlb⟩ := hrel
    by_cases hlt : k < s.size
    · by_cases h3 : 3 ≤ s.size - k
      · have HT : Hid (∀ w, Calls Tryz.prog 81 #[.string ((s.extract k s.size).extract 0 3)] w fun e w' => e = .returned (.bool (trip (s.data.toList.drop k))) ∧ Below w.heap.size w w') := fun w => by
          have := isTriple_any ((s.extract k s.size).extract 0 3) w
          have e3 : ((s.extract k s.size).extract 0 3).size = 3 := by
            rw [← size_list, ext_rest, List.length_take, List.length_drop, size_list]; omega
          rw [ext_rest, trip_take, e3, decide_eq_true rfl, Bool.true_and] at this
          exact this
        cases ht : trip (s.data.toList.drop k) with
        | true =>
          obtain ⟨x, hx, he⟩ := sg_next3 s k ht
          rw [ht] at HT
          gi_wp2_with (refine ⟨trivial, (fun h => by cases h), ?_⟩; refine (callsIn_wide.2 (HT.out _)).mono ?_; rintro e w1 ⟨rfl, hb1⟩; have hc1 := (hb1.cell (p := ⟨Bs, 0, none⟩) hlb).trans hc; obtain ⟨fn, tmps, assign, body, hy, hR⟩ := hY _ x w1 (hJb _ _ _ hJs hb1) (Nat.lt_of_le_of_lt hpl.out hlt); rw [he] at hy)
          gi_wp2
          refine ⟨(fun h => by cases h), hR.mono ?_⟩
          rintro e W3 (⟨rfl, hJ3, hk3⟩ | ⟨rfl, hJx3⟩)
          · have hc3 : W3.cell? ⟨Bs, 0, none⟩ = some (.string s) := (hk3.cell _).trans hc1
            have hl3 : Bs < W3.heap.size := cell_lt hc3
            gi_wp2
            go_roundw
            case rel => exact ⟨k + 3, by omega, by simp, pre ++ [x], (by rw [List.append_assoc]; exact (congrArg (pre ++ ·) hx).symm.trans hpre.out : (pre ++ [x]) ++ sg (k + 3) (s.data.toList.drop (k + 3)) = _), (by have := hpl.out; rw [List.length_append, List.length_singleton]; omega : (pre ++ [x]).length ≤ k + 3), hJ3, hc3, hl3⟩
            case measure => simp [intOf]; omega
          · gi_wp2
            refine bodyPost_ret (results_none rfl _ _ _) rfl ?_
            exact ⟨⟨_, rfl⟩, .inr ⟨_, ⟨sg (k + 3) (s.data.toList.drop (k + 3)), by rw [List.append_assoc]; exact (congrArg (pre ++ ·) hx).symm.trans hpre.out⟩, hJx3⟩⟩
        | false =>
          obtain ⟨x, hx, he⟩ := sg_next1 s k hlt ht
          rw [ht] at HT
          gi_wp2_with (refine ⟨trivial, (fun h => by cases h), ?_⟩; refine (callsIn_wide.2 (HT.out _)).mono ?_; rintro e w1 ⟨rfl, hb1⟩; have hc1 := (hb1.cell (p := ⟨Bs, 0, none⟩) hlb).trans hc; obtain ⟨fn, tmps, assign, body, hy, hR⟩ := hY _ x w1 (hJb _ _ _ hJs hb1) (Nat.lt_of_le_of_lt hpl.out hlt); rw [he] at hy)
          gi_wp2
          refine ⟨(fun h => by cases h), hR.mono ?_⟩
          rintro e W3 (⟨rfl, hJ3, hk3⟩ | ⟨rfl, hJx3⟩)
          · have hc3 : W3.cell? ⟨Bs, 0, none⟩ = some (.string s) := (hk3.cell _).trans hc1
            have hl3 : Bs < W3.heap.size := cell_lt hc3
            gi_wp2
            go_roundw
            case rel => exact ⟨k + 1, by omega, by simp, pre ++ [x], (by rw [List.append_assoc]; exact (congrArg (pre ++ ·) hx).symm.trans hpre.out : (pre ++ [x]) ++ sg (k + 1) (s.data.toList.drop (k + 1)) = _), (by have := hpl.out; rw [List.length_append, List.length_singleton]; omega : (pre ++ [x]).length ≤ k + 1), hJ3, hc3, hl3⟩
            case measure => simp [intOf]; omega
          · gi_wp2
            refine bodyPost_ret (results_none rfl _ _ _) rfl ?_
            exact ⟨⟨_, rfl⟩, .inr ⟨_, ⟨sg (k + 1) (s.data.toList.drop (k + 1)), by rw [List.append_assoc]; exact (congrArg (pre ++ ·) hx).symm.trans hpre.out⟩, hJx3⟩⟩
      · have ht : trip (s.data.toList.drop k) = false := by
          cases hh : trip (s.data.toList.drop k) with
          | false => rfl
          | true => have := trip_len hh; rw [List.length_drop, size_list] at this; omega
        obtain ⟨x, hx, he⟩ := sg_next1 s k hlt ht
        obtain ⟨fn, tmps, assign, body, hy, hR⟩ := hY _ x wr hJs (Nat.lt_of_le_of_lt hpl.out hlt)
        rw [he] at hy
        gi_wp2
        refine ⟨trivial, ?_⟩
        gi_wp2
        refine ⟨(fun h => by cases h), hR.mono ?_⟩
        rintro e W3 (⟨rfl, hJ3, hk3⟩ | ⟨rfl, hJx3⟩)
        · have hc3 : W3.cell? ⟨Bs, 0, none⟩ = some (.string s) := (hk3.cell _).trans hc
          have hl3 : Bs < W3.heap.size := cell_lt hc3
          gi_wp2
          go_roundw
          case rel => exact ⟨k + 1, by omega, by simp, pre ++ [x], (by rw [List.append_assoc]; exact (congrArg (pre ++ ·) hx).symm.trans hpre.out : (pre ++ [x]) ++ sg (k + 1) (s.data.toList.drop (k + 1)) = _), (by have := hpl.out; rw [List.length_append, List.length_singleton]; omega : (pre ++ [x]).length ≤ k + 1), hJ3, hc3, hl3⟩
          case measure => simp [intOf]; omega
        · gi_wp2
          refine bodyPost_ret (results_none rfl _ _ _) rfl ?_
          exact ⟨⟨_, rfl⟩, .inr ⟨_, ⟨sg (k + 1) (s.data.toList.drop (k + 1)), by rw [List.append_assoc]; exact (congrArg (pre ++ ·) hx).symm.trans hpre.out⟩, hJx3⟩⟩
    · obtain rfl : k = s.size := by omega
      have hfin : pre = sg 0 s.data.toList := by
        have := hpre.out
        rw [List.drop_of_length_le (by rw [size_list]; exact Nat.le_refl _), sg_nil, List.append_nil] at this
        exact this
      gi_wp2
      go_end0
      exact ⟨⟨_, rfl⟩, .inl ⟨_, hfin, hJs⟩⟩

theorem signs_stops (n : Nat) (Bs : Nat) (s : ByteArray) (hs : s.size ≤ 140737488355328) (w : World) (hc : w.cell? ⟨Bs, 0, none⟩ = some (.string s)) :
    SeqStopsK Fence.wide n Tryz.prog 128 #[.pointer (some ⟨Bs, 0, none⟩)] encS (Keep Bs) (fun ys => ys = sg 0 s.data.toList)
      (fun pre => ∃ rest, pre ++ rest = sg 0 s.data.toList) s.size w := fun l J Jx W hW hJ _ hY h0 => by
  have hl := cell_lt hc
  have hc' := (hW.cell (p := ⟨Bs, 0, none⟩) hl).trans hc
  exact signs1_in n l Bs s hs J Jx (fun pre A B h hb => hJ _ _ _ _ h (grown_of_below hb) (fun r e => by cases e)) hY W hc' (cell_lt hc') h0

set_option maxRecDepth 100000 in
set_option maxHeartbeats 1000000 in
theorem signs_any (s : ByteArray) (w : World) : Calls Tryz.prog 80 #[.string s] w fun e w' => e = .returned (.func (.func 128) #[] #[.pointer (some ⟨w.heap.size, 0, none⟩)]) ∧ w' = w.alloc (.cells #[.string s] 9) := by
  go_enter Tryz.func80, Tryz.ntmps80
  go_wp2
  go_ret
  exact ⟨rfl, rfl⟩

end Tg
end Go.Proofs.YticncpjpkgdnlaaGreatDoor
