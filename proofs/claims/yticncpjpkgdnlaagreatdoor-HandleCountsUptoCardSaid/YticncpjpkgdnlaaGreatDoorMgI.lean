/- Several texts as one. -/
import Derived.Test.YticncpjpkgdnlaaGreatDoorMgB
import Derived.RangeFuncNested
import Derived.RangeFuncBound
import Derived.RangeFuncCalls
import Derived.RangeFuncLeaves
import Derived.Shelf.Abstract
import Derived.Shelf.RegionOpen
import Derived.WalkKit
import Derived.OwnWalkIn
import Derived.TacticsInMore
import Derived.LoopNIn
import Derived.LoopIn
import Derived.Test.YticncpjpkgdnlaaGreatDoorMgF
import Derived.Test.YticncpjpkgdnlaaGreatDoorMgC
/-
  Plain mathematics for package target: signs of texts put together, triples written and read back.
-/
set_option linter.unusedVariables false
set_option linter.unusedSimpArgs false
namespace Go.Proofs.YticncpjpkgdnlaaGreatDoor
namespace Tg

theorem sg_z (p q : Nat) (l : List UInt8) : (sg p l).map Sg.z = (sg q l).map Sg.z := by
  match l with
  | [] => rw [sg_nil, sg_nil]
  | c :: t =>
    by_cases h : trip (c :: t) = true
    · rw [sg_trip p _ h, sg_trip q _ h]
      simp only [List.map_cons]
      rw [sg_z (p + 3) (q + 3) ((c :: t).drop 3)]
    · rw [sg_one p c t (by simpa using h), sg_one q c t (by simpa using h)]
      simp only [List.map_cons]
      rw [sg_z (p + 1) (q + 1) t]
termination_by l.length
decreasing_by
  · simp; omega
  · simp
/-- The signs of a text, without their places. -/
def zs (l : List UInt8) : List (List UInt8) := (sg 0 l).map Sg.z
theorem zs_nil : zs [] = [] := by unfold zs; rw [sg_nil]; rfl
theorem zs_trip (l : List UInt8) (h : trip l = true) : zs l = l.take 3 :: zs (l.drop 3) := by
  unfold zs; rw [sg_trip 0 l h, List.map_cons, sg_z _ 0]
theorem zs_one (c : UInt8) (t : List UInt8) (h : trip (c :: t) = false) : zs (c :: t) = [c] :: zs t := by
  unfold zs; rw [sg_one 0 c t h, List.map_cons, sg_z _ 0]
theorem trip_ne {c : UInt8} (h : c ≠ 37) (t : List UInt8) : trip (c :: t) = false := by
  cases hh : trip (c :: t) with
  | false => rfl
  | true => exact absurd (trip_head hh) h
theorem zs_flat (l : List UInt8) : (zs l).flatten = l := by
  match l with
  | [] => rw [zs_nil]; rfl
  | c :: t =>
    by_cases h : trip (c :: t) = true
    · rw [zs_trip _ h, List.flatten_cons, zs_flat ((c :: t).drop 3), List.take_append_drop]
    · rw [zs_one c t (by simpa using h), List.flatten_cons, zs_flat t]; rfl
termination_by l.length
decreasing_by
  · simp; omega
  · simp
def valZ (z : List UInt8) : List UInt8 := match z with | [_, a, b] => [byteOf a b] | z => z
theorem valS_z (x : Sg) : valS x = valZ x.z := rfl
def goodZ (ok : UInt8 → Bool) (z : List UInt8) : Bool := z.length == 3 || ok (z.headD 0)
/-- A text in which each % begins a triple. -/
def whole (l : List UInt8) : Bool := (zs l).all fun z => z != [37]
def allOk (ok : UInt8 → Bool) (l : List UInt8) : Bool := (zs l).all (goodZ ok)
theorem zs_append (a b : List UInt8) (h : whole a = true) : zs (a ++ b) = zs a ++ zs b := by
  match a with
  | [] => rw [zs_nil]; rfl
  | c :: t =>
    by_cases ht : trip (c :: t) = true
    · have h3 := trip_len ht
      have e : trip (c :: t ++ b) = true := by
        rw [← trip_take, List.take_append_of_le_length h3, trip_take]; exact ht
      have hw : whole ((c :: t).drop 3) = true := by
        unfold whole at h ⊢
        rw [zs_trip _ ht, List.all_cons, Bool.and_eq_true] at h
        exact h.2
      rw [zs_trip _ e, zs_trip _ ht, List.take_append_of_le_length h3, List.drop_append_of_le_length h3, zs_append _ b hw]
      rfl
    · have ht' : trip (c :: t) = false := by simpa using ht
      have hw : whole t = true ∧ c ≠ 37 := by
        unfold whole at h ⊢
        rw [zs_one _ _ ht', List.all_cons, Bool.and_eq_true] at h
        exact ⟨h.2, by simpa using h.1⟩
      rw [List.cons_append, zs_one c _ (trip_ne hw.2 _), zs_one c t ht', zs_append t b hw.1]
      rfl
termination_by a.length
decreasing_by
  · simp; omega
  · simp
theorem whole_append (a b : List UInt8) (h : whole a = true) : whole (a ++ b) = whole b := by
  unfold whole at h ⊢; rw [zs_append a b h, List.all_append, h, Bool.true_and]
theorem allOk_append (ok : UInt8 → Bool) (a b : List UInt8) (h : whole a = true) : allOk ok (a ++ b) = (allOk ok a && allOk ok b) := by
  unfold allOk; rw [zs_append a b h, List.all_append]
theorem whole_of (ok : UInt8 → Bool) (h37 : ok 37 = false) (l : List UInt8) (h : allOk ok l = true) : whole l = true := by
  unfold allOk at h; unfold whole
  rw [List.all_eq_true] at h ⊢
  intro z hz
  have := h z hz
  by_cases e : z = [37]
  · subst e; simp [goodZ, h37] at this
  · simpa using e

/-- The results, by the signs alone. -/
theorem chk_ok (ok : UInt8 → Bool) (other : Int) (l : List UInt8) (h : allOk ok l = true) : chk ok other l = (0, 0) := by
  unfold chk
  have : (sg 0 l).find? (wrong ok) = none := by
    rw [List.find?_eq_none]
    intro x hx
    unfold allOk zs at h
    rw [List.all_map, List.all_eq_true] at h
    have := h x hx
    simp [goodZ] at this
    simp [wrong]
    intro h3
    rcases this with h | h
    · exact absurd h h3
    · exact h
  rw [this]
theorem chk_bad (ok : UInt8 → Bool) (other : Int) (ho : other ≠ 0) (l : List UInt8) (h : allOk ok l = false) : (chk ok other l).2 ≠ 0 := by
  unfold chk
  split
  · dsimp only; split <;> first | decide | exact ho
  · rename_i e
    rw [List.find?_eq_none] at e
    exfalso
    rw [Bool.eq_false_iff] at h
    apply h
    unfold allOk zs
    rw [List.all_map, List.all_eq_true]
    intro x hx
    have := e x hx
    simp [wrong] at this
    simp [goodZ]
    by_cases h3 : x.z.length = 3
    · exact .inl h3
    · exact .inr (this h3)
theorem decR_whole (l : List UInt8) (h : whole l = true) : decR l = ((zs l).flatMap valZ, 0, 0) := by
  unfold decR
  have : (sg 0 l).find? bad = none := by
    rw [List.find?_eq_none]
    intro x hx
    unfold whole zs at h
    rw [List.all_map, List.all_eq_true] at h
    have := h x hx
    simpa [bad] using this
  rw [this]
  unfold zs
  rw [List.flatMap_map]
  rfl
theorem decR_not (l : List UInt8) (h : whole l = false) : (decR l).1 = [] ∧ (decR l).2.2 = 51 := by
  unfold decR
  split
  · exact ⟨rfl, rfl⟩
  · rename_i e
    rw [List.find?_eq_none] at e
    exfalso
    rw [Bool.eq_false_iff] at h
    apply h
    unfold whole zs
    rw [List.all_map, List.all_eq_true]
    intro x hx
    simpa [bad] using e x hx

theorem hd_facts : ∀ n : Nat, n < 256 → (hx (hd (n / 16)) && hx (hd (n % 16))) = true ∧ byteOf (hd (n / 16)) (hd (n % 16)) = UInt8.ofNat n := by decide +kernel
theorem unr37 : unr 37 = false := by decide +kernel
theorem hd_trip (c : UInt8) (t : List UInt8) : trip (37 :: hd (c.toNat / 16) :: hd (c.toNat % 16) :: t) = true := by
  have := (hd_facts c.toNat c.toNat_lt).1
  simp [trip]
  simpa using this
theorem hd_byte (c : UInt8) : byteOf (hd (c.toNat / 16)) (hd (c.toNat % 16)) = c := by
  rw [(hd_facts c.toNat c.toNat_lt).2]; simp
theorem zs_encB (c : UInt8) : zs (encB c) = [encB c] := by
  unfold encB
  split
  · rename_i h
    rw [zs_one c [] rfl, zs_nil]
  · rw [zs_trip _ (hd_trip c [])]; simp [zs_nil]
theorem encB_val (c : UInt8) : valZ (encB c) = [c] := by
  unfold encB
  split
  · rfl
  · simp only [valZ, hd_byte]
theorem encB_whole (c : UInt8) : whole (encB c) = true := by
  unfold whole
  rw [zs_encB]
  unfold encB
  split
  · rename_i h
    simp
    intro e
    rw [e, unr37] at h
    cases h
  · simp
theorem zs_enc (l : List UInt8) : zs (enc l) = l.map encB := by
  induction l with
  | nil => exact zs_nil
  | cons c t ih =>
    show zs (encB c ++ enc t) = _
    rw [zs_append _ _ (encB_whole c), ih, zs_encB]
    rfl
theorem enc_whole (l : List UInt8) : whole (enc l) = true := by
  unfold whole
  rw [zs_enc, List.all_map, List.all_eq_true]
  intro c _
  have := encB_whole c
  unfold whole at this
  rw [zs_encB] at this
  simpa using this
theorem dec_enc (l : List UInt8) : decR (enc l) = (l, 0, 0) := by
  rw [decR_whole _ (enc_whole l), zs_enc, List.flatMap_map]
  congr 1
  induction l with
  | nil => rfl
  | cons c t ih => rw [List.flatMap_cons, ih, encB_val]; rfl
theorem enc_append (a b : List UInt8) : enc (a ++ b) = enc a ++ enc b := by unfold enc; rw [List.flatMap_append]
theorem hd_unr : ∀ n : Nat, n < 16 → unr (hd n) = true := by decide +kernel
theorem enc_mem (l : List UInt8) (c : UInt8) (h : c ∈ enc l) : c = 37 ∨ unr c = true := by
  unfold enc at h
  rw [List.mem_flatMap] at h
  obtain ⟨a, _, ha⟩ := h
  unfold encB at ha
  split at ha
  · simp at ha; subst ha; right; assumption
  · have h1 := hd_unr (a.toNat / 16) (by have := a.toNat_lt; omega)
    have h2 := hd_unr (a.toNat % 16) (by omega)
    simp at ha
    rcases ha with rfl | rfl | rfl
    · exact .inl rfl
    · exact .inr h1
    · exact .inr h2
theorem enc_len (l : List UInt8) : (enc l).length ≤ 3 * l.length := by
  induction l with
  | nil => exact Nat.le_refl _
  | cons c t ih =>
    show (encB c ++ enc t).length ≤ _
    rw [List.length_append, List.length_cons]
    have : (encB c).length ≤ 3 := by unfold encB; split <;> simp
    omega
theorem enc_ok (ok : UInt8 → Bool) (h : ∀ c, unr c = true → ok c = true) (l : List UInt8) : allOk ok (enc l) = true := by
  unfold allOk
  rw [zs_enc, List.all_map, List.all_eq_true]
  intro c _
  unfold Function.comp goodZ encB
  split
  · rename_i hu; simp [h c hu]
  · simp
theorem val_len (z : List UInt8) (h : 1 ≤ z.length) : (valZ z).length ≤ z.length := by
  unfold valZ
  split
  · simp
  · exact Nat.le_refl _
theorem nt_len (x : Sg) : (nt x).length ≤ 3 := by
  unfold nt
  split
  · have : (valS x).length ≤ 1 := by
      rw [valS_z]
      rcases x.ok with ⟨h, _⟩ | ⟨h, _⟩
      · match x.z, h with
        | [a, b, c], _ => simp [valZ]
      · omega
    exact Nat.le_trans (enc_len _) (by omega)
  · rcases x.ok with ⟨h, _⟩ | ⟨h, _⟩ <;> omega
theorem valS_len (x : Sg) : (valS x).length = 1 := by
  rw [valS_z]
  rcases x.ok with ⟨h, _⟩ | ⟨h, _⟩
  · match x.z, h with
    | [a, b, c], _ => simp [valZ]
  · match x.z, h with
    | [a], _ => simp [valZ]

end Tg
end Go.Proofs.YticncpjpkgdnlaaGreatDoor

/-
  target: isTriple, tripleByte, classOf, signs.
-/
set_option linter.unusedVariables false
set_option linter.unusedSimpArgs false
namespace Go.Proofs.YticncpjpkgdnlaaGreatDoor
open Go.RowKit
namespace Tg
open Oc

theorem hx_val (c : UInt8) : hx c = decide (valI (c.toNat : Int) < 16) := hexI_val
theorem vl_int (c : UInt8) : ((vl c : Nat) : Int) = valI (c.toNat : Int) := by
  unfold vl
  have := valI_bd (show (0 : Int) ≤ (c.toNat : Int) by omega)
  omega
theorem num_two (a b : UInt8) : numR 16 [a, b] 255 = if hx a && hx b then (((byteOf a b).toNat : Int), 0) else (0, 11) := by
  unfold numR
  rw [hx_val, hx_val]
  have ha := valI_bd (show (0 : Int) ≤ (a.toNat : Int) by omega)
  have hb := valI_bd (show (0 : Int) ≤ (b.toNat : Int) by omega)
  by_cases h1 : valI (a.toNat : Int) < 16
  · by_cases h2 : valI (b.toNat : Int) < 16
    · have e : ((byteOf a b).toNat : Int) = valI (a.toNat : Int) * 16 + valI (b.toNat : Int) := by
        unfold byteOf
        have v1 := vl_int a
        have v2 := vl_int b
        rw [show (UInt8.ofNat (vl a * 16 + vl b)).toNat = (vl a * 16 + vl b) % 256 from rfl, Nat.mod_eq_of_lt (by omega)]
        omega
      have n : numOf 16 [a, b] = valI (a.toNat : Int) * 16 + valI (b.toNat : Int) := by simp [numOf]
      have c1 : ([a, b].isEmpty || [a, b].any fun c => decide (16 ≤ valI (c.toNat : Int))) = false := by
        simp; omega
      rw [c1, if_neg (by simp), n, if_neg (by omega), if_pos (by simp [h1, h2]), e]
    · have c1 : ([a, b].isEmpty || [a, b].any fun c => decide (16 ≤ valI (c.toNat : Int))) = true := by
        simp; omega
      rw [c1, if_pos rfl, if_neg (by simp [h2])]
  · have c1 : ([a, b].isEmpty || [a, b].any fun c => decide (16 ≤ valI (c.toNat : Int))) = true := by
      simp; omega
    rw [c1, if_pos rfl, if_neg (by simp [h1])]

theorem list3 {s : ByteArray} (h : s.size = 3) : ∃ a b c, s = ⟨#[a, b, c]⟩ := by
  have hl : s.data.toList.length = 3 := (size_list s).trans h
  match hh : s.data.toList, hl with
  | [a, b, c], _ => exact ⟨a, b, c, eq_list (by rw [hh])⟩
theorem list1 {s : ByteArray} (h : s.size = 1) : ∃ a, s = ⟨#[a]⟩ := by
  have hl : s.data.toList.length = 1 := (size_list s).trans h
  match hh : s.data.toList, hl with
  | [a], _ => exact ⟨a, eq_list (by rw [hh])⟩
theorem ext3 (a b c : UInt8) : (⟨#[a, b, c]⟩ : ByteArray).extract 1 3 = ⟨#[b, c]⟩ := rfl

set_option maxRecDepth 100000 in
set_option maxHeartbeats 1000000 in
theorem isTriple_any (s : ByteArray) (w : World) :
    Calls Tryz.prog 81 #[.string s] w fun e w' => e = .returned (.bool (decide (s.size = 3) && trip s.data.toList)) ∧ Below w.heap.size w w' := by
  by_cases h : s.size = 3
  · obtain ⟨a, b, c, rfl⟩ := list3 h
    by_cases ha : a = 37
    · subst ha
      have hn : numR 16 (⟨#[b, c]⟩ : ByteArray).data.toList 255 = _ := num_two b c
      have HC : Hid (∀ w, Calls Tryz.prog 129 #[.string ((⟨#[37, b, c]⟩ : ByteArray).extract 1 3), .int .i64 255] w fun e w' => e = .returned (.tuple #[.int .i64 (if hx b && hx c then (((byteOf b c).toNat : Int), (0 : Int)) else (0, 11)).1, .int .i64 (if hx b && hx c then (((byteOf b c).toNat : Int), (0 : Int)) else (0, 11)).2]) ∧ Below w.heap.size w w') := fun w => by
        have := Hex_any ⟨#[b, c]⟩ (by show 2 ≤ maxLen; unfold maxLen; decide) 255 (by omega) (by omega) w
        rw [hn] at this
        exact this
      have ht : trip (⟨#[37, b, c]⟩ : ByteArray).data.toList = (hx b && hx c) := rfl
      rw [ht]
      clear hn ht
      cases hh : hx b && hx c with
      | true =>
        rw [hh] at HC
        go_enter Tryz.func81, Tryz.ntmps81
        go_wp2_with (refine (HC.out _).mono ?_; rintro e w1 ⟨rfl, hb⟩)
        go_ret
        exact ⟨rfl, hb⟩
      | false =>
        rw [hh] at HC
        go_enter Tryz.func81, Tryz.ntmps81
        go_wp2_with (refine (HC.out _).mono ?_; rintro e w1 ⟨rfl, hb⟩)
        go_ret
        exact ⟨rfl, hb⟩
    · have h1 : ((⟨#[a, b, c]⟩ : ByteArray)[0].toNat : Int) = (a.toNat : Int) := rfl
      have h2 : ((a.toNat : Int) != 37) = true := by
        simp
        intro e
        exact ha (UInt8.toNat_inj.1 (by show a.toNat = 37; omega))
      have h3 : trip (⟨#[a, b, c]⟩ : ByteArray).data.toList = false := trip_ne ha _
      rw [h3, Bool.and_false]
      clear h3
      go_enter Tryz.func81, Tryz.ntmps81
      go_wp2
      go_ret
      exact ⟨rfl, Below.refl _ _⟩
  · have h' : (((s.size : Nat) : Int) != 3) = true := by simp; omega
    have hd : decide (s.size = 3) = false := by simp [h]
    rw [hd, Bool.false_and]
    clear hd
    go_enter Tryz.func81, Tryz.ntmps81
    go_wp2
    go_ret
    exact ⟨rfl, Below.refl _ _⟩

set_option maxRecDepth 100000 in
set_option maxHeartbeats 1000000 in
theorem tripleByte_any (a b c : UInt8) (ht : (hx b && hx c) = true) (w : World) :
    Calls Tryz.prog 83 #[.string ⟨#[a, b, c]⟩] w fun e w' => e = .returned (.int .u8 ((byteOf b c).toNat : Int)) ∧ Below w.heap.size w w' := by
  have hn : numR 16 (⟨#[b, c]⟩ : ByteArray).data.toList 255 = _ := num_two b c
  have HC : Hid (∀ w, Calls Tryz.prog 129 #[.string ((⟨#[a, b, c]⟩ : ByteArray).extract 1 3), .int .i64 255] w fun e w' => e = .returned (.tuple #[.int .i64 ((byteOf b c).toNat : Int), .int .i64 0]) ∧ Below w.heap.size w w') := fun w => by
    have := Hex_any ⟨#[b, c]⟩ (by show 2 ≤ maxLen; unfold maxLen; decide) 255 (by omega) (by omega) w
    rw [hn, if_pos ht] at this
    exact this
  have h1 : (byteOf b c).toNat < 256 := (byteOf b c).toNat_lt
  clear hn ht
  generalize (byteOf b c).toNat = n at *
  have h2 : (n : Int) % 256 = n := by omega
  go_enter Tryz.func83, Tryz.ntmps83
  go_wp2_with (refine (HC.out _).mono ?_; rintro e w1 ⟨rfl, hb⟩)
  go_ret
  exact ⟨ret_int (by simp), hb⟩

/-- Classes, by the byte's number. -/
def clsN (n : Nat) : Int := if n = 45 then 1 else if n = 46 then 1 else if n = 95 then 1 else if n = 126 then 1 else if n = 33 then 2 else if n = 36 then 2 else if n = 38 then 2 else if n = 39 then 2 else if n = 40 then 2 else if n = 41 then 2 else if n = 42 then 2 else if n = 43 then 2 else if n = 44 then 2 else if n = 59 then 2 else if n = 61 then 2 else if n = 58 then 4 else if n = 64 then 4 else if n = 47 then 8 else if n = 63 then 16 else if 97 ≤ n ∧ n ≤ 122 ∨ 65 ≤ n ∧ n ≤ 90 ∨ 48 ≤ n ∧ n ≤ 57 then 1 else 0
theorem cls_clsN : ∀ n : Nat, n < 256 → cls (UInt8.ofNat n) = clsN n := by decide +kernel
theorem cls_N (c : UInt8) : cls c = clsN c.toNat := by rw [← cls_clsN c.toNat c.toNat_lt]; simp

set_option maxRecDepth 100000 in
set_option maxHeartbeats 1000000 in
theorem class_45 (w : World) : Calls Tryz.prog 84 #[.int .u8 45] w fun e w' => e = .returned (.int .u8 1) ∧ w' = w := by
  go_enter Tryz.func84, Tryz.ntmps84
  go_wp2
  go_ret
  exact ⟨rfl, rfl⟩

set_option maxRecDepth 100000 in
set_option maxHeartbeats 1000000 in
theorem class_46 (w : World) : Calls Tryz.prog 84 #[.int .u8 46] w fun e w' => e = .returned (.int .u8 1) ∧ w' = w := by
  go_enter Tryz.func84, Tryz.ntmps84
  go_wp2
  go_ret
  exact ⟨rfl, rfl⟩

set_option maxRecDepth 100000 in
set_option maxHeartbeats 1000000 in
theorem class_95 (w : World) : Calls Tryz.prog 84 #[.int .u8 95] w fun e w' => e = .returned (.int .u8 1) ∧ w' = w := by
  go_enter Tryz.func84, Tryz.ntmps84
  go_wp2
  go_ret
  exact ⟨rfl, rfl⟩

set_option maxRecDepth 100000 in
set_option maxHeartbeats 1000000 in
theorem class_126 (w : World) : Calls Tryz.prog 84 #[.int .u8 126] w fun e w' => e = .returned (.int .u8 1) ∧ w' = w := by
  go_enter Tryz.func84, Tryz.ntmps84
  go_wp2
  go_ret
  exact ⟨rfl, rfl⟩

set_option maxRecDepth 100000 in
set_option maxHeartbeats 1000000 in
theorem class_33 (w : World) : Calls Tryz.prog 84 #[.int .u8 33] w fun e w' => e = .returned (.int .u8 2) ∧ w' = w := by
  go_enter Tryz.func84, Tryz.ntmps84
  go_wp2
  go_ret
  exact ⟨rfl, rfl⟩

set_option maxRecDepth 100000 in
set_option maxHeartbeats 1000000 in
theorem class_36 (w : World) : Calls Tryz.prog 84 #[.int .u8 36] w fun e w' => e = .returned (.int .u8 2) ∧ w' = w := by
  go_enter Tryz.func84, Tryz.ntmps84
  go_wp2
  go_ret
  exact ⟨rfl, rfl⟩

set_option maxRecDepth 100000 in
set_option maxHeartbeats 1000000 in
theorem class_38 (w : World) : Calls Tryz.prog 84 #[.int .u8 38] w fun e w' => e = .returned (.int .u8 2) ∧ w' = w := by
  go_enter Tryz.func84, Tryz.ntmps84
  go_wp2
  go_ret
  exact ⟨rfl, rfl⟩

set_option maxRecDepth 100000 in
set_option maxHeartbeats 1000000 in
theorem class_39 (w : World) : Calls Tryz.prog 84 #[.int .u8 39] w fun e w' => e = .returned (.int .u8 2) ∧ w' = w := by
  go_enter Tryz.func84, Tryz.ntmps84
  go_wp2
  go_ret
  exact ⟨rfl, rfl⟩

set_option maxRecDepth 100000 in
set_option maxHeartbeats 1000000 in
theorem class_40 (w : World) : Calls Tryz.prog 84 #[.int .u8 40] w fun e w' => e = .returned (.int .u8 2) ∧ w' = w := by
  go_enter Tryz.func84, Tryz.ntmps84
  go_wp2
  go_ret
  exact ⟨rfl, rfl⟩

set_option maxRecDepth 100000 in
set_option maxHeartbeats 1000000 in
theorem class_41 (w : World) : Calls Tryz.prog 84 #[.int .u8 41] w fun e w' => e = .returned (.int .u8 2) ∧ w' = w := by
  go_enter Tryz.func84, Tryz.ntmps84
  go_wp2
  go_ret
  exact ⟨rfl, rfl⟩

set_option maxRecDepth 100000 in
set_option maxHeartbeats 1000000 in
theorem class_42 (w : World) : Calls Tryz.prog 84 #[.int .u8 42] w fun e w' => e = .returned (.int .u8 2) ∧ w' = w := by
  go_enter Tryz.func84, Tryz.ntmps84
  go_wp2
  go_ret
  exact ⟨rfl, rfl⟩

set_option maxRecDepth 100000 in
set_option maxHeartbeats 1000000 in
theorem class_43 (w : World) : Calls Tryz.prog 84 #[.int .u8 43] w fun e w' => e = .returned (.int .u8 2) ∧ w' = w := by
  go_enter Tryz.func84, Tryz.ntmps84
  go_wp2
  go_ret
  exact ⟨rfl, rfl⟩

set_option maxRecDepth 100000 in
set_option maxHeartbeats 1000000 in
theorem class_44 (w : World) : Calls Tryz.prog 84 #[.int .u8 44] w fun e w' => e = .returned (.int .u8 2) ∧ w' = w := by
  go_enter Tryz.func84, Tryz.ntmps84
  go_wp2
  go_ret
  exact ⟨rfl, rfl⟩

set_option maxRecDepth 100000 in
set_option maxHeartbeats 1000000 in
theorem class_59 (w : World) : Calls Tryz.prog 84 #[.int .u8 59] w fun e w' => e = .returned (.int .u8 2) ∧ w' = w := by
  go_enter Tryz.func84, Tryz.ntmps84
  go_wp2
  go_ret
  exact ⟨rfl, rfl⟩

set_option maxRecDepth 100000 in
set_option maxHeartbeats 1000000 in
theorem class_61 (w : World) : Calls Tryz.prog 84 #[.int .u8 61] w fun e w' => e = .returned (.int .u8 2) ∧ w' = w := by
  go_enter Tryz.func84, Tryz.ntmps84
  go_wp2
  go_ret
  exact ⟨rfl, rfl⟩

set_option maxRecDepth 100000 in
set_option maxHeartbeats 1000000 in
theorem class_58 (w : World) : Calls Tryz.prog 84 #[.int .u8 58] w fun e w' => e = .returned (.int .u8 4) ∧ w' = w := by
  go_enter Tryz.func84, Tryz.ntmps84
  go_wp2
  go_ret
  exact ⟨rfl, rfl⟩

set_option maxRecDepth 100000 in
set_option maxHeartbeats 1000000 in
theorem class_64 (w : World) : Calls Tryz.prog 84 #[.int .u8 64] w fun e w' => e = .returned (.int .u8 4) ∧ w' = w := by
  go_enter Tryz.func84, Tryz.ntmps84
  go_wp2
  go_ret
  exact ⟨rfl, rfl⟩

set_option maxRecDepth 100000 in
set_option maxHeartbeats 1000000 in
theorem class_47 (w : World) : Calls Tryz.prog 84 #[.int .u8 47] w fun e w' => e = .returned (.int .u8 8) ∧ w' = w := by
  go_enter Tryz.func84, Tryz.ntmps84
  go_wp2
  go_ret
  exact ⟨rfl, rfl⟩

set_option maxRecDepth 100000 in
set_option maxHeartbeats 1000000 in
theorem class_63 (w : World) : Calls Tryz.prog 84 #[.int .u8 63] w fun e w' => e = .returned (.int .u8 16) ∧ w' = w := by
  go_enter Tryz.func84, Tryz.ntmps84
  go_wp2
  go_ret
  exact ⟨rfl, rfl⟩

set_option maxRecDepth 100000 in
set_option maxHeartbeats 4000000 in
theorem class_other (n : Nat) (hn : n < 256) (h45 : n ≠ 45) (h46 : n ≠ 46) (h95 : n ≠ 95) (h126 : n ≠ 126) (h33 : n ≠ 33) (h36 : n ≠ 36) (h38 : n ≠ 38) (h39 : n ≠ 39) (h40 : n ≠ 40) (h41 : n ≠ 41) (h42 : n ≠ 42) (h43 : n ≠ 43) (h44 : n ≠ 44) (h59 : n ≠ 59) (h61 : n ≠ 61) (h58 : n ≠ 58) (h64 : n ≠ 64) (h47 : n ≠ 47) (h63 : n ≠ 63) (w : World) : Calls Tryz.prog 84 #[.int .u8 (n : Int)] w fun e w' => e = .returned (.int .u8 (if 97 ≤ n ∧ n ≤ 122 ∨ 65 ≤ n ∧ n ≤ 90 ∨ 48 ≤ n ∧ n ≤ 57 then 1 else 0)) ∧ w' = w := by
  have g45 : ((n : Int) == 45) = false := by simp; omega
  have g46 : ((n : Int) == 46) = false := by simp; omega
  have g95 : ((n : Int) == 95) = false := by simp; omega
  have g126 : ((n : Int) == 126) = false := by simp; omega
  have g33 : ((n : Int) == 33) = false := by simp; omega
  have g36 : ((n : Int) == 36) = false := by simp; omega
  have g38 : ((n : Int) == 38) = false := by simp; omega
  have g39 : ((n : Int) == 39) = false := by simp; omega
  have g40 : ((n : Int) == 40) = false := by simp; omega
  have g41 : ((n : Int) == 41) = false := by simp; omega
  have g42 : ((n : Int) == 42) = false := by simp; omega
  have g43 : ((n : Int) == 43) = false := by simp; omega
  have g44 : ((n : Int) == 44) = false := by simp; omega
  have g59 : ((n : Int) == 59) = false := by simp; omega
  have g61 : ((n : Int) == 61) = false := by simp; omega
  have g58 : ((n : Int) == 58) = false := by simp; omega
  have g64 : ((n : Int) == 64) = false := by simp; omega
  have g47 : ((n : Int) == 47) = false := by simp; omega
  have g63 : ((n : Int) == 63) = false := by simp; omega
  clear h45 h46 h95 h126 h33 h36 h38 h39 h40 h41 h42 h43 h44 h59 h61 h58 h64 h47 h63
  rcases (show n < 48 ∨ (48 ≤ n ∧ n ≤ 57) ∨ (57 < n ∧ n < 65) ∨ (65 ≤ n ∧ n ≤ 90) ∨ (90 < n ∧ n < 97) ∨ (97 ≤ n ∧ n ≤ 122) ∨ 122 < n by omega) with h | ⟨h, h'⟩ | ⟨h, h'⟩ | ⟨h, h'⟩ | ⟨h, h'⟩ | ⟨h, h'⟩ | h
  all_goals
    go_enter Tryz.func84, Tryz.ntmps84
    go_wp2
    go_ret
    exact ⟨ret_int (by first | rfl | rw [if_pos (by omega)] | rw [if_neg (by omega)]), rfl⟩

theorem classOf_any (c : UInt8) (w : World) : Calls Tryz.prog 84 #[.int .u8 (c.toNat : Int)] w fun e w' => e = .returned (.int .u8 (cls c)) ∧ w' = w := by
  rw [cls_N]
  have hn := c.toNat_lt
  generalize c.toNat = n at *
  by_cases h45 : n = 45
  · subst h45; exact class_45 w
  by_cases h46 : n = 46
  · subst h46; exact class_46 w
  by_cases h95 : n = 95
  · subst h95; exact class_95 w
  by_cases h126 : n = 126
  · subst h126; exact class_126 w
  by_cases h33 : n = 33
  · subst h33; exact class_33 w
  by_cases h36 : n = 36
  · subst h36; exact class_36 w
  by_cases h38 : n = 38
  · subst h38; exact class_38 w
  by_cases h39 : n = 39
  · subst h39; exact class_39 w
  by_cases h40 : n = 40
  · subst h40; exact class_40 w
  by_cases h41 : n = 41
  · subst h41; exact class_41 w
  by_cases h42 : n = 42
  · subst h42; exact class_42 w
  by_cases h43 : n = 43
  · subst h43; exact class_43 w
  by_cases h44 : n = 44
  · subst h44; exact class_44 w
  by_cases h59 : n = 59
  · subst h59; exact class_59 w
  by_cases h61 : n = 61
  · subst h61; exact class_61 w
  by_cases h58 : n = 58
  · subst h58; exact class_58 w
  by_cases h64 : n = 64
  · subst h64; exact class_64 w
  by_cases h47 : n = 47
  · subst h47; exact class_47 w
  by_cases h63 : n = 63
  · subst h63; exact class_63 w
  have e : clsN n = if 97 ≤ n ∧ n ≤ 122 ∨ 65 ≤ n ∧ n ≤ 90 ∨ 48 ≤ n ∧ n ≤ 57 then 1 else 0 := by
    unfold clsN
    rw [if_neg h45, if_neg h46, if_neg h95, if_neg h126, if_neg h33, if_neg h36, if_neg h38, if_neg h39, if_neg h40, if_neg h41, if_neg h42, if_neg h43, if_neg h44, if_neg h59, if_neg h61, if_neg h58, if_neg h64, if_neg h47, if_neg h63]
  rw [e]
  exact class_other n hn h45 h46 h95 h126 h33 h36 h38 h39 h40 h41 h42 h43 h44 h59 h61 h58 h64 h47 h63 w

end Tg
end Go.Proofs.YticncpjpkgdnlaaGreatDoor

/-
  target: the iterator over the signs of a text.
-/
set_option linter.unusedVariables false
set_option linter.unusedSimpArgs false
namespace Go.Proofs.YticncpjpkgdnlaaGreatDoor
open Go.RowKit Go.Shelf
attribute [local go_sem] Oper.semAt_some
namespace Tg
open Oc

/-- A block lies as it lay. -/
def Keep (b : Nat) (A B : World) : Prop := B.heap[b]? = A.heap[b]?
theorem Keep.refl (b : Nat) (A : World) : Keep b A A := rfl
theorem Keep.trans {b : Nat} {A B C : World} (h : Keep b A B) (k : Keep b B C) : Keep b A C := Eq.trans k h
theorem Keep.cell {b : Nat} {A B : World} (h : Keep b A B) (i : Nat) : B.cell? ⟨b, i, none⟩ = A.cell? ⟨b, i, none⟩ := World.cell?_of_block (w := A) (w' := B) (a := ⟨b, i, none⟩) h
theorem Keep.below {b n : Nat} {A B : World} (h : Below n A B) (hb : b < n) : Keep b A B := h.block b hb
theorem keepK_t {b : Nat} {A B C : World} (h : Keep b A B) (k : Keep b B C) : Keep b A C := h.trans k
theorem keepK_b {b : Nat} {w : World} (hb : b < w.heap.size) (W : World) (l : Nat) (o o' : Obj) (hl : w.heap.size ≤ l) (h : W.heap[l]? = some o) (hc : o.isCells = false) (hw : o.isWalk = false) : Keep b W (W.putObj l o') :=
  (belowK_b (w := w) (Nat.le_refl _) W l o o' hl h hc hw).block b hb

def encS (x : Sg) : Array Value := #[.int .i64 (x.at_ : Int), .string (str x.z)]

theorem grown_of_below {w w' : World} (h : Below w.heap.size w w') : w.grownBy w' none := ⟨h.os, h.tape, h.output, h.size, fun k hk _ => h.block k hk⟩

theorem ext_list (s : ByteArray) (a b : Nat) : (s.extract a b).data.toList = (s.data.toList.drop a).take (b - a) := by
  rw [ByteArray.data_extract, Array.toList_extract, List.extract_eq_take_drop]
theorem ext_rest (s : ByteArray) (k : Nat) : ((s.extract k s.size).extract 0 3).data.toList = (s.data.toList.drop k).take 3 := by
  rw [ext_list, ext_list, List.drop_zero, Nat.sub_zero, List.take_of_length_le (l := s.data.toList.drop k) (by rw [List.length_drop, size_list]; omega)]
theorem drop_cons (s : ByteArray) (k : Nat) (h : k < s.size) : s.data.toList.drop k = s.data.toList.getD k 0 :: s.data.toList.drop (k + 1) := by
  have hl : k < s.data.toList.length := by rw [size_list]; exact h
  rw [List.drop_eq_getElem_cons hl, List.getD_eq_getElem?_getD, List.getElem?_eq_getElem hl]; rfl
theorem cell_lt {w : World} {b i : Nat} {v : Value} (h : w.cell? ⟨b, i, none⟩ = some v) : b < w.heap.size := by
  rcases Nat.lt_or_ge b w.heap.size with h' | h'
  · exact h'
  · simp [World.cell?, Array.getElem?_eq_none h'] at h
/-- One sign more. -/
theorem sg_next3 (s : ByteArray) (k : Nat) (h : trip (s.data.toList.drop k) = true) : ∃ x : Sg, sg k (s.data.toList.drop k) = x :: sg (k + 3) (s.data.toList.drop (k + 3)) ∧ encS x = #[.int .i64 (k : Int), .string (s.extract k (k + 3))] := by
  refine ⟨_, by rw [sg_trip k _ h, List.drop_drop], ?_⟩
  unfold encS
  dsimp only
  rw [show str (List.take 3 (s.data.toList.drop k)) = s.extract k (k + 3) from eq_list (by rw [str_list, ext_list]; congr 1; omega)]
theorem sg_next1 (s : ByteArray) (k : Nat) (hk : k < s.size) (h : trip (s.data.toList.drop k) = false) : ∃ x : Sg, sg k (s.data.toList.drop k) = x :: sg (k + 1) (s.data.toList.drop (k + 1)) ∧ encS x = #[.int .i64 (k : Int), .string (s.extract k (k + 1))] := by
  rw [drop_cons s k hk] at h ⊢
  refine ⟨_, sg_one k _ _ h, ?_⟩
  unfold encS
  dsimp only
  rw [show str [s.data.toList.getD k 0] = s.extract k (k + 1) from eq_list (by rw [str_list, ext_list, drop_cons s k hk, Nat.add_sub_cancel_left]; rfl)]

set_option maxRecDepth 100000 in
set_option maxHeartbeats 2000000 in
theorem signs1_in (n : Nat) (l Bs : Nat) (s : ByteArray) (hs : s.size ≤ 140737488355328) (J Jx : List Sg → World → Prop)
    (hJb : ∀ pre W W', J pre W → Below W.heap.size W W' → J pre W')
    (hY : ∀ pre x W, J pre W → pre.length < s.size → YieldAt Fence.wide (n - 1) Tryz.prog l (encS x) W fun e W' =>
      (e = .returned (.bool true) ∧ J (pre ++ [x]) W' ∧ Keep Bs W W') ∨ (e = .returned (.bool false) ∧ Jx (pre ++ [x]) W'))
    (W : World) (hBs : W.cell? ⟨Bs, 0, none⟩ = some (.string s)) (hBl : Bs < W.heap.size) (h0 : J [] W) :
    CallsIn Fence.wide n Tryz.prog 128 #[.func (.yield l) #[] #[], .pointer (some ⟨Bs, 0, none⟩)] W fun e W' => (∃ v, e = .returned v) ∧
      ((∃ ys, ys = sg 0 s.data.toList ∧ J ys W') ∨ (∃ pre, (∃ rest, pre ++ rest = sg 0 s.data.toList) ∧ Jx pre W')) := by
  refine callsIn_of_wp Tryz.func128 rfl trivial ?_ rfl
  simp only [Tryz.ntmps128, List.size_toArray, List.length_cons, List.length_nil, Nat.reduceAdd, Nat.reduceSub, Array.replicate_succ, Array.replicate_zero, List.push_toArray, List.append_toArray, List.nil_append, List.cons_append]
  gi_wp2
  gi_loopw [3] (fun i wr => ∃ k : Nat, k ≤ s.size ∧ i = .int .i64 k ∧ ∃ pre, Hid (pre ++ sg k (s.data.toList.drop k) = sg 0 s.data.toList) ∧ Hid (pre.length ≤ k) ∧ J pre wr ∧ wr.cell? ⟨Bs, 0, none⟩ = some (.string s) ∧ Bs < wr.heap.size)
    (fun i _ => s.size - (intOf i).toNat)
  case atStart => exact ⟨0, Nat.zero_le _, rfl, [], (rfl : [] ++ sg 0 (s.data.toList.drop 0) = _), (Nat.le_refl 0 : _ ≤ 0), h0, hBs, hBl⟩
  case round =>
    obtain ⟨k, hk, rfl, pre, hpre, hpl, hJs, hc, hlb⟩ := hrel
    by_cases hlt : k < s.size
    · by_cases h3 : 3 ≤ s.size - k
      · have HT : Hid (∀ w, Calls Tryz.prog 81 #[.string ((s.extract k s.size).extract 0 3)] w fun e w' => e = .returned (.bool (trip (s.data.toList.drop k))) ∧ Below w.heap.size w w') := fun w => by
          have := isTriple_any ((s.extract k s.size).extract 0 3) w
          have e3 : ((s.extract k s.size).extract 0 3).size = 3 := by
            rw [← size_list, ext_rest, List.length_take, List.length_drop, size_list]; omega
          rw [ext_rest, trip_take, e3, decide_eq_true rfl, Bool.true_and] at this
          exact this
        cases ht : trip (s.data.toList.drop k) with
        | true =>
          obtain ⟨x, hx, he⟩ := sg_next3 s k ht
          rw [ht] at HT
          gi_wp2_with (refine ⟨trivial, (fun h => by cases h), ?_⟩; refine (callsIn_wide.2 (HT.out _)).mono ?_; rintro e w1 ⟨rfl, hb1⟩; have hc1 := (hb1.cell (p := ⟨Bs, 0, none⟩) hlb).trans hc; obtain ⟨fn, tmps, assign, body, hy, hR⟩ := hY _ x w1 (hJb _ _ _ hJs hb1) (Nat.lt_of_le_of_lt hpl.out hlt); rw [he] at hy)
          gi_wp2
          refine ⟨(fun h => by cases h), hR.mono ?_⟩
          rintro e W3 (⟨rfl, hJ3, hk3⟩ | ⟨rfl, hJx3⟩)
          · have hc3 : W3.cell? ⟨Bs, 0, none⟩ = some (.string s) := (hk3.cell _).trans hc1
            have hl3 : Bs < W3.heap.size := cell_lt hc3
            gi_wp2
            go_roundw
            case rel => exact ⟨k + 3, by omega, by simp, pre ++ [x], (by rw [List.append_assoc]; exact (congrArg (pre ++ ·) hx).symm.trans hpre.out : (pre ++ [x]) ++ sg (k + 3) (s.data.toList.drop (k + 3)) = _), (by have := hpl.out; rw [List.length_append, List.length_singleton]; omega : (pre ++ [x]).length ≤ k + 3), hJ3, hc3, hl3⟩
            case measure => simp [intOf]; omega
          · gi_wp2
            refine bodyPost_ret (results_none rfl _ _ _) rfl ?_
            exact ⟨⟨_, rfl⟩, .inr ⟨_, ⟨sg (k + 3) (s.data.toList.drop (k + 3)), by rw [List.append_assoc]; exact (congrArg (pre ++ ·) hx).symm.trans hpre.out⟩, hJx3⟩⟩
        | false =>
          obtain ⟨x, hx, he⟩ := sg_next1 s k hlt ht
          rw [ht] at HT
          gi_wp2_with (refine ⟨trivial, (fun h => by cases h), ?_⟩; refine (callsIn_wide.2 (HT.out _)).mono ?_; rintro e w1 ⟨rfl, hb1⟩; have hc1 := (hb1.cell (p := ⟨Bs, 0, none⟩) hlb).trans hc; obtain ⟨fn, tmps, assign, body, hy, hR⟩ := hY _ x w1 (hJb _ _ _ hJs hb1) (Nat.lt_of_le_of_lt hpl.out hlt); rw [he] at hy)
          gi_wp2
          refine ⟨(fun h => by cases h), hR.mono ?_⟩
          rintro e W3 (⟨rfl, hJ3, hk3⟩ | ⟨rfl, hJx3⟩)
          · have hc3 : W3.cell? ⟨Bs, 0, none⟩ = some (.string s) := (hk3.cell _).trans hc1
            have hl3 : Bs < W3.heap.size := cell_lt hc3
            gi_wp2
            go_roundw
            case rel => exact ⟨k + 1, by omega, by simp, pre ++ [x], (by rw [List.append_assoc]; exact (congrArg (pre ++ ·) hx).symm.trans hpre.out : (pre ++ [x]) ++ sg (k + 1) (s.data.toList.drop (k + 1)) = _), (by have := hpl.out; rw [List.length_append, List.length_singleton]; omega : (pre ++ [x]).length ≤ k + 1), hJ3, hc3, hl3⟩
            case measure => simp [intOf]; omega
          · gi_wp2
            refine bodyPost_ret (results_none rfl _ _ _) rfl ?_
            exact ⟨⟨_, rfl⟩, .inr ⟨_, ⟨sg (k + 1) (s.data.toList.drop (k + 1)), by rw [List.append_assoc]; exact (congrArg (pre ++ ·) hx).symm.trans hpre.out⟩, hJx3⟩⟩
      · have ht : trip (s.data.toList.drop k) = false := by
          cases hh : trip (s.data.toList.drop k) with
          | false => rfl
          | true => have := trip_len hh; rw [List.length_drop, size_list] at this; omega
        obtain ⟨x, hx, he⟩ := sg_next1 s k hlt ht
        obtain ⟨fn, tmps, assign, body, hy, hR⟩ := hY _ x wr hJs (Nat.lt_of_le_of_lt hpl.out hlt)
        rw [he] at hy
        gi_wp2
        refine ⟨trivial, ?_⟩
        gi_wp2
        refine ⟨(fun h => by cases h), hR.mono ?_⟩
        rintro e W3 (⟨rfl, hJ3, hk3⟩ | ⟨rfl, hJx3⟩)
        · have hc3 : W3.cell? ⟨Bs, 0, none⟩ = some (.string s) := (hk3.cell _).trans hc
          have hl3 : Bs < W3.heap.size := cell_lt hc3
          gi_wp2
          go_roundw
          case rel => exact ⟨k + 1, by omega, by simp, pre ++ [x], (by rw [List.append_assoc]; exact (congrArg (pre ++ ·) hx).symm.trans hpre.out : (pre ++ [x]) ++ sg (k + 1) (s.data.toList.drop (k + 1)) = _), (by have := hpl.out; rw [List.length_append, List.length_singleton]; omega : (pre ++ [x]).length ≤ k + 1), hJ3, hc3, hl3⟩
          case measure => simp [intOf]; omega
        · gi_wp2
          refine bodyPost_ret (results_none rfl _ _ _) rfl ?_
          exact ⟨⟨_, rfl⟩, .inr ⟨_, ⟨sg (k + 1) (s.data.toList.drop (k + 1)), by rw [List.append_assoc]; exact (congrArg (pre ++ ·) hx).symm.trans hpre.out⟩, hJx3⟩⟩
    · obtain rfl : k = s.size := by omega
      have hfin : pre = sg 0 s.data.toList := by
        have := hpre.out
        rw [List.drop_of_length_le (by rw [size_list]; exact Nat.le_refl _), sg_nil, List.append_nil] at this
        exact this
      gi_wp2
      go_end0
      exact ⟨⟨_, rfl⟩, .inl ⟨_, hfin, hJs⟩⟩

theorem signs_stops (n : Nat) (Bs : Nat) (s : ByteArray) (hs : s.size ≤ 140737488355328) (w : World) (hc : w.cell? ⟨Bs, 0, none⟩ = some (.string s)) :
    SeqStopsK Fence.wide n Tryz.prog 128 #[.pointer (some ⟨Bs, 0, none⟩)] encS (Keep Bs) (fun ys => ys = sg 0 s.data.toList)
      (fun pre => ∃ rest, pre ++ rest = sg 0 s.data.toList) s.size w := fun l J Jx W hW hJ _ hY h0 => by
  have hl := cell_lt hc
  have hc' := (hW.cell (p := ⟨Bs, 0, none⟩) hl).trans hc
  exact signs1_in n l Bs s hs J Jx (fun pre A B h hb => hJ _ _ _ _ h (grown_of_below hb) (fun r e => by cases e)) hY W hc' (cell_lt hc') h0

set_option maxRecDepth 100000 in
set_option maxHeartbeats 1000000 in
theorem signs_any (s : ByteArray) (w : World) : Calls Tryz.prog 80 #[.string s] w fun e w' => e = .returned (.func (.func 128) #[] #[.pointer (some ⟨w.heap.size, 0, none⟩)]) ∧ w' = w.alloc (.cells #[.string s] 9) := by
  go_enter Tryz.func80, Tryz.ntmps80
  go_wp2
  go_ret
  exact ⟨rfl, rfl⟩

end Tg
end Go.Proofs.YticncpjpkgdnlaaGreatDoor

/-
  A strings.Builder: its buffer lies at or beyond B, what is written turns the builder's own block and the buffer alone.
-/
set_option linter.unusedVariables false
set_option linter.unusedSimpArgs false
namespace Go.Proofs.YticncpjpkgdnlaaGreatDoor
open Go.RowKit Go.Shelf
namespace Tg
open Oc

/-- What a write turns: block b, and blocks at or beyond B that are cells. -/
structure Fr (B b : Nat) (w w' : World) : Prop where
  os : w'.os = w.os
  tape : w'.tape = w.tape
  output : w'.output = w.output
  block : ∀ k, k < B → k ≠ b → w'.heap[k]? = w.heap[k]?
  others : KeepsOthers w w'
theorem Fr.size {B b : Nat} {w w' : World} (h : Fr B b w w') : w.heap.size ≤ w'.heap.size := h.others.size
theorem Fr.refl (B b : Nat) (w : World) : Fr B b w w := ⟨rfl, rfl, rfl, fun _ _ _ => rfl, KeepsOthers.refl w⟩
theorem Fr.trans {B b : Nat} {x y z : World} (h : Fr B b x y) (k : Fr B b y z) : Fr B b x z :=
  ⟨k.os.trans h.os, k.tape.trans h.tape, k.output.trans h.output, fun i hi hb => (k.block i hi hb).trans (h.block i hi hb), h.others.trans k.others⟩
theorem Fr.keep {B b c : Nat} {w w' : World} (h : Fr B b w w') (hc : c < B) (hb : c ≠ b) : Keep c w w' := h.block c hc hb
theorem Fr.below {B b n : Nat} {w w' : World} (h : Fr B b w w') (hn : n ≤ B) (hb : n ≤ b) : Below n w w' := ⟨h.os, h.tape, h.output, h.size, fun k hk => h.block k (by omega) (by omega)⟩
theorem Fr.of_below {B b : Nat} {w w' : World} (h : Below w.heap.size w w') (hB : B ≤ w.heap.size) : Fr B b w w' :=
  ⟨h.os, h.tape, h.output, fun k hk _ => h.block k (by omega), ⟨h.size, fun k o hk _ => (h.block k (Array.getElem?_eq_some_iff.1 hk).1).trans hk⟩⟩
theorem Fr.set {B b j : Nat} (w : World) (v : Value) : Fr B b w (w.setCell ⟨b, j, none⟩ v) :=
  ⟨rfl, rfl, rfl, fun k _ hb => Below.heap_setCell _ _ _ _ hb, KeepsOthers.setCell w _ v⟩
theorem Fr.alloc {B b : Nat} (w : World) (o : Obj) (hB : B ≤ w.heap.size) : Fr B b w (w.alloc o) :=
  ⟨rfl, rfl, rfl, fun k hk _ => Lib.alloc_old w o k (by omega), KeepsOthers.alloc w o⟩
theorem Fr.grown {B b : Nat} {w w' : World} {v : Value} {n : Nat} {xs : List Value} (hg : w.grownBy w' v.ownBlock) (ho : w.ownsRow B 5 1 v n xs) (hB : B ≤ w.heap.size) : Fr B b w w' :=
  ⟨hg.os, hg.tape, hg.output, fun k hk _ => hg.block k (by omega) (fun e => by have := (ho.lt k e.symm).1; omega), KeepsOthers.of_grownBy hg (fun j o hj ho' => by
    rcases ho.2 with ⟨rfl, _⟩ | ⟨g, cap, cur, rfl, _, hgg, _⟩
    · cases hj
    · simp only [Value.ownBlock, Option.some.injEq] at hj
      subst hj
      rw [hgg] at ho'
      cases ho'
      rfl)⟩

/-- A builder in block b that holds l; its buffer lies at or beyond B. -/
def BdAt (B b : Nat) (p : Value) (l : List Value) (w : World) : Prop :=
  ∃ v, w.heap[b]? = some (.cells #[p, v] 58 (0, 0)) ∧ w.ownsRow B 5 1 v l.length l ∧ v.ownBlock ≠ some b
def Bd (B b : Nat) (l : List Value) (w : World) : Prop := BdAt B b (.pointer none) l w ∨ BdAt B b (.pointer (some ⟨b, 0, none⟩)) l w
theorem Bd.isB {B b : Nat} {l : List Value} {w : World} (h : Bd B b l w) : ∀ C, C ≤ B → C ≤ b → Lib.IsBuilder 58 5 C b l w := by
  intro C h1 h2
  have lower : ∀ {v : Value}, w.ownsRow B 5 1 v l.length l → w.ownsRow C 5 1 v l.length l := fun h => ⟨h.1, h.2.imp id fun ⟨g, c, cur, e, hg, r⟩ => ⟨g, c, cur, e, Nat.le_trans h1 hg, r⟩⟩
  rcases h with ⟨v, a, o, n⟩ | ⟨v, a, o, n⟩
  · exact .inl ⟨h2, v, a, lower o, n⟩
  · exact .inr ⟨h2, v, a, lower o, n⟩
theorem Bd.lt {B b : Nat} {l : List Value} {w : World} (h : Bd B b l w) : b < w.heap.size := by
  rcases h with ⟨v, a, _⟩ | ⟨v, a, _⟩ <;> exact (Array.getElem?_eq_some_iff.1 a).1
theorem BdAt.below {B b : Nat} {p : Value} {l : List Value} {w w' : World} (h : BdAt B b p l w) (hb : Below w.heap.size w w') : BdAt B b p l w' := by
  obtain ⟨v, a, o, n⟩ := h
  refine ⟨v, (hb.block b (Array.getElem?_eq_some_iff.1 a).1).trans a, ⟨o.1, o.2.imp id fun ⟨g, c, cur, e, hg, hh, r⟩ => ⟨g, c, cur, e, hg, (hb.block g (Array.getElem?_eq_some_iff.1 hh).1).trans hh, r⟩⟩, n⟩
theorem Bd.below {B b : Nat} {l : List Value} {w w' : World} (h : Bd B b l w) (hb : Below w.heap.size w w') : Bd B b l w' := h.imp (fun h => h.below hb) (fun h => h.below hb)
theorem Bd.new (w : World) (B : Nat) : Bd B w.heap.size [] (w.alloc (.cells #[.pointer none, .slice none 0 0] 58)) :=
  .inl ⟨.slice none 0 0, World.alloc_heap_new w _, World.ownsRow_nil _ _ _ _, by simp [Value.ownBlock]⟩
/-- It is its own: nothing else turns it. -/
theorem bd_own {β : Type} (B b : Nat) (f : β → List Value) : Own (fun s W => Bd B b (f s) W) := by
  intro s X Y row hs hg hrow
  have key : ∀ p, BdAt B b p (f s) X → BdAt B b p (f s) Y := by
    rintro p ⟨v, a, o, n⟩
    have hb : some b ≠ row := fun e => by
      obtain ⟨o', h1, h2⟩ := hrow b e.symm
      rw [a] at h1; cases h1; cases h2
    refine ⟨v, (hg.block b (Array.getElem?_eq_some_iff.1 a).1 hb).trans a, o.kept hg ?_, n⟩
    rcases o.2 with ⟨rfl, _⟩ | ⟨g, cap, cur, rfl, _, hgg, _⟩
    · exact .inl rfl
    · refine .inr fun e => ?_
      obtain ⟨o', h1, h2⟩ := hrow g e.symm
      rw [hgg] at h1; cases h1; cases h2
  exact hs.imp (key _) (key _)

set_option maxHeartbeats 400000 in
theorem copyCheck_bd (B b : Nat) (l : List Value) (w : World) (h : Bd B b l w) :
    Calls Tryz.prog 79 #[.pointer (some ⟨b, 0, none⟩)] w fun e w' => e = .returned (.tuple #[]) ∧ BdAt B b (.pointer (some ⟨b, 0, none⟩)) l w' ∧ Fr B b w w' := by
  rcases h with h | h
  · have hI : Lib.BuilderAt 58 5 0 b (.pointer none) l w := by
      obtain ⟨v, a, o, n⟩ := h
      exact ⟨Nat.zero_le _, v, a, ⟨o.1, o.2.imp id fun ⟨g, c, cur, e, hg, r⟩ => ⟨g, c, cur, e, Nat.zero_le _, r⟩⟩, n⟩
    refine (copyCheck_fresh b w hI.cell0 hI.shape hI.frozen0).mono ?_
    rintro e w' ⟨rfl, rfl⟩
    refine ⟨rfl, ?_, Fr.set w _⟩
    obtain ⟨v, a, o, n⟩ := h
    refine ⟨v, by simp [World.setCell, Array.getElem?_modify, a], o.kept (grownBy_setCell' w b _) ?_, n⟩
    exact .inr n
  · have hI : Lib.BuilderAt 58 5 0 b (.pointer (some ⟨b, 0, none⟩)) l w := by
      obtain ⟨v, a, o, n⟩ := h
      exact ⟨Nat.zero_le _, v, a, ⟨o.1, o.2.imp id fun ⟨g, c, cur, e, hg, r⟩ => ⟨g, c, cur, e, Nat.zero_le _, r⟩⟩, n⟩
    refine (copyCheck_used b w hI.cell0).mono ?_
    rintro e w' ⟨rfl, rfl⟩
    exact ⟨rfl, h, Fr.refl _ _ _⟩

theorem put_bd {B b : Nat} {p v v' : Value} {l : List Value} {w : World} (hb : w.heap[b]? = some (.cells #[p, v] 58 (0, 0))) (ho : w.ownsRow B 5 1 v' l.length l) : BdAt B b p l (w.setCell ⟨b, 1, none⟩ v') := by
  have hne := Lib.ownBlock_ne ho hb (by decide)
  exact ⟨v', by simp [World.setCell, Array.getElem?_modify, hb], ho.kept (row := some b) ⟨rfl, rfl, rfl, by simp [World.setCell], fun k _ hk => Below.heap_setCell _ _ _ _ (fun e => hk (by simp [e]))⟩ (Or.inr hne), hne⟩

set_option maxHeartbeats 2000000 in
set_option maxRecDepth 100000 in
theorem WriteByte_bd (B b : Nat) (l : List Value) (c : Int) (w : World) (h : Bd B b l w) (hlen : l.length + 1 ≤ 140737488355328) (hBw : B ≤ w.heap.size) :
    Calls Tryz.prog 82 #[.pointer (some ⟨b, 0, none⟩), .int .u8 c] w fun e w' => e = .returned .nilIface ∧ Bd B b (l ++ [.int .u8 c]) w' ∧ Fr B b w w' := by
  obtain ⟨i0, hi, hz0, hz1, hz2⟩ := info_parts infoByte
  go_enter Tryz.func82, Tryz.ntmps82
  go_wp2_with fail
  refine (copyCheck_bd B b l _ h).mono ?_
  rintro e w1 ⟨rfl, h1, hf1⟩
  obtain ⟨v, hbk, hown, hne⟩ := h1
  have c0 : w1.cell? ⟨b, 0, none⟩ = some (.pointer (some ⟨b, 0, none⟩)) := by rw [Lib.cell_of_heap hbk]; rfl
  have c1 : w1.cell? ⟨b, 1, none⟩ = some v := by rw [Lib.cell_of_heap hbk]; rfl
  have hs1 := hf1.size
  have HF1 : Hid (Fr B b w w1) := hf1
  clear hf1
  go_wp2_with (at_builtin; refine wpList_append_own _ rfl _ _ 42 rfl B 5 i0 (.int .u8 0) 1 1 Tryz.underlying42 hi hz0 hz1 hz2 rfl (by decide) _ _ _ rfl (hown.alloc _) ⟨w1.heap.size, 0, none⟩ 1 1 [.int .u8 c] rfl rfl ?c1 ?c2 ?c3 ?c4 ?c5 ?_)
  case c1 =>
    intro j u hj
    match j, hj with
    | 0, hj => simp at hj; subst hj; simp [Addr.add]
  case c2 => intro u hu; simp at hu; subst hu; rfl
  case c3 => unfold maxLen; omega
  case c4 => omega
  case c5 => simp; omega
  intro v' w2 hown' hgrow _
  have hlt : b < w1.heap.size := (Array.getElem?_eq_some_iff.1 hbk).1
  have hb2 : w2.heap[b]? = some (.cells #[.pointer (some ⟨b, 0, none⟩), v] 58 (0, 0)) := by
    rw [hgrow.block b (by simp; omega) (fun e => hne e.symm), Lib.alloc_old w1 _ b hlt]
    exact hbk
  have d0 : w2.cell? ⟨b, 0, none⟩ = some (.pointer (some ⟨b, 0, none⟩)) := by rw [Lib.cell_of_heap hb2]; rfl
  have d1 : w2.cell? ⟨b, 1, none⟩ = some v := by rw [Lib.cell_of_heap hb2]; rfl
  have f1 : w2.frozen? ⟨b, 1, none⟩ = false := Lib.frozen_of_heap hb2 1
  obtain ⟨g, cap, rfl⟩ : ∃ g cap, v' = .slice (some ⟨g, 0, none⟩) (l.length + 1) cap := by
    rcases hown'.2 with ⟨_, h0⟩ | ⟨g, cap, cur, hv, _⟩
    · omega
    · exact ⟨g, cap, hv⟩
  have HF2 : Hid (Fr B b w w2) := (HF1.out.trans (Fr.alloc w1 _ (by omega))).trans (Fr.grown hgrow (hown.alloc _) (by simp; omega))
  go_wp2
  go_ret
  exact ⟨rfl, .inr (put_bd hb2 (by simpa using hown')), HF2.out.trans (Fr.set _ _)⟩

set_option maxHeartbeats 2000000 in
set_option maxRecDepth 100000 in
theorem WriteString_bd (B b : Nat) (l : List Value) (s : ByteArray) (w : World) (h : Bd B b l w) (hlen : l.length + s.size ≤ 140737488355328) (hBw : B ≤ w.heap.size) :
    Calls Tryz.prog 44 #[.pointer (some ⟨b, 0, none⟩), .string s] w fun e w' => e = .returned (.tuple #[.int .i64 s.size, .nilIface]) ∧ Bd B b (l ++ Lib.strCells s) w' ∧ Fr B b w w' := by
  obtain ⟨i0, hi, hz0, hz1, hz2⟩ := info_parts infoByte
  go_enter Tryz.func44, Tryz.ntmps44
  go_wp2_with fail
  refine (copyCheck_bd B b l _ h).mono ?_
  rintro e w1 ⟨rfl, h1, hf1⟩
  obtain ⟨v, hbk, hown, hne⟩ := h1
  have c0 : w1.cell? ⟨b, 0, none⟩ = some (.pointer (some ⟨b, 0, none⟩)) := by rw [Lib.cell_of_heap hbk]; rfl
  have c1 : w1.cell? ⟨b, 1, none⟩ = some v := by rw [Lib.cell_of_heap hbk]; rfl
  have hs1 := hf1.size
  have HF1 : Hid (Fr B b w w1) := hf1
  clear hf1
  go_wp2_with (at_builtin; refine Lib.wpList_append_own_string _ rfl _ _ 42 9 rfl B 5 i0 Tryz.underlying42 Tryz.underlying9 hi hz0 hz1 hz2 _ _ _ rfl hown s rfl ?c3 ?c4 ?c5 ?_)
  case c3 => unfold maxLen; omega
  case c4 => omega
  case c5 => omega
  intro v' w2 hown' hgrow _
  have hlt : b < w1.heap.size := (Array.getElem?_eq_some_iff.1 hbk).1
  have hb2 : w2.heap[b]? = some (.cells #[.pointer (some ⟨b, 0, none⟩), v] 58 (0, 0)) := by
    rw [hgrow.block b hlt (fun e => hne e.symm)]
    exact hbk
  have d0 : w2.cell? ⟨b, 0, none⟩ = some (.pointer (some ⟨b, 0, none⟩)) := by rw [Lib.cell_of_heap hb2]; rfl
  have d1 : w2.cell? ⟨b, 1, none⟩ = some v := by rw [Lib.cell_of_heap hb2]; rfl
  have f1 : w2.frozen? ⟨b, 1, none⟩ = false := Lib.frozen_of_heap hb2 1
  obtain ⟨ao, n', cap, rfl⟩ : ∃ ao n' cap, v' = .slice ao n' cap := by
    rcases hown'.2 with ⟨hv, _⟩ | ⟨g, cap, cur, hv, _⟩
    · exact ⟨_, _, _, hv⟩
    · exact ⟨_, _, _, hv⟩
  have HF2 : Hid (Fr B b w w2) := HF1.out.trans (Fr.grown hgrow hown (by omega))
  go_wp2
  go_ret2
  exact ⟨rfl, .inr (put_bd hb2 (by simpa [Lib.strCells_length] using hown')), HF2.out.trans (Fr.set _ _)⟩

theorem Bd.isF {B b : Nat} {l : List Value} {w : World} (h : Bd B b l w) : Lib.IsBuilderF 58 5 (min B b) b l w :=
  (h.isB _ (Nat.min_le_left _ _) (Nat.min_le_right _ _)).imp Lib.BuilderAtF.of Lib.BuilderAtF.of
theorem String_bd (B b : Nat) (l : List UInt8) (w : World) (h : Bd B b (Lib.byteCells l) w) (hBw : B ≤ w.heap.size) :
    Calls Tryz.prog 46 #[.pointer (some ⟨b, 0, none⟩)] w fun e w' => e = .returned (.string (str l)) ∧ Below (min B b) w w' ∧ Lib.OthersKept 5 (some b) w w' :=
  (Tryz.Builder_String_any_k (min B b) b l w h.isF (Nat.le_trans (Nat.min_le_left _ _) hBw)).mono fun e w' ⟨he, _, hb, ho⟩ => ⟨he, hb, ho⟩
theorem cells_app (l r : List UInt8) : Lib.byteCells (l ++ r) = Lib.byteCells l ++ Lib.byteCells r := by simp [Lib.byteCells]
theorem cells_str (l : List UInt8) : Lib.strCells (str l) = Lib.byteCells l := by simp [Lib.strCells, Lib.byteCells, str]
theorem cells_len (l : List UInt8) : (Lib.byteCells l).length = l.length := by simp [Lib.byteCells]
theorem cells_one (c : UInt8) : Lib.byteCells [c] = [.int .u8 (c.toNat : Int)] := by simp [Lib.byteCells]

end Tg
end Go.Proofs.YticncpjpkgdnlaaGreatDoor

/-
  target: Encode.
-/
set_option linter.unusedVariables false
set_option linter.unusedSimpArgs false
namespace Go.Proofs.YticncpjpkgdnlaaGreatDoor
open Go.RowKit Go.Shelf
namespace Tg
open Oc

theorem cls_unr {c : UInt8} (h : unr c = true) : cls c = 1 := by unfold cls; rw [if_pos h]
theorem cls_not {c : UInt8} (h : unr c = false) : (cls c == 1) = false := by
  unfold cls
  rw [if_neg (by simp [h])]
  (repeat' split) <;> decide
theorem take_enc (s : ByteArray) (k : Nat) (h : k < s.size) : enc (s.data.toList.take (k + 1)) = enc (s.data.toList.take k) ++ encB (s.data.toList.getD k 0) := by
  rw [take_snoc s k h, enc_append]; simp [enc]
theorem digits_at (n : Nat) (h : n < 16) : ∀ (h' : n < (⟨#[48, 49, 50, 51, 52, 53, 54, 55, 56, 57, 65, 66, 67, 68, 69, 70]⟩ : ByteArray).size), (⟨#[48, 49, 50, 51, 52, 53, 54, 55, 56, 57, 65, 66, 67, 68, 69, 70]⟩ : ByteArray)[n] = hd n := fun h' => (at_lt _ n h').symm

set_option maxRecDepth 100000 in
set_option maxHeartbeats 4000000 in
theorem Encode_any (s : ByteArray) (hs : s.size ≤ 40000000000) (w : World) :
    Calls Tryz.prog 48 #[.string s] w fun e w' => e = .returned (.string (str (enc s.data.toList))) ∧ Below w.heap.size w w' := by
  have hcv := fun w => Lib.run_convert_string_bytes (P := Tryz.prog) w 9 42 5 s Tryz.underlying9 Tryz.underlying42 Tryz.underlying5
  have hr := bytes_row (w.alloc (.cells #[.pointer none, .slice none 0 0] 58)) 5 s
  have hbb := below_bytes (w.alloc (.cells #[.pointer none, .slice none 0 0] 58)) 5 s
  have hbd := (Bd.new w (w.heap.size + 2)).below hbb
  have hbw : Below w.heap.size w (Lib.bytesWorld (w.alloc (.cells #[.pointer none, .slice none 0 0] 58)) 5 s) := ((Below.refl _ w).alloc (Nat.le_refl _) _).trans (hbb.mono (by simp))
  have hsz : (Lib.bytesWorld (w.alloc (.cells #[.pointer none, .slice none 0 0] 58)) 5 s).heap.size = w.heap.size + 2 := by rw [Lib.bytesWorld_size, World.size_alloc]
  rw [World.size_alloc] at hr
  have HR : Hid (_) := hr
  have HBD : Hid (_) := hbd
  have HBW : Hid (_) := hbw
  have HSZ : Hid (_) := hsz
  clear hr hbd hbw hbb hsz
  go_enter Tryz.func48, Tryz.ntmps48
  go_wp2
  go_loopw [9] (fun i wr => ∃ k : Nat, k ≤ s.size ∧ i = .int .i64 k ∧ Hid (Bd (w.heap.size + 2) w.heap.size (Lib.byteCells (enc (s.data.toList.take k))) wr) ∧ Hid (Keep (w.heap.size + 1) (Lib.bytesWorld (w.alloc (.cells #[.pointer none, .slice none 0 0] 58)) 5 s) wr) ∧ Hid (Below w.heap.size w wr) ∧ Hid (w.heap.size + 2 ≤ wr.heap.size)) (fun i _ => s.size - (intOf i).toNat)
  case atStart => exact ⟨0, Nat.zero_le _, rfl, HBD, (rfl : Keep _ _ _), HBW, (by rw [HSZ.out]; exact Nat.le_refl _ : _ ≤ _)⟩
  case round =>
    obtain ⟨k, hk, rfl, hB, hK, hW, hS⟩ := hrel
    by_cases hlt : k < s.size
    · have hck := (hK.out.cell k).trans (HR.out.cell k hlt)
      have hb1 : (byt s k) = ((s.data.toList.getD k 0).toNat : Int) := rfl
      rw [hb1] at hck
      have HT : Hid (_) := take_enc s k hlt
      generalize s.data.toList.getD k 0 = c at *
      have hel := enc_len (s.data.toList.take k)
      have htl : (s.data.toList.take k).length ≤ s.size := by rw [List.length_take, size_list]; omega
      have HL : Hid (_) := hel
      clear hel
      have hcn := c.toNat_lt
      have HFIN : Hid (∀ w', Bd (w.heap.size + 2) w.heap.size (Lib.byteCells (enc (s.data.toList.take k)) ++ Lib.byteCells (encB c)) w' → Fr (w.heap.size + 2) w.heap.size wr w' → Hid (Bd (w.heap.size + 2) w.heap.size (Lib.byteCells (enc (s.data.toList.take (k + 1)))) w') ∧ Hid (Keep (w.heap.size + 1) (Lib.bytesWorld (w.alloc (.cells #[.pointer none, .slice none 0 0] 58)) 5 s) w') ∧ Hid (Below w.heap.size w w') ∧ Hid (w.heap.size + 2 ≤ w'.heap.size)) := fun w' h1 h2 =>
        ⟨(by rw [HT.out, cells_app]; exact h1 : Bd _ _ _ _), hK.out.trans (h2.keep (by omega) (by omega)), hW.out.trans (h2.below (by omega) (Nat.le_refl _)), Nat.le_trans hS.out h2.size⟩
      cases hu : unr c with
      | true =>
        have he : encB c = [c] := by unfold encB; rw [if_pos hu]
        have hcl := cls_unr hu
        have HC : Hid (∀ w, Calls Tryz.prog 84 #[.int .u8 (c.toNat : Int)] w fun e w' => e = .returned (.int .u8 1) ∧ w' = w) := fun w => by rw [← hcl]; exact classOf_any c w
        rw [he, cells_one] at HFIN
        go_wp2_with (first | (go_at_call 84; refine (HC.out _).mono ?_; rintro e w1 ⟨rfl, rfl⟩) | (go_at_call 82; refine (WriteByte_bd _ _ _ _ _ hB.out (by rw [cells_len]; have := HL.out; omega) hS.out).mono ?_; rintro e w2 ⟨rfl, hB2, hF2⟩; obtain ⟨q1, q2, q3, q4⟩ := HFIN.out _ hB2 hF2))
        go_roundw
        case rel => exact ⟨k + 1, by omega, by go_num, q1, q2, q3, q4⟩
        case measure => simp [intOf]; omega
      | false =>
        have he : encB c = [37, hd (c.toNat / 16), hd (c.toNat % 16)] := by unfold encB; rw [if_neg (by simp [hu])]
        have hcl := cls_not hu
        have HC : Hid (∀ w, Calls Tryz.prog 84 #[.int .u8 (c.toNat : Int)] w fun e w' => e = .returned (.int .u8 (cls c)) ∧ w' = w) := fun w => classOf_any c w
        generalize cls c = v at *
        have e3 : Lib.byteCells (encB c) = [Value.int .u8 37, .int .u8 ((hd (c.toNat / 16)).toNat : Int), .int .u8 ((hd (c.toNat % 16)).toNat : Int)] := by rw [he]; rfl
        rw [e3] at HFIN
        go_wp2_with (first | (go_at_call 84; refine (HC.out _).mono ?_; rintro e w1 ⟨rfl, rfl⟩) | fail)
        refine (WriteByte_bd _ _ _ _ _ hB.out (by rw [cells_len]; have := HL.out; omega) hS.out).mono ?_
        rintro e w2 ⟨rfl, hB2, hF2⟩
        have HB2 : Hid (_) := hB2
        have HF2 : Hid (_) := hF2
        clear hB2 hF2
        go_wp2_with fail
        rw [digits_at (c.toNat / 16) (by omega)]
        refine (WriteByte_bd _ _ _ _ _ HB2.out (by rw [List.length_append, cells_len]; have := HL.out; simp; omega) (Nat.le_trans hS.out HF2.out.size)).mono ?_
        rintro e w3 ⟨rfl, hB3, hF3⟩
        have HB3 : Hid (_) := hB3
        have HF3 : Hid (_) := HF2.out.trans hF3
        clear hB3 hF3 HB2 HF2
        go_wp2_with fail
        rw [digits_at (c.toNat % 16) (by omega)]
        refine (WriteByte_bd _ _ _ _ _ HB3.out (by rw [List.length_append, List.length_append, cells_len]; have := HL.out; simp; omega) (Nat.le_trans hS.out HF3.out.size)).mono ?_
        rintro e w4 ⟨rfl, hB4, hF4⟩
        obtain ⟨q1, q2, q3, q4⟩ := HFIN.out _ (by simpa using hB4) (HF3.out.trans hF4)
        clear hB4 hF4
        go_wp2
        go_roundw
        case rel => exact ⟨k + 1, by omega, by go_num, q1, q2, q3, q4⟩
        case measure => simp [intOf]; omega
    · obtain rfl : k = s.size := by omega
      have hall : s.data.toList.take s.size = s.data.toList := List.take_of_length_le (by rw [size_list]; exact Nat.le_refl _)
      rw [hall] at hB
      clear hall
      go_wp2_with fail
      refine (String_bd _ _ _ _ hB.out hS.out).mono ?_
      rintro e w2 ⟨rfl, hb2, _⟩
      go_wp2
      go_ret
      exact ⟨rfl, hW.out.trans (hb2.mono (by omega))⟩

end Tg
end Go.Proofs.YticncpjpkgdnlaaGreatDoor

/-
  target: Decode.
-/
set_option linter.unusedVariables false
set_option linter.unusedSimpArgs false
namespace Go.Proofs.YticncpjpkgdnlaaGreatDoor
open Go.RowKit Go.Shelf
attribute [local go_sem] Oper.semAt_some
namespace Tg
open Oc

theorem box_fr {B b c : Nat} {t : TypeId} {v : Value} {w w' : World} (h : Boxed w c t v) (f : Fr B b w w') (hc : c < B) (hb : c ≠ b) : Boxed w' c t v := (f.block c hc hb).trans h
theorem box_below {n c : Nat} {t : TypeId} {v : Value} {w w' : World} (h : Boxed w c t v) (f : Below n w w') (hc : c < n) : Boxed w' c t v := (f.block c hc).trans h
theorem box_put {W : World} {b D : Nat} {t : TypeId} {v : Value} (h : Boxed W b t v) (hD : b ≠ D) (o : Obj) : (W.putObj D o).cell? ⟨b, 0, none⟩ = some v := by
  have e : (W.putObj D o).heap[b]? = W.heap[b]? := World.putObj_heap_other hD
  exact (World.cell?_of_block (w := W) (w' := W.putObj D o) (a := ⟨b, 0, none⟩) e).trans h.cell
theorem below_put {n : Nat} {w W : World} {D : Nat} (h : Below n w W) (hD : n ≤ D) (o : Obj) : Below n w (W.putObj D o) := ⟨h.os, h.tape, h.output, by have := h.size; simpa [World.putObj] using this, fun k hk => (World.putObj_heap_other (by omega)).trans (h.block k hk)⟩
theorem fr_wide {B b : Nat} {w w' : World} (h : Below w.heap.size w w') (hB : B ≤ w.heap.size) : Fr B b w w' := Fr.of_below h hB
def lastAt (pre : List Sg) : Nat := (pre.getLast?.map Sg.at_).getD 0
theorem lastAt_app (pre : List Sg) (x : Sg) : lastAt (pre ++ [x]) = x.at_ := by simp [lastAt]
theorem valS_one {x : Sg} {c : UInt8} (h : x.z = [c]) : valS x = [c] := by unfold valS; rw [h]
theorem valS_three {x : Sg} {a b c : UInt8} (h : x.z = [a, b, c]) : valS x = [byteOf b c] := by unfold valS; rw [h]
theorem bad_iff (x : Sg) : bad x = true ↔ x.z = [37] := by unfold bad; simp
theorem vals_len (pre : List Sg) : (pre.flatMap valS).length = pre.length := by
  induction pre with
  | nil => rfl
  | cons x r ih => rw [List.flatMap_cons, List.length_append, ih, valS_len]; simp; omega
theorem decR_all (l : List UInt8) (h : ∀ x ∈ sg 0 l, bad x = false) : decR l = ((sg 0 l).flatMap valS, 0, 0) := by
  unfold decR
  rw [List.find?_eq_none.2 (fun x hx => by rw [h x hx]; simp)]
theorem decR_at (l : List UInt8) (pre : List Sg) (x : Sg) (rest : List Sg) (e : pre ++ [x] ++ rest = sg 0 l) (h : ∀ y ∈ pre, bad y = false) (hx : bad x = true) : decR l = ([], x.at_, 51) := by
  unfold decR
  rw [← e, List.append_assoc, List.find?_append, List.find?_eq_none.2 (fun y hy => by rw [h y hy]; simp)]
  simp [hx]

set_option maxRecDepth 100000 in
set_option maxHeartbeats 8000000 in
theorem Decode_any (s : ByteArray) (hs : s.size ≤ 40000000000) (w : World) :
    Calls Tryz.prog 47 #[.string s] w fun e w' => e = .returned (.tuple #[.string (str (decR s.data.toList).1), .int .i64 ((decR s.data.toList).2.1 : Int), .int .i64 (decR s.data.toList).2.2]) ∧ Below w.heap.size w w' := by
  obtain ⟨w5, hw5⟩ : ∃ w5, w5 = (((((w.alloc (.cells #[.string ⟨#[]⟩] 9)).alloc (.cells #[.int .i64 0] 3)).alloc (.cells #[.int .i64 0] 53)).alloc (.cells #[.pointer none, .slice none 0 0] 58)).alloc (.cells #[.string s] 9)) := ⟨_, rfl⟩
  have hsz5 : w5.heap.size = w.heap.size + 5 := by rw [hw5]; simp
  have b0 : Boxed w5 w.heap.size 9 (.string ⟨#[]⟩) := by rw [hw5]; exact ((((Boxed.new w _ _).alloc _).alloc _).alloc _).alloc _
  have b1 : Boxed w5 (w.heap.size + 1) 3 (.int .i64 0) := by rw [hw5]; have := (((Boxed.new (w.alloc (.cells #[.string ⟨#[]⟩] 9)) 3 (.int .i64 0)).alloc (.cells #[.int .i64 0] 53)).alloc (.cells #[.pointer none, .slice none 0 0] 58)).alloc (.cells #[.string s] 9); rwa [World.size_alloc] at this
  have b2 : Boxed w5 (w.heap.size + 2) 53 (.int .i64 0) := by rw [hw5]; have := ((Boxed.new ((w.alloc (.cells #[.string ⟨#[]⟩] 9)).alloc (.cells #[.int .i64 0] 3)) 53 (.int .i64 0)).alloc (.cells #[.pointer none, .slice none 0 0] 58)).alloc (.cells #[.string s] 9); rwa [World.size_alloc, World.size_alloc] at this
  have b3 : Bd (w.heap.size + 5) (w.heap.size + 3) [] w5 := by
    rw [hw5]
    have h := Bd.new (((w.alloc (.cells #[.string ⟨#[]⟩] 9)).alloc (.cells #[.int .i64 0] 3)).alloc (.cells #[.int .i64 0] 53)) (w.heap.size + 5)
    rw [World.size_alloc, World.size_alloc, World.size_alloc] at h
    exact h.below ((Below.refl _ _).alloc (Nat.le_refl _) _)
  have b4 : w5.cell? ⟨w.heap.size + 4, 0, none⟩ = some (.string s) := by
    rw [hw5]
    have h := (Boxed.new ((((w.alloc (.cells #[.string ⟨#[]⟩] 9)).alloc (.cells #[.int .i64 0] 3)).alloc (.cells #[.int .i64 0] 53)).alloc (.cells #[.pointer none, .slice none 0 0] 58)) 9 (.string s)).cell
    rwa [World.size_alloc, World.size_alloc, World.size_alloc, World.size_alloc] at h
  have hB5 : Below w.heap.size w w5 := by
    rw [hw5]
    exact ((((((Below.refl _ w).alloc (Nat.le_refl _) _).alloc (by simp) _).alloc (by simp; omega) _).alloc (by simp; omega) _).alloc (by simp; omega) _)
  have HW5 : Hid (_ = _) := hw5
  refine (callsIn_wide (n := 9)).1 ?_
  refine callsIn_of_wp_marks Tryz.func47 rfl trivial ?_ rfl
  simp only [Tryz.ntmps47, List.size_toArray, List.length_cons, List.length_nil, Nat.reduceAdd, Nat.reduceSub, Array.replicate_succ, Array.replicate_zero, List.push_toArray, List.append_toArray, List.nil_append, List.cons_append]
  have hq : ∀ (k : Nat) (cs : Array Value) (W : World), (binOp .eql 105 (.func (.func k) #[] cs) .nilFunc).run Tryz.prog W = .ok (.bool false) W := fun k cs W => by kernel_rfl
  clear hw5
  gi_wp2_with (refine ⟨trivial, ?_⟩; gi_at_call 80; refine (callsIn_wide.2 (signs_any s _)).mono ?_; rintro e w3 ⟨rfl, e3⟩; have e4 := e3.trans HW5.out.symm; subst e4; clear e3)
  simp only [Nat.add_assoc, Nat.reduceAdd]
  clear HW5
  refine wpIn_rangeFunc_ownG rfl (by omega) (gf := 128) (lb := #[.pointer (some ⟨w.heap.size + 4, 0, none⟩)]) rfl trivial (enters_of Tryz.func128 (by kernel_rfl) rfl)
    (signs_stops 8 (w.heap.size + 4) s (by omega) _ b4) keepK_t (keepK_b (by omega)) (Below.refl _ _) (fun _ => rfl)
    (fun (pre : List Sg) W => (((Boxed W w.heap.size 9 (.string ⟨#[]⟩) ∧ Boxed W (w.heap.size + 1) 3 (.int .i64 0)) ∧ Boxed W (w.heap.size + 2) 53 (.int .i64 0)) ∧ Bd (w.heap.size + 5) (w.heap.size + 3) (Lib.byteCells (pre.flatMap valS)) W) ∧ ((Below w.heap.size w W ∧ w.heap.size + 5 ≤ W.heap.size) ∧ ∀ y ∈ pre, bad y = false))
    (fun c pre W => (((Boxed W w.heap.size 9 (.string ⟨#[]⟩) ∧ Boxed W (w.heap.size + 1) 3 (.int .i64 (lastAt pre : Int))) ∧ Boxed W (w.heap.size + 2) 53 (.int .i64 51)) ∧ ((Below w.heap.size w W ∧ w.heap.size + 5 ≤ W.heap.size) ∧ (c = .ret ∧ ∃ p x, pre = p ++ [x] ∧ bad x = true ∧ ∀ y ∈ p, bad y = false))))
    (OwnFrom.and (OwnFrom.and (OwnFrom.and (OwnFrom.and (Own.from (boxed_own _ _ _) _) (Own.from (boxed_own _ _ _) _)) (Own.from (boxed_own _ _ _) _)) (Own.from (bd_own _ _ (fun pre : List Sg => Lib.byteCells (pre.flatMap valS))) _)) (OwnFrom.and (OwnFrom.and (ownFrom_below (Nat.le_refl _) (by omega)) (fun _ _ _ _ h hg _ => Nat.le_trans h hg.size)) (ownFrom_pure _ _)))
    (fun c => OwnFrom.and (OwnFrom.and (OwnFrom.and (Own.from (boxed_own _ _ _) _) (Own.from (boxed_own _ _ (fun pre : List Sg => .int .i64 (lastAt pre : Int))) _)) (Own.from (boxed_own _ _ _) _)) (OwnFrom.and (OwnFrom.and (ownFrom_below (Nat.le_refl _) (by omega)) (fun _ _ _ _ h hg _ => Nat.le_trans h hg.size)) (ownFrom_pure _ (fun pre : List Sg => c = .ret ∧ ∃ p x, pre = p ++ [x] ∧ bad x = true ∧ ∀ y ∈ p, bad y = false))))
    ⟨⟨⟨⟨b0, b1⟩, b2⟩, b3⟩, ⟨⟨hB5, by omega⟩, fun y hy => by cases hy⟩⟩
    (fun x : Sg => { tmps := #[.string s, undef, .pointer (some ⟨w.heap.size, 0, none⟩), .pointer (some ⟨w.heap.size + 1, 0, none⟩), .pointer (some ⟨w.heap.size + 2, 0, none⟩), .pointer (some ⟨w.heap.size + 3, 0, none⟩), .int .i64 (x.at_ : Int), .string (str x.z), .string s, .func (.func 128) #[] #[.pointer (some ⟨w.heap.size + 4, 0, none⟩)], .int .i64 (x.at_ : Int), .string (str x.z), undef, undef, undef, undef, undef, undef, undef, undef, undef, undef, undef, undef, undef], defers := [] }) ?assign ?body ?done ?stop
  case assign =>
    intro l x W K hK
    unfold encS
    gi_wp2
    exact hK
  case body =>
    rintro l pre x W ⟨⟨⟨⟨c0, c1⟩, c2⟩, c3⟩, ⟨⟨hB, hS⟩, hp⟩⟩ hlt
    obtain ⟨p, z, ok⟩ := x
    dsimp only
    have hvl : (Lib.byteCells (pre.flatMap valS)).length = pre.length := by rw [cells_len, vals_len]
    rcases ok with ⟨h3, ht⟩ | ⟨h1, ht⟩
    · obtain ⟨a, b, c, rfl⟩ : ∃ a b c, z = [a, b, c] := by
        match z, h3 with
        | [a, b, c], _ => exact ⟨a, b, c, rfl⟩
      have hs3 : str [a, b, c] = ⟨#[a, b, c]⟩ := rfl
      rw [hs3]
      have hh : (hx b && hx c) = true := by simp [trip] at ht; simp [ht.2]
      have HT : Hid (∀ W, Calls Tryz.prog 81 #[.string ⟨#[a, b, c]⟩] W fun e W' => e = .returned (.bool true) ∧ Below W.heap.size W W') := fun W => by
        have h := isTriple_any ⟨#[a, b, c]⟩ W
        have e : (decide ((⟨#[a, b, c]⟩ : ByteArray).size = 3) && trip (⟨#[a, b, c]⟩ : ByteArray).data.toList) = true := by rw [show trip (⟨#[a, b, c]⟩ : ByteArray).data.toList = true from ht]; rfl
        rw [e] at h
        exact h
      have HV : Hid (∀ W, _) := fun W => tripleByte_any a b c hh W
      have hvx : valS ⟨p, [a, b, c], .inl ⟨h3, ht⟩⟩ = [byteOf b c] := rfl
      gi_wp2_with (first | (refine ⟨trivial, ?_⟩; gi_at_call 81; refine ((callsIn_wide.2 (HT.out _)).inRound l).mono ?_; rintro e W1 ⟨rfl, k1⟩) | (refine ⟨trivial, ?_⟩; gi_at_call 83; refine ((callsIn_wide.2 (HV.out _)).inRound l).mono ?_; rintro e W2 ⟨rfl, k2⟩) | (refine ⟨trivial, ?_⟩; gi_at_call 82; refine ((callsIn_wide.2 (WriteByte_bd (w.heap.size + 5) (w.heap.size + 3) _ _ _ ((c3.below k1).below k2) (by rw [hvl]; omega) (Nat.le_trans hS (Nat.le_trans k1.size k2.size)))).inRound l).mono ?_; rintro e W3 ⟨rfl, hB3, hF3⟩))
      have hF : Fr (w.heap.size + 5) (w.heap.size + 3) W W3 := ((Fr.of_below k1 hS).trans (Fr.of_below k2 (Nat.le_trans hS k1.size))).trans hF3
      refine ⟨hF.others.from _, hF.keep (by omega) (by omega), ⟨⟨⟨box_fr c0 hF (by omega) (by omega), box_fr c1 hF (by omega) (by omega)⟩, box_fr c2 hF (by omega) (by omega)⟩, ?_⟩, ⟨⟨hB.trans (hF.below (by omega) (by omega)), Nat.le_trans hS hF.size⟩, ?_⟩⟩
      · rw [List.flatMap_append, cells_app, List.flatMap_cons, hvx]
        exact hB3
      · intro y hy
        rcases List.mem_append.1 hy with h | h
        · exact hp y h
        · simp at h; subst h; simp [bad]
    · obtain ⟨a, rfl⟩ : ∃ a, z = [a] := by
        match z, h1 with
        | [a], _ => exact ⟨a, rfl⟩
      have HT : Hid (∀ W, Calls Tryz.prog 81 #[.string (str [a])] W fun e W' => e = .returned (.bool false) ∧ Below W.heap.size W W') := fun W => isTriple_any (str [a]) W
      by_cases ha : a = 37
      · subst ha
        have hs1 : str [37] = ⟨#[37]⟩ := rfl
        rw [hs1] at HT ⊢
        gi_wp2_with (refine ⟨trivial, ?_⟩; gi_at_call 81; refine ((callsIn_wide.2 (HT.out _)).inRound l).mono ?_; rintro e W1 ⟨rfl, k1⟩; have d0 := box_below c0 k1 (by omega); have d1 := box_below c1 k1 (by omega); have d2 := box_below c2 k1 (by omega); have e0 := d0.cell; have e1 := d1.cell; have e2 := d2.cell; have f0 := d0.frozen; have f1 := d1.frozen; have f2 := d2.frozen)
        have hk : Below w.heap.size w W1 := hB.trans (k1.mono (by omega))
        refine ⟨((((Fr.of_below (b := 0) k1 (Nat.le_refl _)).others.trans (KeepsOthers.setCell _ _ _)).trans (KeepsOthers.setCell _ _ _)).trans (KeepsOthers.setCell _ _ _)).from _, ⟨⟨⟨((d0.set _).other (by omega) _).other (by omega) _, ?_⟩, ((d2.other (by omega) _).other (by omega) _).set _⟩, ⟨⟨((hk.setCell (p := ⟨w.heap.size, 0, none⟩) (Nat.le_refl _) _).setCell (p := ⟨w.heap.size + 1, 0, none⟩) (by simp) _).setCell (p := ⟨w.heap.size + 2, 0, none⟩) (by simp) _, ?_⟩, ⟨rfl, pre, _, rfl, rfl, hp⟩⟩⟩⟩
        · rw [lastAt_app]
          exact ((d1.other (by omega) _).set _).other (by omega) _
        · have := k1.size
          simp [World.setCell]
          omega
      · have hne : ((str [a]).toList == [37]) = false := by rw [ByteArray.toList_eq]; simp [str, ha]
        have hvx : valS ⟨p, [a], .inr ⟨h1, ht⟩⟩ = [a] := rfl
        have hz1 : (str [a]).size = 1 := rfl
        gi_wp2_with (first | (refine ⟨trivial, ?_⟩; gi_at_call 81; refine ((callsIn_wide.2 (HT.out _)).inRound l).mono ?_; rintro e W1 ⟨rfl, k1⟩) | (refine ⟨trivial, ?_⟩; gi_at_call 44; refine ((callsIn_wide.2 (WriteString_bd (w.heap.size + 5) (w.heap.size + 3) _ _ _ (c3.below k1) (by rw [hvl, hz1]; omega) (Nat.le_trans hS k1.size))).inRound l).mono ?_; rintro e W3 ⟨rfl, hB3, hF3⟩))
        have hF : Fr (w.heap.size + 5) (w.heap.size + 3) W W3 := (Fr.of_below k1 hS).trans hF3
        refine ⟨hF.others.from _, hF.keep (by omega) (by omega), ⟨⟨⟨box_fr c0 hF (by omega) (by omega), box_fr c1 hF (by omega) (by omega)⟩, box_fr c2 hF (by omega) (by omega)⟩, ?_⟩, ⟨⟨hB.trans (hF.below (by omega) (by omega)), Nat.le_trans hS hF.size⟩, ?_⟩⟩
        · rw [List.flatMap_append, cells_app, List.flatMap_cons, hvx]
          rw [cells_str] at hB3
          exact hB3
        · intro y hy
          rcases List.mem_append.1 hy with h | h
          · exact hp y h
          · simp at h; subst h; simp [bad, ha]
  case done =>
    rintro D ys W hD rfl ⟨⟨⟨⟨c0, c1⟩, c2⟩, c3⟩, ⟨⟨hB, hS⟩, hp⟩⟩ hK
    have hA := decR_all s.data.toList hp
    gi_wp2_with (refine ⟨trivial, ?_⟩; gi_at_call 46; refine (callsIn_wide.2 (String_bd (w.heap.size + 5) (w.heap.size + 3) _ _ c3 hS)).mono ?_; rintro e W1 ⟨rfl, k1, ho⟩; have k1' : Below (w.heap.size + 3) W W1 := k1.mono (by omega); have d0 := box_below c0 k1' (by omega); have d1 := box_below c1 k1' (by omega); have d2 := box_below c2 k1' (by omega); have e0 := d0.cell; have e1 := d1.cell; have e2 := d2.cell; have f0 := d0.frozen; have f1 := d1.frozen; have f2 := d2.frozen)
    have hK1 : W1.heap[D]? = some (Obj.deferred (some [])) := ho D _ hK (by intro e; cases e; omega) (by intro c fz e; cases e)
    have hk : Below w.heap.size w W1 := hB.trans (k1.mono (by omega))
    have g0 := ((d0.set (.string (str ((sg 0 s.data.toList).flatMap valS)))).other (show w.heap.size ≠ w.heap.size + 1 by omega) (.int .i64 0)).other (show w.heap.size ≠ w.heap.size + 2 by omega) (.int .i64 0)
    have g1 := ((d1.other (show w.heap.size + 1 ≠ w.heap.size by omega) (.string (str ((sg 0 s.data.toList).flatMap valS)))).set (.int .i64 0)).other (show w.heap.size + 1 ≠ w.heap.size + 2 by omega) (.int .i64 0)
    have g2 := ((d2.other (show w.heap.size + 2 ≠ w.heap.size by omega) (.string (str ((sg 0 s.data.toList).flatMap valS)))).other (show w.heap.size + 2 ≠ w.heap.size + 1 by omega) (.int .i64 0)).set (.int .i64 0)
    have hkb := ((hk.setCell (p := ⟨w.heap.size, 0, none⟩) (Nat.le_refl _) (.string (str ((sg 0 s.data.toList).flatMap valS)))).setCell (p := ⟨w.heap.size + 1, 0, none⟩) (by simp) (.int .i64 0)).setCell (p := ⟨w.heap.size + 2, 0, none⟩) (by simp) (.int .i64 0)
    have hK2 := (KeepsOthers.setCell ((W1.setCell ⟨w.heap.size, 0, none⟩ (.string (str ((sg 0 s.data.toList).flatMap valS)))).setCell ⟨w.heap.size + 1, 0, none⟩ (.int .i64 0)) ⟨w.heap.size + 2, 0, none⟩ (.int .i64 0)).same D _ ((KeepsOthers.setCell _ _ _).same D _ ((KeepsOthers.setCell _ _ _).same D _ hK1 rfl) rfl) rfl
    generalize (((W1.setCell ⟨w.heap.size, 0, none⟩ (.string (str ((sg 0 s.data.toList).flatMap valS)))).setCell ⟨w.heap.size + 1, 0, none⟩ (.int .i64 0)).setCell ⟨w.heap.size + 2, 0, none⟩ (.int .i64 0)) = W2 at *
    refine ⟨by simp, .inl ⟨_, _, rfl, run_takeDeferred hK2, ?_⟩⟩
    have q0 := box_put g0 (show w.heap.size ≠ D by omega) (.deferred none)
    have q1 := box_put g1 (show w.heap.size + 1 ≠ D by omega) (.deferred none)
    have q2 := box_put g2 (show w.heap.size + 2 ≠ D by omega) (.deferred none)
    rw [hA]
    exact ⟨.tuple #[.string (str ((sg 0 s.data.toList).flatMap valS)), .int .i64 0, .int .i64 0], by simp [results, Tryz.results47, go_sem, q0, q1, q2], rfl, below_put hkb (by omega) _⟩
  case stop =>
    rintro D c pre W hD ⟨rest, hrest⟩ ⟨⟨⟨c0, c1⟩, c2⟩, ⟨⟨hB, hS⟩, ⟨rfl, p, x, rfl, hbx, hp⟩⟩⟩ hK
    rw [lastAt_app] at c1
    have hR := decR_at s.data.toList p x rest hrest hp hbx
    gi_wp2
    refine ⟨by simp, .inl ⟨_, _, rfl, run_takeDeferred hK, ?_⟩⟩
    have q0 := box_put c0 (show w.heap.size ≠ D by omega) (.deferred none)
    have q1 := box_put c1 (show w.heap.size + 1 ≠ D by omega) (.deferred none)
    have q2 := box_put c2 (show w.heap.size + 2 ≠ D by omega) (.deferred none)
    rw [hR]
    exact ⟨.tuple #[.string ⟨#[]⟩, .int .i64 (x.at_ : Int), .int .i64 51], by simp [results, Tryz.results47, go_sem, q0, q1, q2], rfl, below_put hB (by omega) _⟩

end Tg
end Go.Proofs.YticncpjpkgdnlaaGreatDoor
