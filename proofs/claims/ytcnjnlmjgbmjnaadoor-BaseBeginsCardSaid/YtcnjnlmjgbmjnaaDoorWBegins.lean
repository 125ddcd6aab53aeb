/-
  The walk of BaseBegins.
-/
import Derived.Test.YtcnjnlmjgbmjnaaDoorBDec2
import Derived.Test.YtcnjnlmjgbmjnaaDoorBAwake
set_option linter.unusedVariables false
set_option linter.unusedSimpArgs false
namespace Go.Proofs.YtcnjnlmjgbmjnaaDoor
open Go.RowKit
namespace Bs

theorem cat_str (a b : List UInt8) : str a ++ str b = str (a ++ b) := by
  apply eq_list
  rw [ByteArray.data_append]
  simp [str]
theorem decR_of (l : List UInt8) : (okE (dec l) = true ∧ ∃ x, decR l = (x, 0, 0)) ∨ (okE (dec l) = false ∧ ∃ k : Nat, decR l = ([], (k : Int), 30)) := by
  cases h : dec l with
  | ok x => exact .inl ⟨rfl, x, decR_ok h⟩
  | error k => exact .inr ⟨rfl, k, decR_err h⟩
theorem any_take (p : List UInt8 → Bool) (ls : List (List UInt8)) (k : Nat) (h : k < ls.length) : (ls.take (k + 1)).any p = ((ls.take k).any p || p (ls.getD k [])) := by
  rw [List.take_add_one, List.getD_eq_getElem?_getD, List.getElem?_eq_getElem h, List.any_append]
  simp
theorem ends_le : ∀ k, k < 11 → (ends.getD k []).length ≤ 4 := by decide
theorem str_prefix (l : List UInt8) (k : Nat) : (str l).extract 0 k = str (l.take k) := by rw [str_extract]; rfl

/-- The ends lie in a block. -/
def Ends (w : World) (b : Nat) : Prop := ∀ k, k < 11 → w.cell? ⟨b, k, none⟩ = some (.string (str (ends.getD k [])))
theorem Ends.below {w w' : World} {b : Nat} (h : Ends w b) (hb : Below w.heap.size w w') : Ends w' b := fun k hk => (But.of_below hb).cell (h k hk) (fun e => by cases e)

attribute [local go_sem ↓] Go.wp_at_zero Go.wp_at_succ
set_option maxRecDepth 100000 in
set_option maxHeartbeats 2000000 in
theorem walk_BaseBegins (l : List UInt8) (w : World) (hl : l.length ≤ 140737488351232) :
    Calls Tryd.prog 6 #[.string (str l)] w fun e w' => e = .returned (.bool true) ∧ Below w.heap.size w w' := by
  have hs : (str l).size = l.length := str_size l
  go_enter Tryd.func6, Tryd.ntmps6
  go_wp2_with fail
  refine (Decode_any l (by omega) w).mono ?_
  rintro e w2 ⟨rfl, hb2⟩
  have HB2 : Hid (Below w.heap.size w w2) := hb2
  clear hb2
  cases hd : dec l with
  | ok x =>
    rw [decR_ok hd]
    clear hd
    go_wp2_with fail
    refine (awake_any w2).mono ?_
    rintro e w3 ⟨rfl, hb3⟩
    go_wp2
    go_ret
    exact ⟨rfl, bel_trans' HB2.out hb3⟩
  | error K =>
    rw [decR_err hd]
    have hK := dec_le l K hd
    have HS : Hid ((ends.any fun e => okE (dec (l.take K ++ e))) = true) := begins_some l K hd
    have HN : Hid (K < l.length → ∀ e x, dec (l.take (K + 1) ++ e) ≠ .ok x) := fun h e x => begins_bad l K hd h e x
    clear hd
    have hKn : decide (((K : Nat) : Int) < 0) = false := by rw [decide_eq_false_iff_not]; omega
    have hKm : decide (((l.length : Nat) : Int) < ((K : Nat) : Int)) = false := by rw [decide_eq_false_iff_not]; omega
    have hKq : decide (l.length < K) = false := by rw [decide_eq_false_iff_not]; omega
    have HE0 : Hid (Ends (w2.alloc (.cells #[.string ⟨#[]⟩, .string ⟨#[61]⟩, .string ⟨#[61, 61]⟩, .string ⟨#[65]⟩, .string ⟨#[65, 61]⟩, .string ⟨#[65, 61, 61]⟩, .string ⟨#[65, 65]⟩, .string ⟨#[65, 65, 61]⟩, .string ⟨#[65, 65, 61, 61]⟩, .string ⟨#[65, 65, 65]⟩, .string ⟨#[65, 65, 65, 65]⟩] 9)) w2.heap.size) := by
      intro k hk
      rw [cell_of_row _ _ _ _ _ _ (heap_alloc_new _ _)]
      have : ∀ k : Fin 11, (#[Value.string ⟨#[]⟩, .string ⟨#[61]⟩, .string ⟨#[61, 61]⟩, .string ⟨#[65]⟩, .string ⟨#[65, 61]⟩, .string ⟨#[65, 61, 61]⟩, .string ⟨#[65, 65]⟩, .string ⟨#[65, 65, 61]⟩, .string ⟨#[65, 65, 61, 61]⟩, .string ⟨#[65, 65, 65]⟩, .string ⟨#[65, 65, 65, 65]⟩] : Array Value)[k.val]? = some (.string (str (ends.getD k.val []))) := by
        intro ⟨k, hk⟩
        match k, hk with
        | 0, _ => rfl
        | 1, _ => rfl
        | 2, _ => rfl
        | 3, _ => rfl
        | 4, _ => rfl
        | 5, _ => rfl
        | 6, _ => rfl
        | 7, _ => rfl
        | 8, _ => rfl
        | 9, _ => rfl
        | 10, _ => rfl
      exact this ⟨k, hk⟩
    have HB3 : Hid (∀ o, Below w.heap.size w (w2.alloc o)) := fun o => HB2.out.alloc HB2.out.size _
    go_wp2
    go_loopw [7, 8] (fun g i wr => ∃ k : Nat, k ≤ 11 ∧ i = .int .i64 k ∧ g = .bool ((ends.take k).any fun e => okE (dec (l.take K ++ e))) ∧ Hid (Ends wr w2.heap.size) ∧ Hid (Below w.heap.size w wr)) (fun _ i _ => 11 - (intOf i).toNat)
    case atStart => exact ⟨0, by omega, rfl, rfl, HE0.out, HB3.out _⟩
    case round =>
      obtain ⟨k, hk, rfl, rfl, HE, HB⟩ := hrel
      clear HE0 HB3
      by_cases hlt : k < 11
      · have HA : Hid ((ends.take (k + 1)).any (fun e => okE (dec (l.take K ++ e))) = ((ends.take k).any (fun e => okE (dec (l.take K ++ e))) || okE (dec (l.take K ++ ends.getD k [])))) := any_take _ ends k hlt
        have hck : wr.drew.cell? ⟨w2.heap.size, k, none⟩ = some (.string (str (ends.getD k []))) := HE.out k hlt
        have hel := ends_le k hlt
        have HCK : Hid (∀ wx, Ends wx w2.heap.size → wx.drew.cell? ⟨w2.heap.size, k, none⟩ = some (.string (str (ends.getD k [])))) := fun wx h => h k hlt
        generalize ends.getD k [] = e at *
        have C1 : Hid (∀ w, Calls Tryd.prog 7 #[.string ((str l).extract 0 K ++ str e)] w fun e' w' => e' = .returned (.tuple #[.string (str (decR (l.take K ++ e)).1), .int .i64 (decR (l.take K ++ e)).2.1, .int .i64 (decR (l.take K ++ e)).2.2]) ∧ Below w.heap.size w w') := fun w => by
          rw [str_prefix, cat_str]
          exact Decode_any _ (by simp; omega) w
        have C2 : Hid (∀ w, Calls Tryd.prog 7 #[.string ((str l).extract 0 (K + 1) ++ str e)] w fun e' w' => e' = .returned (.tuple #[.string (str (decR (l.take (K + 1) ++ e)).1), .int .i64 (decR (l.take (K + 1) ++ e)).2.1, .int .i64 (decR (l.take (K + 1) ++ e)).2.2]) ∧ Below w.heap.size w w') := fun w => by
          rw [str_prefix, cat_str]
          exact Decode_any _ (by simp; omega) w
        have hx1 : ((str l).extract 0 K).size = K := by rw [str_prefix, str_size, List.length_take]; omega
        have hse : (str e).size = e.length := str_size e
        have hz1 : K + e.length ≤ 9223372036854775807 := by omega
        have hz2 : K + 1 + e.length ≤ 9223372036854775807 := by omega
        have hkk : ((k : Nat) : Int) < 11 := by omega
        have hKi : ((K : Nat) : Int) ≤ ((l.length : Nat) : Int) := by omega
        have hK0 : (0 : Int) ≤ ((K : Nat) : Int) := by omega
        generalize (ends.take k).any (fun e => okE (dec (l.take K ++ e))) = g at *
        go_wp2
        go_region_with (go_at_call 7; refine (C1.out _).mono ?_; rintro e' w3 ⟨rfl, hb3⟩)
        have HE3 : Hid (Ends w3 w2.heap.size) := Ends.below (w := wr.drew) HE.out hb3
        have HB3 : Hid (Below w.heap.size w w3) := bel_trans' HB.out.drew hb3
        clear hb3 C1 hck
        have hck3 : w3.drew.cell? ⟨w2.heap.size, k, none⟩ = some (.string (str e)) := HCK.out w3 HE3.out
        by_cases hKl : K < l.length
        · have HN2 : Hid (∃ j : Nat, decR (l.take (K + 1) ++ e) = ([], (j : Int), 30)) := by
            rcases decR_of (l.take (K + 1) ++ e) with ⟨h1, _⟩ | ⟨_, h2⟩
            · cases hx : dec (l.take (K + 1) ++ e) with
              | ok x => exact absurd hx (HN.out hKl e x)
              | error k => rw [hx] at h1; cases h1
            · exact h2
          have hx2 : ((str l).extract 0 (K + 1)).size = K + 1 := by rw [str_prefix, str_size, List.length_take]; omega
          have hKi2 : ((K : Nat) : Int) < ((l.length : Nat) : Int) := by omega
          have hK1 : (0 : Int) ≤ ((K : Nat) : Int) + 1 := by omega
          have hKt : (((K : Nat) : Int) + 1).toNat = K + 1 := by omega
          have hKw : IntKind.i64.wrap (((K : Nat) : Int) + 1) = ((K : Nat) : Int) + 1 := by rw [IntKind.wrap_i64]; omega
          have hKi3 : ((K : Nat) : Int) + 1 ≤ ((l.length : Nat) : Int) := by omega
          rcases decR_of (l.take K ++ e) with ⟨h1, x, h2⟩ | ⟨h1, j, h2⟩
          · have HA2 : Hid ((ends.take (k + 1)).any (fun e => okE (dec (l.take K ++ e))) = true) := (by rw [HA.out, h1, Bool.or_true] : _ = true)
            rw [h2]
            clear h1 h2
            go_wp2
            go_region_with (go_at_call 7; refine (C2.out _).mono ?_; rintro e' w4 ⟨rfl, hb4⟩)
            obtain ⟨j2, hj2⟩ := HN2.out
            rw [hj2]
            simp only [List.setIfInBounds_toArray, List.set_cons_succ, List.set_cons_zero]
            have HE4 : Hid (Ends w4 w2.heap.size) := Ends.below (w := w3.drew) HE3.out hb4
            have HB4 : Hid (Below w.heap.size w w4) := bel_trans' HB3.out.drew hb4
            clear hb4 hj2
            go_wp2
            go_roundw
            case rel => exact ⟨k + 1, by omega, by go_num, by rw [HA2.out], HE4.out, HB4.out⟩
            case measure => simp [intOf]; omega
          · have HA2 : Hid ((ends.take (k + 1)).any (fun e => okE (dec (l.take K ++ e))) = g) := (by rw [HA.out, h1, Bool.or_false] : _ = g)
            rw [h2]
            clear h1 h2
            go_wp2
            go_region_with (go_at_call 7; refine (C2.out _).mono ?_; rintro e' w4 ⟨rfl, hb4⟩)
            obtain ⟨j2, hj2⟩ := HN2.out
            rw [hj2]
            simp only [List.setIfInBounds_toArray, List.set_cons_succ, List.set_cons_zero]
            have HE4 : Hid (Ends w4 w2.heap.size) := Ends.below (w := w3.drew) HE3.out hb4
            have HB4 : Hid (Below w.heap.size w w4) := bel_trans' HB3.out.drew hb4
            clear hb4 hj2
            go_wp2
            go_roundw
            case rel => exact ⟨k + 1, by omega, by go_num, by rw [HA2.out], HE4.out, HB4.out⟩
            case measure => simp [intOf]; omega
        · have hKi2 : ¬ ((K : Nat) : Int) < ((l.length : Nat) : Int) := by omega
          rcases decR_of (l.take K ++ e) with ⟨h1, x, h2⟩ | ⟨h1, j, h2⟩
          · have HA2 : Hid ((ends.take (k + 1)).any (fun e => okE (dec (l.take K ++ e))) = true) := (by rw [HA.out, h1, Bool.or_true] : _ = true)
            rw [h2]
            clear h1 h2
            go_wp2
            go_roundw
            case rel => exact ⟨k + 1, by omega, by go_num, by rw [HA2.out], HE3.out, HB3.out⟩
            case measure => simp [intOf]; omega
          · have HA2 : Hid ((ends.take (k + 1)).any (fun e => okE (dec (l.take K ++ e))) = g) := (by rw [HA.out, h1, Bool.or_false] : _ = g)
            rw [h2]
            clear h1 h2
            go_wp2
            go_roundw
            case rel => exact ⟨k + 1, by omega, by go_num, by rw [HA2.out], HE3.out, HB3.out⟩
            case measure => simp [intOf]; omega
      · obtain rfl : k = 11 := by omega
        have HT : Hid ((ends.take 11).any (fun e => okE (dec (l.take K ++ e))) = true) := HS.out
        rw [HT.out]
        go_wp2
        go_ret
        exact ⟨rfl, HB.out⟩

end Bs
end Go.Proofs.YtcnjnlmjgbmjnaaDoor
