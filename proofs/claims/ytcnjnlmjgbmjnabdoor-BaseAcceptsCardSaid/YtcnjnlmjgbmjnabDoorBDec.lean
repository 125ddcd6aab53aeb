/-
  base.appendBytes, base.Decode.
-/
import Derived.Test.YtcnjnlmjgbmjnabDoorBFits
set_option linter.unusedVariables false
set_option linter.unusedSimpArgs false
namespace Go.Proofs.YtcnjnlmjgbmjnabDoor
open Go.RowKit
namespace Bs

def ac6 (g : List UInt8) (k : Nat) : Nat := (if 0 < k then nu (g.getD 0 0) * 262144 else 0) + (if 1 < k then nu (g.getD 1 0) * 4096 else 0) + (if 2 < k then nu (g.getD 2 0) * 64 else 0) + (if 3 < k then nu (g.getD 3 0) else 0)
theorem ac6_lt (g : List UInt8) (k : Nat) : ac6 g k < 16777216 := by
  unfold ac6
  have := nu_lt (g.getD 0 0)
  have := nu_lt (g.getD 1 0)
  have := nu_lt (g.getD 2 0)
  have := nu_lt (g.getD 3 0)
  (repeat' split) <;> omega
theorem ac6_0 (l : List UInt8) : bits .or .u32 ((ac6 l 0 : Nat) : Int) ((nu (l.getD 0 0) : Int) * 262144) = ((ac6 l 1 : Nat) : Int) := by
  have h := nu_lt (l.getD 0 0)
  have e := or_u32 (ac6 l 0) (nu (l.getD 0 0) * 262144) 24 (by unfold ac6; simp) (by omega) (by have := ac6_lt l 0; omega) (by omega)
  rw [Int.natCast_mul] at e
  refine Eq.trans e ?_
  unfold ac6
  simp
theorem ac6_1 (l : List UInt8) : bits .or .u32 ((ac6 l 1 : Nat) : Int) ((nu (l.getD 1 0) : Int) * 4096) = ((ac6 l 2 : Nat) : Int) := by
  have h := nu_lt (l.getD 1 0)
  have e := or_u32 (ac6 l 1) (nu (l.getD 1 0) * 4096) 18 (by unfold ac6; simp) (by omega) (by have := ac6_lt l 1; omega) (by omega)
  rw [Int.natCast_mul] at e
  refine Eq.trans e ?_
  unfold ac6
  simp
theorem ac6_2 (l : List UInt8) : bits .or .u32 ((ac6 l 2 : Nat) : Int) ((nu (l.getD 2 0) : Int) * 64) = ((ac6 l 3 : Nat) : Int) := by
  have h := nu_lt (l.getD 2 0)
  have e := or_u32 (ac6 l 2) (nu (l.getD 2 0) * 64) 12 (by unfold ac6; simp; omega) (by omega) (by have := ac6_lt l 2; omega) (by omega)
  rw [Int.natCast_mul] at e
  refine Eq.trans e ?_
  unfold ac6
  simp
theorem ac6_3 (l : List UInt8) : bits .or .u32 ((ac6 l 3 : Nat) : Int) (nu (l.getD 3 0) : Int) = ((ac6 l 4 : Nat) : Int) := by
  have h := nu_lt (l.getD 3 0)
  have e := or_u32 (ac6 l 3) (nu (l.getD 3 0)) 6 (by unfold ac6; simp; omega) (by omega) (by have := ac6_lt l 3; omega) (by omega)
  refine Eq.trans e ?_
  unfold ac6
  simp
/-- The bytes of two to four signs. -/
def byo (g : List UInt8) : List UInt8 := [UInt8.ofNat (ac6 g g.length / 65536 % 256), UInt8.ofNat (ac6 g g.length / 256 % 256), UInt8.ofNat (ac6 g g.length % 256)].take (g.length - 1)
/-- How many signs stand ahead of the '='. -/
def gl (c d : UInt8) : Nat := if c = 61 then 2 else if d = 61 then 3 else 4
theorem byo_g4 (a b c d : UInt8) : byo ([a, b, c, d].take (gl c d)) = g4 a b c d := by
  have := nu_lt a
  have := nu_lt b
  have := nu_lt c
  have := nu_lt d
  unfold gl g4
  by_cases hc : c = 61
  · rw [if_pos hc, if_pos hc]
    show [UInt8.ofNat (ac6 [a, b] 2 / 65536 % 256)] = [UInt8.ofNat (nu a * 4 + nu b / 16)]
    have e : ac6 [a, b] 2 / 65536 % 256 = nu a * 4 + nu b / 16 := by simp [ac6]; omega
    rw [e]
  · rw [if_neg hc, if_neg hc]
    by_cases hd : d = 61
    · rw [if_pos hd, if_pos hd]
      show [UInt8.ofNat (ac6 [a, b, c] 3 / 65536 % 256), UInt8.ofNat (ac6 [a, b, c] 3 / 256 % 256)] = [UInt8.ofNat (nu a * 4 + nu b / 16), UInt8.ofNat (nu b % 16 * 16 + nu c / 4)]
      have e : ac6 [a, b, c] 3 / 65536 % 256 = nu a * 4 + nu b / 16 := by simp [ac6]; omega
      have e2 : ac6 [a, b, c] 3 / 256 % 256 = nu b % 16 * 16 + nu c / 4 := by simp [ac6]; omega
      rw [e, e2]
    · rw [if_neg hd, if_neg hd]
      show [UInt8.ofNat (ac6 [a, b, c, d] 4 / 65536 % 256), UInt8.ofNat (ac6 [a, b, c, d] 4 / 256 % 256), UInt8.ofNat (ac6 [a, b, c, d] 4 % 256)] = [UInt8.ofNat (nu a * 4 + nu b / 16), UInt8.ofNat (nu b % 16 * 16 + nu c / 4), UInt8.ofNat (nu c % 4 * 64 + nu d)]
      have e : ac6 [a, b, c, d] 4 / 65536 % 256 = nu a * 4 + nu b / 16 := by simp [ac6]; omega
      have e2 : ac6 [a, b, c, d] 4 / 256 % 256 = nu b % 16 * 16 + nu c / 4 := by simp [ac6]; omega
      have e3 : ac6 [a, b, c, d] 4 % 256 = nu c % 4 * 64 + nu d := by simp [ac6]; omega
      rw [e, e2, e3]
theorem byo_take (g : List UInt8) (k : Nat) (h : k < g.length - 1) (h4 : g.length ≤ 4) : (byo g).take (k + 1) = (byo g).take k ++ [UInt8.ofNat (ac6 g g.length / 2 ^ (16 - 8 * k) % 256)] := by
  unfold byo
  rcases (show k = 0 ∧ (g.length = 2 ∨ g.length = 3 ∨ g.length = 4) ∨ k = 1 ∧ (g.length = 3 ∨ g.length = 4) ∨ k = 2 ∧ g.length = 4 by omega) with ⟨rfl, e | e | e⟩ | ⟨rfl, e | e⟩ | ⟨rfl, e⟩ <;> rw [e] <;> simp
theorem byo_len (g : List UInt8) (h4 : g.length ≤ 4) : (byo g).length = g.length - 1 := by
  unfold byo
  simp
  omega

set_option maxRecDepth 100000 in
set_option maxHeartbeats 1000000 in
theorem appendBytes_any (B : Nat) (v : Value) (t : List UInt8) (a b c d : UInt8) (F4 : Four a b c d) (w : World) (hown : Own B v t w) (hlen : t.length + 3 ≤ 140737488355328) (hB : B ≤ w.heap.size) :
    Calls Tryd.prog 17 #[v, .string (str [a, b, c, d])] w fun e w' => ∃ v', e = .returned v' ∧ Own B v' (t ++ g4 a b c d) w' ∧ Below B w w' := by
  have HO : Hid (Own B v t w) := hown
  clear hown
  have HT : Hid (Calls Tryd.prog 26 #[.string (str [a, b, c, d]), .string ⟨#[61]⟩] w fun e w' => e = .returned (.string (str ([a, b, c, d].take (gl c d)))) ∧ w' = w) := by
    have hb := num_ne F4.nb
    refine TrimRight_any [a, b, c, d] (gl c d) ?_ rfl ?_ ?_ w
    · unfold gl; split <;> (try split) <;> simp
    · intro j hj hl
      simp at hl
      unfold gl at hj
      by_cases hc : c = 61
      · rw [if_pos hc] at hj
        have hd : d = 61 := by
          rcases F4.hc with h | h | h
          · exact h.2.1
          · exact h.2.1
          · exact absurd hc (num_ne h.1)
        rcases (show j = 2 ∨ j = 3 by omega) with rfl | rfl
        · exact hc
        · exact hd
      · rw [if_neg hc] at hj
        by_cases hd : d = 61
        · rw [if_pos hd] at hj
          obtain rfl : j = 3 := by omega
          exact hd
        · rw [if_neg hd] at hj
          omega
    · right
      unfold gl
      by_cases hc : c = 61
      · rw [if_pos hc]; exact hb
      · rw [if_neg hc]
        by_cases hd : d = 61
        · rw [if_pos hd]; exact hc
        · rw [if_neg hd]; exact hd
  have HG : Hid (byo ([a, b, c, d].take (gl c d)) = g4 a b c d) := byo_g4 a b c d
  have hgl : ([a, b, c, d].take (gl c d)).length = gl c d ∧ 2 ≤ gl c d ∧ gl c d ≤ 4 := by
    unfold gl
    by_cases hc : c = 61
    · rw [if_pos hc]; simp
    · rw [if_neg hc]
      by_cases hd : d = 61
      · rw [if_pos hd]; simp
      · rw [if_neg hd]; simp
  have HN : Hid (∀ j, j < ([a, b, c, d].take (gl c d)).length → num (([a, b, c, d].take (gl c d)).getD j 0) = (nu (([a, b, c, d].take (gl c d)).getD j 0) : Int)) := by
    intro j hj
    rw [hgl.1] at hj
    refine (nu_int ?_).symm
    rw [List.getD_eq_getElem?_getD, List.getElem?_take, if_pos hj, ← List.getD_eq_getElem?_getD]
    have hj4 : j < 4 := by omega
    unfold gl at hj
    rcases (show j = 0 ∨ j = 1 ∨ j = 2 ∨ j = 3 by omega) with rfl | rfl | rfl | rfl
    · exact F4.na
    · exact F4.nb
    · rcases F4.hc with h | h | h
      · rw [if_pos h.1] at hj; omega
      · exact h.1
      · exact h.1
    · rcases F4.hc with h | h | h
      · rw [if_pos h.1] at hj; omega
      · rw [if_neg (num_ne h.1), if_pos h.2.1] at hj; omega
      · exact h.2
  obtain ⟨g2, g3, g5⟩ := hgl
  rw [← g2] at g3 g5
  clear F4 g2
  go_enter Tryd.func17, Tryd.ntmps17
  go_wp2_with fail
  refine HT.out.mono ?_
  clear HT
  rintro e w' ⟨rfl, hww⟩
  rw [hww]
  clear hww w'
  generalize [a, b, c, d].take (gl c d) = g at *
  have hs : (str g).size = g.length := str_size g
  have hby : ∀ (k : Nat) (h : k < (str g).size), ((str g)[k]'h) = g.getD k 0 := fun k h => by rw [← at_lt _ k h, str_list]
  go_wp2
  go_loop [5, 12] (fun b i => ∃ k : Nat, k ≤ g.length ∧ i = .int .i64 k ∧ b = .int .u32 ((ac6 g k : Nat) : Int)) (fun _ i => g.length - (intOf i).toNat)
  case atStart => exact ⟨0, by omega, rfl, rfl⟩
  case round =>
    obtain ⟨k, hk, rfl, rfl⟩ := hrel
    by_cases hlt : k < g.length
    · have HA : Hid (bits .or .u32 ((ac6 g 0 : Nat) : Int) ((nu (g.getD 0 0) : Int) * 262144) = ((ac6 g 1 : Nat) : Int) ∧ bits .or .u32 ((ac6 g 1 : Nat) : Int) ((nu (g.getD 1 0) : Int) * 4096) = ((ac6 g 2 : Nat) : Int) ∧ bits .or .u32 ((ac6 g 2 : Nat) : Int) ((nu (g.getD 2 0) : Int) * 64) = ((ac6 g 3 : Nat) : Int) ∧ bits .or .u32 ((ac6 g 3 : Nat) : Int) (nu (g.getD 3 0) : Int) = ((ac6 g 4 : Nat) : Int)) := ⟨ac6_0 g, ac6_1 g, ac6_2 g, ac6_3 g⟩
      have HNk : Hid (num (g.getD k 0) = (nu (g.getD k 0) : Int)) := HN.out k hlt
      have hu := nu_lt (g.getD k 0)
      have hal := ac6_lt g k
      have hbk := hby k
      clear hby
      rcases (show k = 0 ∨ k = 1 ∨ k = 2 ∨ k = 3 by omega) with rfl | rfl | rfl | rfl
      · generalize g.getD 0 0 = u at *
        generalize ac6 g 0 = A0 at *
        go_wp2_with fail
        refine (number_any u _).mono ?_
        rintro e w2 ⟨rfl, rfl⟩
        rw [HNk.out]
        generalize nu u = q at *
        go_wp2
        exact ⟨⟨1, by omega, rfl, by rw [HA.out.1]⟩, by simp [intOf]; omega⟩
      · generalize g.getD 1 0 = u at *
        generalize ac6 g 1 = A0 at *
        go_wp2_with fail
        refine (number_any u _).mono ?_
        rintro e w2 ⟨rfl, rfl⟩
        rw [HNk.out]
        generalize nu u = q at *
        go_wp2
        exact ⟨⟨2, by omega, rfl, by rw [HA.out.2.1]⟩, by simp [intOf]; omega⟩
      · generalize g.getD 2 0 = u at *
        generalize ac6 g 2 = A0 at *
        go_wp2_with fail
        refine (number_any u _).mono ?_
        rintro e w2 ⟨rfl, rfl⟩
        rw [HNk.out]
        generalize nu u = q at *
        go_wp2
        exact ⟨⟨3, by omega, rfl, by rw [HA.out.2.2.1]⟩, by simp [intOf]; omega⟩
      · generalize g.getD 3 0 = u at *
        generalize ac6 g 3 = A0 at *
        go_wp2_with fail
        refine (number_any u _).mono ?_
        rintro e w2 ⟨rfl, rfl⟩
        rw [HNk.out]
        generalize nu u = q at *
        go_wp2
        exact ⟨⟨4, by omega, rfl, by rw [HA.out.2.2.2]⟩, by simp [intOf]; omega⟩
    · obtain rfl : k = g.length := by omega
      have HE : Hid (∀ k, k < g.length - 1 → (byo g).take (k + 1) = (byo g).take k ++ [UInt8.ofNat (ac6 g g.length / 2 ^ (16 - 8 * k) % 256)]) := fun k hk => byo_take g k hk g5
      have HL : Hid ((byo g).length = g.length - 1) := byo_len g g5
      have hal := ac6_lt g g.length
      generalize ac6 g g.length = A at *
      clear hby
      go_wp2
      go_loopw [0, 30] (fun v i wr => ∃ k : Nat, k ≤ g.length - 1 ∧ i = .int .i64 k ∧ Hid (Own B v (t ++ (byo g).take k) wr) ∧ Hid (Below B w wr)) (fun _ i _ => g.length - 1 - (intOf i).toNat)
      case atStart => exact ⟨0, by omega, rfl, (by simpa using HO.out : Own B v (t ++ (byo g).take 0) w), Below.refl _ _⟩
      case round =>
        obtain ⟨k, hk4, rfl, HV, HB⟩ := hrel
        have hsz := HB.out.size
        by_cases hk5 : k < g.length - 1
        · have hk6 : ((k : Nat) : Int) < ((g.length : Nat) : Int) - 1 := by omega
          have HN2 : Hid ((byo g).take (k + 1) = (byo g).take k ++ [UInt8.ofNat (A / 2 ^ (16 - 8 * k) % 256)]) := HE.out k hk5
          have HL2 : Hid ((t ++ (byo g).take k).length + 1 ≤ 140737488355328) := (by have := HL.out; simp; omega : (t ++ (byo g).take k).length + 1 ≤ 140737488355328)
          rcases (show k = 0 ∨ k = 1 ∨ k = 2 by omega) with rfl | rfl | rfl
          · have hq : ((A : Nat) : Int) / 65536 = ((UInt8.ofNat (A / 2 ^ (16 - 8 * 0) % 256)).toNat : Int) := by rw [ofNat_lt (by omega)]; omega
            generalize UInt8.ofNat (A / 2 ^ (16 - 8 * 0) % 256) = u at *
            go_wp2_with (at_builtin; go_must (refine wp_app rfl (.tmp 33) (.tmp 40) rfl B _ (t ++ (byo g).take 0) [u] _ _ (by simp [bv, hq]) rfl HV.out rfl HL2.out ?h2 ?_))
            case h2 => omega
            intro v' w' ho hb
            go_wp2
            go_roundw
            case rel => exact ⟨0 + 1, by omega, by go_num, (by rw [HN2.out, ← List.append_assoc]; simpa using ho.out : Own B v' (t ++ (byo g).take (0 + 1)) w'), (HB.out.trans hb.out)⟩
            case measure => simp [intOf]; omega
          · have hq : ((A : Nat) : Int) / 256 % 256 = ((UInt8.ofNat (A / 2 ^ (16 - 8 * 1) % 256)).toNat : Int) := by rw [ofNat_lt (by omega)]; omega
            generalize UInt8.ofNat (A / 2 ^ (16 - 8 * 1) % 256) = u at *
            go_wp2_with (at_builtin; go_must (refine wp_app rfl (.tmp 33) (.tmp 40) rfl B _ (t ++ (byo g).take 1) [u] _ _ (by simp [bv, hq]) rfl HV.out rfl HL2.out ?h2 ?_))
            case h2 => omega
            intro v' w' ho hb
            go_wp2
            go_roundw
            case rel => exact ⟨1 + 1, by omega, by go_num, (by rw [HN2.out, ← List.append_assoc]; simpa using ho.out : Own B v' (t ++ (byo g).take (1 + 1)) w'), (HB.out.trans hb.out)⟩
            case measure => simp [intOf]; omega
          · have hq : ((A : Nat) : Int) % 256 = ((UInt8.ofNat (A / 2 ^ (16 - 8 * 2) % 256)).toNat : Int) := by rw [ofNat_lt (by omega)]; omega
            generalize UInt8.ofNat (A / 2 ^ (16 - 8 * 2) % 256) = u at *
            go_wp2_with (at_builtin; go_must (refine wp_app rfl (.tmp 33) (.tmp 40) rfl B _ (t ++ (byo g).take 2) [u] _ _ (by simp [bv, hq]) rfl HV.out rfl HL2.out ?h2 ?_))
            case h2 => omega
            intro v' w' ho hb
            go_wp2
            go_roundw
            case rel => exact ⟨2 + 1, by omega, by go_num, (by rw [HN2.out, ← List.append_assoc]; simpa using ho.out : Own B v' (t ++ (byo g).take (2 + 1)) w'), (HB.out.trans hb.out)⟩
            case measure => simp [intOf]; omega
        · have hk6 : ¬ ((k : Nat) : Int) < ((g.length : Nat) : Int) - 1 := by omega
          go_wp2
          go_ret
          refine ⟨_, rfl, ?_, HB.out⟩
          have := HV.out
          rwa [List.take_of_length_le (by rw [HL.out]; omega), HG.out] at this

end Bs
end Go.Proofs.YtcnjnlmjgbmjnabDoor
