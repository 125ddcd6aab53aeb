/- Several texts as one. -/
import Derived.Test.YtjngpafokkjkdaaGreatDoorMgA
import Derived.Test.YtjngpafokkjkdaaGreatDoorMgC
import Derived.Lib.Strings
import Derived.Lib.Builder
import Derived.WalkMore
/-
  tag: isTagByte, front.
-/
set_option linter.unusedVariables false
set_option linter.unusedSimpArgs false
namespace Go.Proofs.YtjngpafokkjkdaaGreatDoor
open Go.RowKit
namespace Tt
open Oc

def inI (c : Int) : Bool := decide (32 < c ∧ c ≠ 34 ∧ c ≠ 127)
theorem inT_int (c : UInt8) : inT c = inI (c.toNat : Int) := by
  unfold inT inI
  rw [decide_eq_decide]
  omega
theorem inI_t {c : Int} (h : 32 < c ∧ c ≠ 34 ∧ c ≠ 127) : inI c = true := decide_eq_true h
theorem inI_f {c : Int} (h : ¬ (32 < c ∧ c ≠ 34 ∧ c ≠ 127)) : inI c = false := decide_eq_false h

set_option maxHeartbeats 400000 in
theorem isTagByte_any (c : Int) (h0 : 0 ≤ c) (h1 : c ≤ 255) (w : World) :
    Calls Tryz.prog 42 #[.int .u8 c] w fun e w' => e = .returned (.bool (inI c)) ∧ w' = w := by
  rcases (show c = 34 ∨ c = 127 ∨ c ≤ 32 ∨ (32 < c ∧ c ≠ 34 ∧ c ≠ 127) by omega) with rfl | rfl | h | ⟨h, h', h''⟩
  · go_enter Tryz.func42, Tryz.ntmps42
    go_wp2
    go_ret
    exact ⟨ret_bool (by decide), rfl⟩
  · go_enter Tryz.func42, Tryz.ntmps42
    go_wp2
    go_ret
    exact ⟨ret_bool (by decide), rfl⟩
  · go_enter Tryz.func42, Tryz.ntmps42
    go_wp2
    go_ret
    exact ⟨ret_bool (inI_f (by omega)).symm, rfl⟩
  · have g1 : (c != 34) = true := by simp; omega
    have g2 : (c != 127) = true := by simp; omega
    go_enter Tryz.func42, Tryz.ntmps42
    go_wp2
    go_ret
    exact ⟨ret_bool (inI_t (by omega)).symm, rfl⟩

set_option maxHeartbeats 400000 in
theorem rinside_any (c : Int) (h0 : 0 ≤ c) (h1 : c ≤ 255) (w : World) :
    Calls Tryz.prog 66 #[.int .u8 c] w fun e w' => e = .returned (.bool (inI c)) ∧ w' = w := by
  rcases (show c = 33 ∨ c = 34 ∨ c = 127 ∨ c ≤ 32 ∨ (35 ≤ c ∧ c ≤ 126) ∨ 128 ≤ c by omega) with rfl | rfl | rfl | h | ⟨h, h'⟩ | h
  · go_enter Tryz.func66, Tryz.ntmps66
    go_wp2
    go_ret
    exact ⟨ret_bool (by decide), rfl⟩
  · go_enter Tryz.func66, Tryz.ntmps66
    go_wp2
    go_ret
    exact ⟨ret_bool (by decide), rfl⟩
  · go_enter Tryz.func66, Tryz.ntmps66
    go_wp2
    go_ret
    exact ⟨ret_bool (by decide), rfl⟩
  · have g1 : (c == 33) = false := by simp; omega
    go_enter Tryz.func66, Tryz.ntmps66
    go_wp2
    go_ret
    exact ⟨ret_bool (by rw [inI_f (by omega)]; simp; omega), rfl⟩
  · have g1 : (c == 33) = false := by simp; omega
    go_enter Tryz.func66, Tryz.ntmps66
    go_wp2
    go_ret
    exact ⟨ret_bool (inI_t (by omega)).symm, rfl⟩
  · have g1 : (c == 33) = false := by simp; omega
    have g2 : decide (c ≤ 126) = false := by simp; omega
    go_enter Tryz.func66, Tryz.ntmps66
    go_wp2
    go_ret
    exact ⟨ret_bool (inI_t (by omega)).symm, rfl⟩

/-- A tag lies in a block. -/
def TB (T : Nat) (w : World) (g : Nat) (t : Tg1) : Prop := w.heap[g]? = some (.cells #[.bool t.1, .string (str t.2)] T (0, 0))
theorem TB.c0 {T : Nat} {w : World} {g : Nat} {t : Tg1} (h : TB T w g t) : w.cell? ⟨g, 0, none⟩ = some (.bool t.1) := by
  have := Lib.cell_of_heap h 0
  simpa using this
theorem TB.c1 {T : Nat} {w : World} {g : Nat} {t : Tg1} (h : TB T w g t) : w.cell? ⟨g, 1, none⟩ = some (.string (str t.2)) := by
  have := Lib.cell_of_heap h 1
  simpa using this
theorem TB.f {T : Nat} {w : World} {g : Nat} {t : Tg1} (h : TB T w g t) (j : Nat) : w.frozen? ⟨g, j, none⟩ = false := Lib.frozen_of_heap h j
theorem TB.lt {T : Nat} {w : World} {g : Nat} {t : Tg1} (h : TB T w g t) : g < w.heap.size := by
  rcases Nat.lt_or_ge g w.heap.size with h' | h'
  · exact h'
  · unfold TB at h; simp [Array.getElem?_eq_none h'] at h
theorem TB.set0 {T : Nat} {w : World} {g : Nat} {t : Tg1} (h : TB T w g t) (b : Bool) : TB T (w.setCell ⟨g, 0, none⟩ (.bool b)) g (b, t.2) := by
  unfold TB at h ⊢
  simp [World.setCell, Array.getElem?_modify, h]
theorem TB.set1 {T : Nat} {w : World} {g : Nat} {t : Tg1} (h : TB T w g t) (l : List UInt8) : TB T (w.setCell ⟨g, 1, none⟩ (.string (str l))) g (t.1, l) := by
  unfold TB at h ⊢
  simp [World.setCell, Array.getElem?_modify, h]
theorem TB.other {T : Nat} {w : World} {g : Nat} {t : Tg1} (h : TB T w g t) {p : Addr} (hp : p.block ≠ g) (v : Value) : TB T (w.setCell p v) g t := by
  unfold TB at h ⊢
  simp [World.setCell, Array.getElem?_modify, h, hp]
theorem TB.below {T : Nat} {w w' : World} {g : Nat} {t : Tg1} (h : TB T w g t) (b : Below w.heap.size w w') : TB T w' g t := by
  unfold TB at *
  rw [b.block g (TB.lt h)]
  exact h
theorem TB.alloc {T : Nat} {w : World} {g : Nat} {t : Tg1} (h : TB T w g t) (o : Obj) : TB T (w.alloc o) g t := h.below ((Below.refl _ w).alloc (Nat.le_refl _) _)

theorem str_ext (s : ByteArray) (b k : Nat) : s.extract b k = str ((s.data.toList.drop b).take (k - b)) := by
  rw [← Lib.extract_data, str_self]
theorem drop_byte (s : ByteArray) (k : Nat) (h : k < s.size) : s.data.toList.drop k = s.data.toList.getD k 0 :: s.data.toList.drop (k + 1) := by
  have hk : k < s.data.toList.length := by rw [size_list]; exact h
  rw [List.drop_eq_getElem_cons hk, List.getD_eq_getElem?_getD, List.getElem?_eq_getElem hk]
  rfl
theorem byte_eq {c : UInt8} {n : Nat} (hn : n < 256) (h : (c.toNat : Int) = n) : c = UInt8.ofNat n := by
  apply UInt8.toNat.inj
  rw [UInt8.toNat_ofNat']
  omega
theorem byte_ne {c : UInt8} {n : Nat} (hn : n < 256) (h : (c.toNat : Int) ≠ n) : c ≠ UInt8.ofNat n := by
  intro e
  apply h
  rw [e, UInt8.toNat_ofNat']
  omega

set_option maxRecDepth 100000 in
set_option maxHeartbeats 4000000 in
theorem front_any (s : ByteArray) (hs : s.size ≤ 4000000000) (w : World) :
    Calls Tryz.prog 26 #[.string s] w fun e w' => e = .returned (.tuple #[.agg #[.bool (frontM s.data.toList).1.1, .string (str (frontM s.data.toList).1.2)], .int .i64 ((frontM s.data.toList).2.1 : Nat), .bool (frontM s.data.toList).2.2]) ∧ Below w.heap.size w w' := by
  obtain ⟨w1, hw1⟩ : ∃ w1, w1 = w.alloc (.cells #[.bool false, .string ⟨#[]⟩] 26) := ⟨_, rfl⟩
  obtain ⟨w2, hw2⟩ : ∃ w2, w2 = w1.alloc (.cells #[.bool false, .string ⟨#[]⟩] 26) := ⟨_, rfl⟩
  have z1 : w1.heap.size = w.heap.size + 1 := by rw [hw1]; simp
  have z2 : w2.heap.size = w.heap.size + 2 := by rw [hw2]; simp; omega
  have HA : Hid (TB 26 w2 w.heap.size (false, [])) := (by
    have h1 : TB 26 w1 w.heap.size (false, []) := by rw [hw1]; exact heap_alloc_new w _
    rw [hw2]; exact h1.alloc _ : TB _ _ _ _)
  have HC : Hid (TB 26 w2 (w.heap.size + 1) (false, [])) := (by
    rw [hw2, ← z1]; exact heap_alloc_new w1 _ : TB _ _ _ _)
  have HB : Hid (Below w.heap.size w w2) := (by
    rw [hw2, hw1]; exact ((Below.refl _ w).alloc (Nat.le_refl _) _).alloc (by simp) _ : Below _ _ _)
  have hE : w.heap.size + 1 ≠ w.heap.size := by omega
  generalize hL : s.data.toList = L at *
  have HL : Hid (s.data.toList = L) := hL
  clear hL
  go_enter Tryz.func26, Tryz.ntmps26
  go_wp2
  go_step3
  go_wp2
  go_step3
  go_wp2
  rw [← hw1, ← hw2]
  go_loopw [6, 7, 8] (fun nx bg i wr => ∃ (n b k : Nat) (t : Tg1), n ≤ 4 ∧ b ≤ k ∧ k ≤ s.size ∧ nx = .int .i64 n ∧ bg = .int .i64 b ∧ i = .int .i64 k ∧ Hid (frontM L = walkM L (L.drop k) k n b t) ∧ Hid (TB 26 wr w.heap.size (false, [])) ∧ Hid (TB 26 wr (w.heap.size + 1) t) ∧ Hid (Below w.heap.size w wr)) (fun _ _ i _ => s.size - (intOf i).toNat)
  case atStart => exact ⟨0, 0, 0, (false, []), by omega, by omega, by omega, rfl, rfl, rfl, (rfl : frontM L = walkM L (L.drop 0) 0 0 0 (false, [])), HA, HC, HB⟩
  case round =>
    obtain ⟨n, b, k, t, hn, hbk, hk, rfl, rfl, rfl, hst, ha, hc, hb⟩ := hrel
    clear hw1 hw2 z1 z2 HA HC HB
    have c0 := hc.out.c0
    have c1 := hc.out.c1
    have f0 := hc.out.f 0
    have f1 := hc.out.f 1
    have a0 := ha.out.c0
    have a1 := ha.out.c1
    have g0 := ha.out.f 0
    have g1 := ha.out.f 1
    obtain ⟨tw, tl⟩ := t
    dsimp only at c0 c1 a0 a1
    by_cases hlt : k < s.size
    · have hdr : L.drop k = L.getD k 0 :: L.drop (k + 1) := by rw [← HL.out]; exact drop_byte s k hlt
      have hby0 : ((s[k].toNat : Nat) : Int) = ((L.getD k 0).toNat : Int) := by rw [← HL.out]; exact byt_at s k hlt
      rw [hdr] at hst
      have hex : Hid (s.extract b k = str ((L.drop b).take (k - b))) := by rw [← HL.out]; exact str_ext s b k
      have hcb := (L.getD k 0).toNat_lt
      clear hdr
      generalize L.getD k 0 = c at hst hby0 hcb
      generalize hR : L.drop (k + 1) = R at hst
      have HRR : Hid (L.drop (k + 1) = R) := hR
      clear hR
      generalize hci : (c.toNat : Int) = ci at hby0
      have HCI : Hid ((c.toNat : Int) = ci) := hci
      have hci0 : 0 ≤ ci := by omega
      have hci1 : ci ≤ 255 := by omega
      clear hci hcb
      rcases (show n = 0 ∨ n = 1 ∨ n = 2 ∨ n = 3 ∨ n = 4 by omega) with rfl | rfl | rfl | rfl | rfl
      · by_cases h87 : ci = 87
        · subst h87
          have hcv : c = 87 := byte_eq (n := 87) (by omega) HCI.out
          have HS : Hid (frontM L = walkM L (L.drop (k + 1)) (k + 1) 1 b (true, tl)) := by
            show _ = _
            rw [hst.out, HRR.out]
            simp [walkM, hcv]
          go_wp2
          go_roundw
          case rel => exact ⟨1, b, k + 1, (true, tl), by omega, by omega, by omega, rfl, by go_num, by go_num, HS, ha.out.other (p := ⟨w.heap.size + 1, 0, none⟩) hE _, hc.out.set0 true, hb.out.setCell (p := ⟨w.heap.size + 1, 0, none⟩) (by simp) _⟩
          case measure => simp [intOf]; omega
        · by_cases h34 : ci = 34
          · subst h34
            have hcv : c = 34 := byte_eq (n := 34) (by omega) HCI.out
            have HS : Hid (frontM L = walkM L (L.drop (k + 1)) (k + 1) 3 (k + 1) (tw, tl)) := by
              show _ = _
              rw [hst.out, HRR.out]
              simp [walkM, hcv]
            go_wp2
            go_roundw
            case rel => exact ⟨3, k + 1, k + 1, (tw, tl), by omega, by omega, by omega, rfl, by go_num, by go_num, HS, ha, hc, hb⟩
            case measure => simp [intOf]; omega
          · have n87 : ¬ c = 87 := byte_ne (n := 87) (by omega) (by rw [HCI.out]; omega)
            have q87 : (ci == 87) = false := by simp; omega
            have n34 : ¬ c = 34 := byte_ne (n := 34) (by omega) (by rw [HCI.out]; omega)
            have q34 : (ci == 34) = false := by simp; omega
            have HE : Hid (frontM L = ((tw, tl), k, false)) := by
              show _ = _
              rw [hst.out]
              simp [walkM, n87, n34]
            go_wp2
            try simp (config := { zetaDelta := true }) only [Exit.inBlock, Exit.then, Exit.noGoto_ret]
            refine bodyPost_ret (v := .tuple #[.agg #[.bool tw, .string (str tl)], .int .i64 (k : Nat), .bool false]) (by simp [results, Tryz.results26, go_sem, c0, c1, a0, a1]) rfl ?_
            rw [HE.out]
            exact ⟨rfl, (Below.setCell (p := ⟨w.heap.size, 1, none⟩) (Below.setCell (p := ⟨w.heap.size, 0, none⟩) hb.out (by simp) _) (by simp) _)⟩
      · by_cases h47 : ci = 47
        · subst h47
          have hcv : c = 47 := byte_eq (n := 47) (by omega) HCI.out
          have HS : Hid (frontM L = walkM L (L.drop (k + 1)) (k + 1) 2 b (tw, tl)) := by
            show _ = _
            rw [hst.out, HRR.out]
            simp [walkM, hcv]
          go_wp2
          go_roundw
          case rel => exact ⟨2, b, k + 1, (tw, tl), by omega, by omega, by omega, rfl, by go_num, by go_num, HS, ha, hc, hb⟩
          case measure => simp [intOf]; omega
        · have n47 : ¬ c = 47 := byte_ne (n := 47) (by omega) (by rw [HCI.out]; omega)
          have q47 : (ci == 47) = false := by simp; omega
          have HE : Hid (frontM L = ((tw, tl), k, false)) := by
            show _ = _
            rw [hst.out]
            simp [walkM, n47]
          go_wp2
          try simp (config := { zetaDelta := true }) only [Exit.inBlock, Exit.then, Exit.noGoto_ret]
          refine bodyPost_ret (v := .tuple #[.agg #[.bool tw, .string (str tl)], .int .i64 (k : Nat), .bool false]) (by simp [results, Tryz.results26, go_sem, c0, c1, a0, a1]) rfl ?_
          rw [HE.out]
          exact ⟨rfl, (Below.setCell (p := ⟨w.heap.size, 1, none⟩) (Below.setCell (p := ⟨w.heap.size, 0, none⟩) hb.out (by simp) _) (by simp) _)⟩
      · by_cases h34 : ci = 34
        · subst h34
          have hcv : c = 34 := byte_eq (n := 34) (by omega) HCI.out
          have HS : Hid (frontM L = walkM L (L.drop (k + 1)) (k + 1) 3 (k + 1) (tw, tl)) := by
            show _ = _
            rw [hst.out, HRR.out]
            simp [walkM, hcv]
          go_wp2
          go_roundw
          case rel => exact ⟨3, k + 1, k + 1, (tw, tl), by omega, by omega, by omega, rfl, by go_num, by go_num, HS, ha, hc, hb⟩
          case measure => simp [intOf]; omega
        · have n34 : ¬ c = 34 := byte_ne (n := 34) (by omega) (by rw [HCI.out]; omega)
          have q34 : (ci == 34) = false := by simp; omega
          have HE : Hid (frontM L = ((tw, tl), k, false)) := by
            show _ = _
            rw [hst.out]
            simp [walkM, n34]
          go_wp2
          try simp (config := { zetaDelta := true }) only [Exit.inBlock, Exit.then, Exit.noGoto_ret]
          refine bodyPost_ret (v := .tuple #[.agg #[.bool tw, .string (str tl)], .int .i64 (k : Nat), .bool false]) (by simp [results, Tryz.results26, go_sem, c0, c1, a0, a1]) rfl ?_
          rw [HE.out]
          exact ⟨rfl, (Below.setCell (p := ⟨w.heap.size, 1, none⟩) (Below.setCell (p := ⟨w.heap.size, 0, none⟩) hb.out (by simp) _) (by simp) _)⟩
      · by_cases h34 : ci = 34
        · subst h34
          have hcv : c = 34 := byte_eq (n := 34) (by omega) HCI.out
          have HS : Hid (frontM L = walkM L (L.drop (k + 1)) (k + 1) 4 b (tw, (L.drop b).take (k - b))) := by
            show _ = _
            rw [hst.out, HRR.out]
            simp [walkM, hcv]
          have hcut : Hid (TB 26 (wr.setCell ⟨w.heap.size + 1, 1, none⟩ (.string (s.extract b k))) (w.heap.size + 1) (tw, (L.drop b).take (k - b))) := (by rw [hex.out]; exact hc.out.set1 _ : TB _ _ _ _)
          go_wp2
          go_roundw
          case rel => exact ⟨4, b, k + 1, (tw, (L.drop b).take (k - b)), by omega, by omega, by omega, rfl, by go_num, by go_num, HS, ha.out.other (p := ⟨w.heap.size + 1, 1, none⟩) hE _, hcut, hb.out.setCell (p := ⟨w.heap.size + 1, 1, none⟩) (by simp) _⟩
          case measure => simp [intOf]; omega
        · have n34 : ¬ c = 34 := byte_ne (n := 34) (by omega) (by rw [HCI.out]; omega)
          have q34 : (ci == 34) = false := by simp; omega
          have HIT : Hid (inT c = inI ci) := (by rw [inT_int, HCI.out] : inT c = inI ci)
          cases hin : inI ci with
          | true =>
            have hin2 : inT c = true := HIT.out.trans hin
            by_cases hm : k - b < 256
            · have HS : Hid (frontM L = walkM L (L.drop (k + 1)) (k + 1) 3 b (tw, tl)) := by
                show _ = _
                rw [hst.out, HRR.out]
                simp [walkM, n34, hin2, hm]
              have hm2 : ((k : Int) - (b : Int) < 256) := by omega
              go_wp2_with (go_at_call 42; refine (isTagByte_any _ (by omega) (by omega) _).mono ?_; rintro e w' ⟨rfl, rfl⟩)
              go_roundw
              case rel => exact ⟨3, b, k + 1, (tw, tl), by omega, by omega, by omega, rfl, by go_num, by go_num, HS, ha, hc, hb⟩
              case measure => simp [intOf]; omega
            · have HE : Hid (frontM L = ((tw, tl), k, false)) := by
                show _ = _
                rw [hst.out]
                simp [walkM, n34, hin2, hm]
              have hm2 : ¬ ((k : Int) - (b : Int) < 256) := by omega
              go_wp2_with (go_at_call 42; refine (isTagByte_any _ (by omega) (by omega) _).mono ?_; rintro e w' ⟨rfl, rfl⟩)
              try simp (config := { zetaDelta := true }) only [Exit.inBlock, Exit.then, Exit.noGoto_ret]
              refine bodyPost_ret (v := .tuple #[.agg #[.bool tw, .string (str tl)], .int .i64 (k : Nat), .bool false]) (by simp [results, Tryz.results26, go_sem, c0, c1, a0, a1]) rfl ?_
              rw [HE.out]
              exact ⟨rfl, (Below.setCell (p := ⟨w.heap.size, 1, none⟩) (Below.setCell (p := ⟨w.heap.size, 0, none⟩) hb.out (by simp) _) (by simp) _)⟩
          | false =>
            have hin2 : inT c = false := HIT.out.trans hin
            have HE : Hid (frontM L = ((tw, tl), k, false)) := by
              show _ = _
              rw [hst.out]
              simp [walkM, n34, hin2]
            go_wp2_with (go_at_call 42; refine (isTagByte_any _ (by omega) (by omega) _).mono ?_; rintro e w' ⟨rfl, rfl⟩)
            try simp (config := { zetaDelta := true }) only [Exit.inBlock, Exit.then, Exit.noGoto_ret]
            refine bodyPost_ret (v := .tuple #[.agg #[.bool tw, .string (str tl)], .int .i64 (k : Nat), .bool false]) (by simp [results, Tryz.results26, go_sem, c0, c1, a0, a1]) rfl ?_
            rw [HE.out]
            exact ⟨rfl, (Below.setCell (p := ⟨w.heap.size, 1, none⟩) (Below.setCell (p := ⟨w.heap.size, 0, none⟩) hb.out (by simp) _) (by simp) _)⟩
      · have HE : Hid (frontM L = ((tw, tl), k, true)) := by
          show _ = _
          rw [hst.out]
          simp [walkM]
        go_wp2
        try simp (config := { zetaDelta := true }) only [Exit.inBlock, Exit.then, Exit.noGoto_ret]
        refine bodyPost_ret (v := .tuple #[.agg #[.bool tw, .string (str tl)], .int .i64 (k : Nat), .bool true]) (by simp [results, Tryz.results26, go_sem, c0, c1, a0, a1]) rfl ?_
        rw [HE.out]
        exact ⟨rfl, (Below.setCell (p := ⟨w.heap.size, 1, none⟩) (Below.setCell (p := ⟨w.heap.size, 0, none⟩) hb.out (by simp) _) (by simp) _)⟩
    · have hkk : k = s.size := by omega
      have HE : Hid (frontM L = ((tw, tl), k, n == 4)) := by
        show _ = _
        rw [hst.out, List.drop_eq_nil_of_le (by rw [← HL.out, size_list]; omega)]
        rfl
      have hnn : ((n : Int) == 4) = (n == 4) := by rw [Bool.eq_iff_iff, beq_iff_eq, beq_iff_eq]; omega
      clear hst
      go_wp2
      try simp (config := { zetaDelta := true }) only [Exit.inBlock, Exit.then, Exit.noGoto_ret]
      refine bodyPost_ret (v := .tuple #[.agg #[.bool tw, .string (str tl)], .int .i64 (k : Nat), .bool (n == 4)]) (by simp [results, Tryz.results26, go_sem, c0, c1, a0, a1]) rfl ?_
      rw [HE.out]
      exact ⟨rfl, (Below.setCell (p := ⟨w.heap.size, 1, none⟩) (Below.setCell (p := ⟨w.heap.size, 0, none⟩) hb.out (by simp) _) (by simp) _)⟩

end Tt
end Go.Proofs.YtjngpafokkjkdaaGreatDoor

/-
  The document's read.
-/
set_option linter.unusedVariables false
set_option linter.unusedSimpArgs false
namespace Go.Proofs.YtjngpafokkjkdaaGreatDoor
open Go.RowKit
namespace Tt
open Oc

theorem front_nil (l : List UInt8) (a : Nat) (h : l.length ≤ a) : frontR (l.drop a) = ((false, []), 0, false) := by rw [List.drop_eq_nil_of_le h]; rfl
theorem drop_at (l : List UInt8) (a : Nat) (h : a < l.length) : l.drop a = l.getD a 0 :: l.drop (a + 1) := by
  rw [List.drop_eq_getElem_cons h, List.getD_eq_getElem?_getD, List.getElem?_eq_getElem h]
  rfl
theorem two_tags (w : World) (T : Nat) (x : Bool) : TB T ((w.alloc (.cells #[.bool false, .string ⟨#[]⟩] T)).alloc (.cells #[.bool x, .string ⟨#[]⟩] T)) w.heap.size (false, []) ∧ TB T ((w.alloc (.cells #[.bool false, .string ⟨#[]⟩] T)).alloc (.cells #[.bool x, .string ⟨#[]⟩] T)) (w.heap.size + 1) (x, []) ∧ Below w.heap.size w ((w.alloc (.cells #[.bool false, .string ⟨#[]⟩] T)).alloc (.cells #[.bool x, .string ⟨#[]⟩] T)) := by
  refine ⟨?_, ?_, ((Below.refl _ w).alloc (Nat.le_refl _) _).alloc (by simp) _⟩
  · have h1 : TB T (w.alloc (.cells #[.bool false, .string ⟨#[]⟩] T)) w.heap.size (false, []) := heap_alloc_new w _
    exact h1.alloc _
  · have z1 : (w.alloc (.cells #[.bool false, .string ⟨#[]⟩] T)).heap.size = w.heap.size + 1 := by simp
    rw [← z1]
    exact heap_alloc_new _ _

set_option maxRecDepth 100000 in
set_option maxHeartbeats 4000000 in
theorem rread_any (s : ByteArray) (hs : s.size ≤ 4000000000) (a : Nat) (haS : a ≤ s.size) (w : World) :
    Calls Tryz.prog 40 #[.string s, .int .i64 a] w fun e w' => e = .returned (.tuple #[.agg #[.bool (frontR (s.data.toList.drop a)).1.1, .string (str (frontR (s.data.toList.drop a)).1.2)], .int .i64 (a + (frontR (s.data.toList.drop a)).2.1 : Nat), .bool (frontR (s.data.toList.drop a)).2.2]) ∧ Below w.heap.size w w' := by
  have hE : w.heap.size + 1 ≠ w.heap.size := by omega
  have hE2 : w.heap.size ≠ w.heap.size + 1 := by omega
  have hlen : s.data.toList.length = s.size := size_list s
  have HTT : Hid (∀ x, _) := fun x => two_tags w 36 x
  have HX : Hid (∀ b k, s.extract b k = str ((s.data.toList.drop b).take (k - b))) := fun b k => str_ext s b k
  have HAT : Hid (∀ k (h : k < s.size), ((s[k].toNat : Nat) : Int) = ((s.data.toList.getD k 0).toNat : Int)) := fun k h => byt_at s k h
  generalize s.data.toList = L at *
  by_cases h0 : a < s.size
  · have hdr0 := drop_at L a (by rw [hlen]; exact h0)
    have e0 : ((a : Int) == (s.size : Int)) = false := by rw [beq_eq_false_iff_ne]; omega
    have hby0 := HAT.out (a) h0
    have hcb0 := (L.getD (a) 0).toNat_lt
    generalize hc0 : L.getD a 0 = b0 at *
    generalize hci0 : (b0.toNat : Int) = d0 at hby0
    have HCI0 : Hid ((b0.toNat : Int) = d0) := hci0
    clear hci0 hcb0 hc0
    by_cases h87 : d0 = 87
    · subst h87
      have v0 : b0 = 87 := byte_eq (n := 87) (by omega) HCI0.out
      subst v0
      by_cases h1 : a + 1 < s.size
      · have hdr1 := drop_at L (a + 1) (by rw [hlen]; exact h1)
        have e1 : ((a : Int) + 1 == (s.size : Int)) = false := by rw [beq_eq_false_iff_ne]; omega
        have hby1 := HAT.out (a + 1) h1
        have hcb1 := (L.getD (a + 1) 0).toNat_lt
        generalize hc1 : L.getD (a + 1) 0 = b1 at *
        generalize hci1 : (b1.toNat : Int) = d1 at hby1
        have HCI1 : Hid ((b1.toNat : Int) = d1) := hci1
        clear hci1 hcb1 hc1
        by_cases h47 : d1 = 47
        · subst h47
          have v1 : b1 = 47 := byte_eq (n := 47) (by omega) HCI1.out
          subst v1
          by_cases h2 : a + 1 + 1 < s.size
          · have hdr2 := drop_at L (a + 1 + 1) (by rw [hlen]; exact h2)
            have e2 : ((a : Int) + 1 + 1 == (s.size : Int)) = false := by rw [beq_eq_false_iff_ne]; omega
            have hby2 := HAT.out (a + 1 + 1) h2
            have hcb2 := (L.getD (a + 1 + 1) 0).toNat_lt
            generalize hc2 : L.getD (a + 1 + 1) 0 = b2 at *
            generalize hci2 : (b2.toNat : Int) = d2 at hby2
            have HCI2 : Hid ((b2.toNat : Int) = d2) := hci2
            clear hci2 hcb2 hc2
            by_cases h34 : d2 = 34
            · subst h34
              have v2 : b2 = 34 := byte_eq (n := 34) (by omega) HCI2.out
              subst v2
              have HFR : Hid (frontR (L.drop a) = restR true 3 (L.drop (a + 3))) := by
                show _ = _
                rw [hdr0, hdr1, hdr2]
                simp [frontR]
              clear hdr0 hdr1 hdr2
              go_enter Tryz.func40, Tryz.ntmps40
              go_wp2
              go_loopw [1] (fun i wr => ∃ k : Nat, a + 3 + k ≤ s.size ∧ i = .int .i64 (a + 3 + k : Nat) ∧ Hid (bodyR (L.drop (a + 3)) 0 = bodyR (L.drop (a + 3 + k)) k) ∧ Hid (k ≤ 256) ∧ Hid (TB 36 wr w.heap.size (false, [])) ∧ Hid (TB 36 wr (w.heap.size + 1) (true, [])) ∧ Hid (Below w.heap.size w wr)) (fun i _ => s.size - (intOf i).toNat)
              case atStart => exact ⟨0, by omega, rfl, (rfl : _ = _), (by omega : 0 ≤ 256), (HTT.out true).1, (HTT.out true).2.1, (HTT.out true).2.2⟩
              case round =>
                obtain ⟨k, hk, rfl, hst, h256, ha, hc, hb⟩ := hrel
                clear HTT
                have c0 := hc.out.c0
                have c1 := hc.out.c1
                have f0 := hc.out.f 0
                have f1 := hc.out.f 1
                have a0 := ha.out.c0
                have a1 := ha.out.c1
                have g0 := ha.out.f 0
                have g1 := ha.out.f 1
                dsimp only at c0 c1 a0 a1
                have h256' := h256.out
                by_cases hlt : a + 3 + k < s.size
                · have hdr := drop_at L (a + 3 + k) (by rw [hlen]; exact hlt)
                  have hby0 := HAT.out (a + 3 + k) hlt
                  rw [hdr] at hst
                  have hcb := (L.getD (a + 3 + k) 0).toNat_lt
                  have hex : Hid (s.extract (a + 3) (a + 3 + k) = str ((L.drop (a + 3)).take k)) := (by rw [HX.out (a + 3) (a + 3 + k), show a + 3 + k - (a + 3) = k by omega] : _ = _)
                  clear hdr HAT HX
                  generalize L.getD (a + 3 + k) 0 = c at hst hby0 hcb
                  generalize hci : (c.toNat : Int) = ci at hby0
                  have HCI : Hid ((c.toNat : Int) = ci) := hci
                  have hci0 : 0 ≤ ci := by omega
                  have hci1 : ci ≤ 255 := by omega
                  clear hci hcb
                  by_cases h34 : ci = 34
                  · subst h34
                    have hcv : c = 34 := byte_eq (n := 34) (by omega) HCI.out
                    have HE : Hid (frontR (L.drop a) = ((true, (L.drop (a + 3)).take k), 3 + k + 1, true)) := by
                      show _ = _
                      have hb2 : bodyR (L.drop (a + 3)) 0 = (k, true) := by rw [hst.out]; simp [bodyR, hcv]
                      rw [HFR.out]
                      unfold restR
                      rw [hb2]
                      rfl
                    clear hst
                    go_wp2
                    rw [hex.out]
                    refine bodyPost_ret (v := .tuple #[.agg #[.bool true, .string (str ((L.drop (a + 3)).take k))], .int .i64 (a + (3 + k + 1) : Nat), .bool true]) (by rw [show ((a + (3 + k + 1) : Nat) : Int) = ((a + 3 : Nat) : Int) + (k : Int) + 1 by omega]; simp [results, Tryz.results40, go_sem, c0, c1, a0, a1] <;> omega) rfl ?_
                    rw [HE.out]
                    refine ⟨rfl, ?_⟩
                    repeat (first | exact hb.out | refine Below.setCell ?_ (by simp) _)
                  · have n34 : ¬ c = 34 := byte_ne (n := 34) (by omega) (by rw [HCI.out]; omega)
                    have q34 : (ci != 34) = true := by simp; omega
                    have HIT : Hid (inT c = inI ci) := (by rw [inT_int, HCI.out] : inT c = inI ci)
                    cases hin : inI ci with
                    | true =>
                      have hin2 : inT c = true := HIT.out.trans hin
                      by_cases hm : k = 256
                      · subst hm
                        have HE : Hid (frontR (L.drop a) = ((false, []), 3 + 256, false)) := by
                          show _ = _
                          have hb2 : bodyR (L.drop (a + 3)) 0 = (256, false) := by rw [hst.out]; simp [bodyR, n34, hin2]
                          rw [HFR.out]
                          unfold restR
                          rw [hb2]
                          rfl
                        have hq : (((a : Int) + 3 + 256 - ((a : Int) + 1 + 1 + 1)) == 256) = true := by rw [beq_iff_eq]; omega
                        clear hst
                        go_wp2_with (go_at_call 66; refine (rinside_any _ (by omega) (by omega) _).mono ?_; rintro e w' ⟨rfl, rfl⟩)
                        refine bodyPost_ret (v := .tuple #[.agg #[.bool false, .string ⟨#[]⟩], .int .i64 (a + (3 + 256) : Nat), .bool false]) (by simp [results, Tryz.results40, go_sem, c0, c1, a0, a1] <;> omega) rfl ?_
                        rw [HE.out]
                        refine ⟨rfl, ?_⟩
                        repeat (first | exact hb.out | refine Below.setCell ?_ (by simp) _)
                      · have hstn : Hid (bodyR (L.drop (a + 3)) 0 = bodyR (L.drop (a + 3 + (k + 1))) (k + 1)) := by
                          show _ = _
                          rw [hst.out, ← Nat.add_assoc]
                          have hk2 : k < 256 := by omega
                          simp [bodyR, n34, hin2, hk2]
                        have hq : (((a : Int) + 3 + (k : Int) - ((a : Int) + 1 + 1 + 1)) == 256) = false := by rw [beq_eq_false_iff_ne]; omega
                        clear hst
                        go_wp2_with (go_at_call 66; refine (rinside_any _ (by omega) (by omega) _).mono ?_; rintro e w' ⟨rfl, rfl⟩)
                        go_roundw
                        case rel => exact ⟨k + 1, by omega, by go_num, hstn, (by omega : k + 1 ≤ 256), ha, hc, hb⟩
                        case measure => simp [intOf]; omega
                    | false =>
                      have hin2 : inT c = false := HIT.out.trans hin
                      have HE : Hid (frontR (L.drop a) = ((false, []), 3 + k, false)) := by
                        show _ = _
                        have hb2 : bodyR (L.drop (a + 3)) 0 = (k, false) := by rw [hst.out]; simp [bodyR, n34, hin2]
                        rw [HFR.out]
                        unfold restR
                        rw [hb2]
                        rfl
                      clear hst
                      go_wp2_with (go_at_call 66; refine (rinside_any _ (by omega) (by omega) _).mono ?_; rintro e w' ⟨rfl, rfl⟩)
                      refine bodyPost_ret (v := .tuple #[.agg #[.bool false, .string ⟨#[]⟩], .int .i64 (a + (3 + k) : Nat), .bool false]) (by simp [results, Tryz.results40, go_sem, c0, c1, a0, a1] <;> omega) rfl ?_
                      rw [HE.out]
                      refine ⟨rfl, ?_⟩
                      repeat (first | exact hb.out | refine Below.setCell ?_ (by simp) _)
                · have hkk : a + 3 + k = s.size := by omega
                  have HE : Hid (frontR (L.drop a) = ((false, []), 3 + k, false)) := by
                    show _ = _
                    have hb2 : bodyR (L.drop (a + 3)) 0 = (k, false) := by rw [hst.out, List.drop_eq_nil_of_le (by omega)]; rfl
                    rw [HFR.out]
                    unfold restR
                    rw [hb2]
                    rfl
                  clear hst HAT HX
                  go_wp2
                  refine bodyPost_ret (v := .tuple #[.agg #[.bool false, .string ⟨#[]⟩], .int .i64 (a + (3 + k) : Nat), .bool false]) (by simp [results, Tryz.results40, go_sem, c0, c1, a0, a1] <;> omega) rfl ?_
                  rw [HE.out]
                  refine ⟨rfl, ?_⟩
                  repeat (first | exact hb.out | refine Below.setCell ?_ (by simp) _)
            · have m2 : ¬ b2 = 34 := byte_ne (n := 34) (by omega) (by rw [HCI2.out]; omega)
              have q2 : (d2 != 34) = true := by simp; omega
              have HE : Hid (frontR (L.drop a) = ((false, []), 2, false)) := by
                show _ = _
                rw [hdr0, hdr1, hdr2]; simp [frontR, m2]
              clear HTT HX HAT
              go_enter Tryz.func40, Tryz.ntmps40
              go_wp2
              refine bodyPost_ret (v := .tuple #[.agg #[.bool false, .string ⟨#[]⟩], .int .i64 (a + 2 : Nat), .bool false]) (by simp [results, Tryz.results40, go_sem] <;> omega) rfl ?_
              rw [HE.out]
              refine ⟨rfl, ?_⟩
              repeat (first | exact Below.refl _ _ | refine Below.setCell ?_ (by simp) _ | refine Below.alloc ?_ (by simp) _)
          · have hz : a + 2 = s.size := by omega
            have hn2 : L.drop (a + 1 + 1) = [] := List.drop_eq_nil_of_le (by omega)
            have HE : Hid (frontR (L.drop a) = ((false, []), 2, false)) := by
              show _ = _
              rw [hdr0, hdr1, hn2]; simp [frontR]
            clear HTT HX HAT
            go_enter Tryz.func40, Tryz.ntmps40
            go_wp2
            refine bodyPost_ret (v := .tuple #[.agg #[.bool false, .string ⟨#[]⟩], .int .i64 (a + 2 : Nat), .bool false]) (by simp [results, Tryz.results40, go_sem] <;> omega) rfl ?_
            rw [HE.out]
            refine ⟨rfl, ?_⟩
            repeat (first | exact Below.refl _ _ | refine Below.setCell ?_ (by simp) _ | refine Below.alloc ?_ (by simp) _)
        · have m1 : ¬ b1 = 47 := byte_ne (n := 47) (by omega) (by rw [HCI1.out]; omega)
          have q1 : (d1 != 47) = true := by simp; omega
          have HE : Hid (frontR (L.drop a) = ((false, []), 1, false)) := by
            show _ = _
            rw [hdr0, hdr1]; simp [frontR, m1]
          clear HTT HX HAT
          go_enter Tryz.func40, Tryz.ntmps40
          go_wp2
          refine bodyPost_ret (v := .tuple #[.agg #[.bool false, .string ⟨#[]⟩], .int .i64 (a + 1 : Nat), .bool false]) (by simp [results, Tryz.results40, go_sem] <;> omega) rfl ?_
          rw [HE.out]
          refine ⟨rfl, ?_⟩
          repeat (first | exact Below.refl _ _ | refine Below.setCell ?_ (by simp) _ | refine Below.alloc ?_ (by simp) _)
      · have hz : a + 1 = s.size := by omega
        have hn1 : L.drop (a + 1) = [] := List.drop_eq_nil_of_le (by omega)
        have HE : Hid (frontR (L.drop a) = ((false, []), 1, false)) := by
          show _ = _
          rw [hdr0, hn1]; simp [frontR]
        clear HTT HX HAT
        go_enter Tryz.func40, Tryz.ntmps40
        go_wp2
        refine bodyPost_ret (v := .tuple #[.agg #[.bool false, .string ⟨#[]⟩], .int .i64 (a + 1 : Nat), .bool false]) (by simp [results, Tryz.results40, go_sem] <;> omega) rfl ?_
        rw [HE.out]
        refine ⟨rfl, ?_⟩
        repeat (first | exact Below.refl _ _ | refine Below.setCell ?_ (by simp) _ | refine Below.alloc ?_ (by simp) _)
    · have m0 : ¬ b0 = 87 := byte_ne (n := 87) (by omega) (by rw [HCI0.out]; omega)
      have p0 : (d0 == 87) = false := by simp; omega
      by_cases h34 : d0 = 34
      · subst h34
        have v0 : b0 = 34 := byte_eq (n := 34) (by omega) HCI0.out
        subst v0
        have HFR : Hid (frontR (L.drop a) = restR false 1 (L.drop (a + 1))) := by
          show _ = _
          rw [hdr0]
          simp [frontR]
        clear hdr0
        go_enter Tryz.func40, Tryz.ntmps40
        go_wp2
        go_loopw [1] (fun i wr => ∃ k : Nat, a + 1 + k ≤ s.size ∧ i = .int .i64 (a + 1 + k : Nat) ∧ Hid (bodyR (L.drop (a + 1)) 0 = bodyR (L.drop (a + 1 + k)) k) ∧ Hid (k ≤ 256) ∧ Hid (TB 36 wr w.heap.size (false, [])) ∧ Hid (TB 36 wr (w.heap.size + 1) (false, [])) ∧ Hid (Below w.heap.size w wr)) (fun i _ => s.size - (intOf i).toNat)
        case atStart => exact ⟨0, by omega, rfl, (rfl : _ = _), (by omega : 0 ≤ 256), (HTT.out false).1, (HTT.out false).2.1, (HTT.out false).2.2⟩
        case round =>
          obtain ⟨k, hk, rfl, hst, h256, ha, hc, hb⟩ := hrel
          clear HTT
          have c0 := hc.out.c0
          have c1 := hc.out.c1
          have f0 := hc.out.f 0
          have f1 := hc.out.f 1
          have a0 := ha.out.c0
          have a1 := ha.out.c1
          have g0 := ha.out.f 0
          have g1 := ha.out.f 1
          dsimp only at c0 c1 a0 a1
          have h256' := h256.out
          by_cases hlt : a + 1 + k < s.size
          · have hdr := drop_at L (a + 1 + k) (by rw [hlen]; exact hlt)
            have hby0 := HAT.out (a + 1 + k) hlt
            rw [hdr] at hst
            have hcb := (L.getD (a + 1 + k) 0).toNat_lt
            have hex : Hid (s.extract (a + 1) (a + 1 + k) = str ((L.drop (a + 1)).take k)) := (by rw [HX.out (a + 1) (a + 1 + k), show a + 1 + k - (a + 1) = k by omega] : _ = _)
            clear hdr HAT HX
            generalize L.getD (a + 1 + k) 0 = c at hst hby0 hcb
            generalize hci : (c.toNat : Int) = ci at hby0
            have HCI : Hid ((c.toNat : Int) = ci) := hci
            have hci0 : 0 ≤ ci := by omega
            have hci1 : ci ≤ 255 := by omega
            clear hci hcb
            by_cases h34 : ci = 34
            · subst h34
              have hcv : c = 34 := byte_eq (n := 34) (by omega) HCI.out
              have HE : Hid (frontR (L.drop a) = ((false, (L.drop (a + 1)).take k), 1 + k + 1, true)) := by
                show _ = _
                have hb2 : bodyR (L.drop (a + 1)) 0 = (k, true) := by rw [hst.out]; simp [bodyR, hcv]
                rw [HFR.out]
                unfold restR
                rw [hb2]
                rfl
              clear hst
              go_wp2
              rw [hex.out]
              refine bodyPost_ret (v := .tuple #[.agg #[.bool false, .string (str ((L.drop (a + 1)).take k))], .int .i64 (a + (1 + k + 1) : Nat), .bool true]) (by rw [show ((a + (1 + k + 1) : Nat) : Int) = ((a + 1 : Nat) : Int) + (k : Int) + 1 by omega]; simp [results, Tryz.results40, go_sem, c0, c1, a0, a1] <;> omega) rfl ?_
              rw [HE.out]
              refine ⟨rfl, ?_⟩
              repeat (first | exact hb.out | refine Below.setCell ?_ (by simp) _)
            · have n34 : ¬ c = 34 := byte_ne (n := 34) (by omega) (by rw [HCI.out]; omega)
              have q34 : (ci != 34) = true := by simp; omega
              have HIT : Hid (inT c = inI ci) := (by rw [inT_int, HCI.out] : inT c = inI ci)
              cases hin : inI ci with
              | true =>
                have hin2 : inT c = true := HIT.out.trans hin
                by_cases hm : k = 256
                · subst hm
                  have HE : Hid (frontR (L.drop a) = ((false, []), 1 + 256, false)) := by
                    show _ = _
                    have hb2 : bodyR (L.drop (a + 1)) 0 = (256, false) := by rw [hst.out]; simp [bodyR, n34, hin2]
                    rw [HFR.out]
                    unfold restR
                    rw [hb2]
                    rfl
                  have hq : (((a : Int) + 1 + 256 - ((a : Int) + 1)) == 256) = true := by rw [beq_iff_eq]; omega
                  clear hst
                  go_wp2_with (go_at_call 66; refine (rinside_any _ (by omega) (by omega) _).mono ?_; rintro e w' ⟨rfl, rfl⟩)
                  refine bodyPost_ret (v := .tuple #[.agg #[.bool false, .string ⟨#[]⟩], .int .i64 (a + (1 + 256) : Nat), .bool false]) (by simp [results, Tryz.results40, go_sem, c0, c1, a0, a1] <;> omega) rfl ?_
                  rw [HE.out]
                  refine ⟨rfl, ?_⟩
                  repeat (first | exact hb.out | refine Below.setCell ?_ (by simp) _)
                · have hstn : Hid (bodyR (L.drop (a + 1)) 0 = bodyR (L.drop (a + 1 + (k + 1))) (k + 1)) := by
                    show _ = _
                    rw [hst.out, ← Nat.add_assoc]
                    have hk2 : k < 256 := by omega
                    simp [bodyR, n34, hin2, hk2]
                  have hq : (((a : Int) + 1 + (k : Int) - ((a : Int) + 1)) == 256) = false := by rw [beq_eq_false_iff_ne]; omega
                  clear hst
                  go_wp2_with (go_at_call 66; refine (rinside_any _ (by omega) (by omega) _).mono ?_; rintro e w' ⟨rfl, rfl⟩)
                  go_roundw
                  case rel => exact ⟨k + 1, by omega, by go_num, hstn, (by omega : k + 1 ≤ 256), ha, hc, hb⟩
                  case measure => simp [intOf]; omega
              | false =>
                have hin2 : inT c = false := HIT.out.trans hin
                have HE : Hid (frontR (L.drop a) = ((false, []), 1 + k, false)) := by
                  show _ = _
                  have hb2 : bodyR (L.drop (a + 1)) 0 = (k, false) := by rw [hst.out]; simp [bodyR, n34, hin2]
                  rw [HFR.out]
                  unfold restR
                  rw [hb2]
                  rfl
                clear hst
                go_wp2_with (go_at_call 66; refine (rinside_any _ (by omega) (by omega) _).mono ?_; rintro e w' ⟨rfl, rfl⟩)
                refine bodyPost_ret (v := .tuple #[.agg #[.bool false, .string ⟨#[]⟩], .int .i64 (a + (1 + k) : Nat), .bool false]) (by simp [results, Tryz.results40, go_sem, c0, c1, a0, a1] <;> omega) rfl ?_
                rw [HE.out]
                refine ⟨rfl, ?_⟩
                repeat (first | exact hb.out | refine Below.setCell ?_ (by simp) _)
          · have hkk : a + 1 + k = s.size := by omega
            have HE : Hid (frontR (L.drop a) = ((false, []), 1 + k, false)) := by
              show _ = _
              have hb2 : bodyR (L.drop (a + 1)) 0 = (k, false) := by rw [hst.out, List.drop_eq_nil_of_le (by omega)]; rfl
              rw [HFR.out]
              unfold restR
              rw [hb2]
              rfl
            clear hst HAT HX
            go_wp2
            refine bodyPost_ret (v := .tuple #[.agg #[.bool false, .string ⟨#[]⟩], .int .i64 (a + (1 + k) : Nat), .bool false]) (by simp [results, Tryz.results40, go_sem, c0, c1, a0, a1] <;> omega) rfl ?_
            rw [HE.out]
            refine ⟨rfl, ?_⟩
            repeat (first | exact hb.out | refine Below.setCell ?_ (by simp) _)
      · have m1 : ¬ b0 = 34 := byte_ne (n := 34) (by omega) (by rw [HCI0.out]; omega)
        have q1 : (d0 != 34) = true := by simp; omega
        have HE : Hid (frontR (L.drop a) = ((false, []), 0, false)) := by
          show _ = _
          rw [hdr0]; simp [frontR, m0, m1]
        clear HTT HX HAT
        go_enter Tryz.func40, Tryz.ntmps40
        go_wp2
        refine bodyPost_ret (v := .tuple #[.agg #[.bool false, .string ⟨#[]⟩], .int .i64 (a : Nat), .bool false]) (by simp [results, Tryz.results40, go_sem] <;> omega) rfl ?_
        rw [HE.out]
        refine ⟨rfl, ?_⟩
        repeat (first | exact Below.refl _ _ | refine Below.setCell ?_ (by simp) _ | refine Below.alloc ?_ (by simp) _)
  · have hz : a = s.size := by omega
    have HE : Hid (frontR (L.drop a) = ((false, []), 0, false)) := by
      show _ = _
      exact front_nil L a (by omega)
    clear HTT HX HAT
    go_enter Tryz.func40, Tryz.ntmps40
    go_wp2
    refine bodyPost_ret (v := .tuple #[.agg #[.bool false, .string ⟨#[]⟩], .int .i64 (a : Nat), .bool false]) (by simp [results, Tryz.results40, go_sem] <;> omega) rfl ?_
    rw [HE.out]
    refine ⟨rfl, ?_⟩
    repeat (first | exact Below.refl _ _ | refine Below.setCell ?_ (by simp) _ | refine Below.alloc ?_ (by simp) _)

end Tt
end Go.Proofs.YtjngpafokkjkdaaGreatDoor

/-
  tag: Parse, Print; the document's.
-/
set_option linter.unusedVariables false
set_option linter.unusedSimpArgs false
namespace Go.Proofs.YtjngpafokkjkdaaGreatDoor
open Go.RowKit
namespace Tt
open Oc

theorem TB.new (T : Nat) (w : World) (b : Bool) (s : ByteArray) : TB T (w.alloc (.cells #[.bool b, .string s] T)) w.heap.size (b, s.data.toList) := by
  unfold TB
  rw [str_self]
  exact heap_alloc_new w _

theorem TB.read {T : Nat} {w : World} {g : Nat} {t : Tg1} (h : TB T w g t) (b : Bool) (S : ByteArray) (o : Obj) :
    (((w.setCell ⟨g, 0, none⟩ (.bool b)).setCell ⟨g, 1, none⟩ (.string S)).alloc o).cell? ⟨g, 0, none⟩ = some (.bool b) ∧ (((w.setCell ⟨g, 0, none⟩ (.bool b)).setCell ⟨g, 1, none⟩ (.string S)).alloc o).cell? ⟨g, 1, none⟩ = some (.string S) := by
  have h2 := ((h.set0 b).set1 S.data.toList)
  rw [str_self] at h2
  have h3 := h2.alloc o
  have e := h3.c1
  rw [str_self] at e
  exact ⟨h3.c0, e⟩

set_option maxRecDepth 100000 in
set_option maxHeartbeats 1000000 in
theorem Parse_any (s : ByteArray) (hs : s.size ≤ 4000000000) (w : World) :
    Calls Tryz.prog 12 #[.string s] w fun e w' => e = .returned (.tuple #[.agg #[.bool (parseT s.data.toList).1.1, .string (str (parseT s.data.toList).1.2)], .int .i64 ((parseT s.data.toList).2.1 : Nat), .int .i64 (parseT s.data.toList).2.2]) ∧ Below w.heap.size w w' := by
  obtain ⟨w1, hw1⟩ : ∃ w1, w1 = w.alloc (.cells #[.bool false, .string ⟨#[]⟩] 26) := ⟨_, rfl⟩
  have z1 : w1.heap.size = w.heap.size + 1 := by rw [hw1]; simp
  have HA : Hid (TB 26 w1 w.heap.size (false, [])) := (by rw [hw1]; exact heap_alloc_new w _ : TB _ _ _ _)
  have HB : Hid (Below w.heap.size w w1) := (by rw [hw1]; exact (Below.refl _ w).alloc (Nat.le_refl _) _ : Below _ _ _)
  have HF : Hid (Calls _ _ _ _ _) := front_any s hs w1
  obtain ⟨e1, e2⟩ := front_eq s.data.toList
  have hle := frontR_le s.data.toList
  rw [size_list] at hle
  unfold parseT
  rw [size_list]
  rw [← e1] at hle ⊢
  generalize hF : frontM s.data.toList = F at *
  generalize hG : frontR s.data.toList = G at *
  obtain ⟨⟨tw, tl⟩, n, ok⟩ := F
  obtain ⟨Gt, Gn⟩ := G
  dsimp only at *
  clear hF hG e1
  cases ok with
  | true =>
    have e3 := e2 rfl
    subst e3
    clear e2
    by_cases hn : n = s.size
    · rw [if_pos ⟨rfl, hn⟩]
      subst hn
      dsimp only
      generalize str tl = S at *
      go_enter Tryz.func12, Tryz.ntmps12
      go_wp2_with fail
      rw [← hw1]
      refine HF.out.mono ?_
      rintro e w3 ⟨rfl, hb3⟩
      have ha := HA.out.below hb3
      have a0 := ha.c0
      have a1 := ha.c1
      have g0 := ha.f 0
      have g1 := ha.f 1
      have hlt := ha.lt
      have hne1 : w3.heap.size ≠ w.heap.size := by omega
      have hne2 : w.heap.size ≠ w3.heap.size := by omega
      have HB3 : Hid (Below w.heap.size w w3) := HB.out.trans (hb3.mono (by omega))
      have hrd : Hid (∀ b S o, _ ∧ _) := fun b S o => ha.read b S o
      clear ha hb3
      go_wp2
      refine bodyPost_ret (v := .tuple #[.agg #[.bool tw, .string S], .int .i64 0, .int .i64 0]) (by simp [results, Tryz.results12, go_sem, hrd.out]) rfl ?_
      refine ⟨rfl, ?_⟩
      repeat (first | exact HB3.out | refine Below.setCell ?_ (by simp) _ | refine Below.alloc ?_ (by simp; have := HB3.out.size; omega) _)
    · rw [if_neg (fun h => hn h.2)]
      dsimp only
      have hlt2 : n < s.size := by omega
      generalize str tl = S at *
      go_enter Tryz.func12, Tryz.ntmps12
      go_wp2_with fail
      rw [← hw1]
      refine HF.out.mono ?_
      rintro e w3 ⟨rfl, hb3⟩
      have ha := HA.out.below hb3
      have a0 := ha.c0
      have a1 := ha.c1
      have g0 := ha.f 0
      have g1 := ha.f 1
      have hlt := ha.lt
      have hne1 : w3.heap.size ≠ w.heap.size := by omega
      have hne2 : w.heap.size ≠ w3.heap.size := by omega
      have HB3 : Hid (Below w.heap.size w w3) := HB.out.trans (hb3.mono (by omega))
      have hrd : Hid (∀ b S o, _ ∧ _) := fun b S o => ha.read b S o
      clear ha hb3
      go_wp2
      refine bodyPost_ret (v := .tuple #[.agg #[.bool false, .string ⟨#[]⟩], .int .i64 n, .int .i64 80]) (by simp [results, Tryz.results12, go_sem, hrd.out]) rfl ?_
      refine ⟨rfl, ?_⟩
      repeat (first | exact HB3.out | refine Below.setCell ?_ (by simp) _ | refine Below.alloc ?_ (by simp; have := HB3.out.size; omega) _)
  | false =>
    rw [if_neg (fun h => by simp at h)]
    dsimp only
    clear e2
    generalize str tl = S at *
    go_enter Tryz.func12, Tryz.ntmps12
    go_wp2_with fail
    rw [← hw1]
    refine HF.out.mono ?_
    rintro e w3 ⟨rfl, hb3⟩
    have ha := HA.out.below hb3
    have a0 := ha.c0
    have a1 := ha.c1
    have g0 := ha.f 0
    have g1 := ha.f 1
    have hlt := ha.lt
    have hne1 : w3.heap.size ≠ w.heap.size := by omega
    have hne2 : w.heap.size ≠ w3.heap.size := by omega
    have HB3 : Hid (Below w.heap.size w w3) := HB.out.trans (hb3.mono (by omega))
    have hrd : Hid (∀ b S o, _ ∧ _) := fun b S o => ha.read b S o
    clear ha hb3
    go_wp2
    refine bodyPost_ret (v := .tuple #[.agg #[.bool false, .string ⟨#[]⟩], .int .i64 n, .int .i64 80]) (by simp [results, Tryz.results12, go_sem, hrd.out]) rfl ?_
    refine ⟨rfl, ?_⟩
    repeat (first | exact HB3.out | refine Below.setCell ?_ (by simp) _ | refine Below.alloc ?_ (by simp; have := HB3.out.size; omega) _)

end Tt
end Go.Proofs.YtjngpafokkjkdaaGreatDoor
