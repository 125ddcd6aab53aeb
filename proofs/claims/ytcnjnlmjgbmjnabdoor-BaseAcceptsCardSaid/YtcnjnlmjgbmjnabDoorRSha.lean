/-
  turnpikeref03.Sha1.
-/
import Derived.Test.YtcnjnlmjgbmjnabDoorRSha0
set_option linter.unusedVariables false
set_option linter.unusedSimpArgs false
namespace Go.Proofs.YtcnjnlmjgbmjnabDoor
open Go.RowKit
namespace Bs

theorem take4 (p : List UInt8) (k : Nat) (h : k + 4 ≤ p.length) : (p.drop k).take 4 = [p.getD k 0, p.getD (k + 1) 0, p.getD (k + 2) 0, p.getD (k + 3) 0] := by
  apply List.ext_getElem?
  intro j
  rw [List.getElem?_take]
  by_cases hj : j < 4
  · rw [if_pos hj, List.getElem?_drop]
    have e : ∀ i, i < p.length → p[i]? = some (p.getD i 0) := fun i hi => by rw [List.getD_eq_getElem?_getD, List.getElem?_eq_getElem hi]; rfl
    rcases (show j = 0 ∨ j = 1 ∨ j = 2 ∨ j = 3 by omega) with rfl | rfl | rfl | rfl
    · exact e _ (by omega)
    · exact e _ (by omega)
    · exact e _ (by omega)
    · exact e _ (by omega)
  · rw [if_neg hj, List.getElem?_eq_none (by simp; omega)]
theorem pw_four (p : List UInt8) (hp : p.length = 64) (t : Nat) (ht : t < 16) : pw p 64 t = (((p.getD (4 * t) 0).toNat * 256 + (p.getD (4 * t + 1) 0).toNat) * 256 + (p.getD (4 * t + 2) 0).toNat) * 256 + (p.getD (4 * t + 3) 0).toNat := by
  unfold pw
  rw [List.take_of_length_le (l := p) (by omega), take4 p (4 * t) (by omega)]
  simp [n256]
theorem or_four (a b c d : UInt8) : bits .or .u32 (bits .or .u32 (bits .or .u32 ((a.toNat : Int) * 16777216) ((b.toNat : Int) * 65536)) ((c.toNat : Int) * 256)) (d.toNat : Int) = ((((a.toNat * 256 + b.toNat) * 256 + c.toNat) * 256 + d.toNat : Nat) : Int) := by
  have ha := a.toNat_lt
  have hb := b.toNat_lt
  have hc := c.toNat_lt
  have hd := d.toNat_lt
  generalize a.toNat = A at *
  generalize b.toNat = B at *
  generalize c.toNat = C at *
  generalize d.toNat = D at *
  have e1 := or_u32 (A * 16777216) (B * 65536) 24 (by omega) (by omega) (by omega) (by omega)
  have e2 := or_u32 (A * 16777216 + B * 65536) (C * 256) 16 (by omega) (by omega) (by omega) (by omega)
  have e3 := or_u32 (A * 16777216 + B * 65536 + C * 256) D 8 (by omega) (by omega) (by omega) (by omega)
  rw [show (A : Int) * 16777216 = ((A * 16777216 : Nat) : Int) by omega, show (B : Int) * 65536 = ((B * 65536 : Nat) : Int) by omega, show (C : Int) * 256 = ((C * 256 : Nat) : Int) by omega, e1, e2, e3]
  omega
def pz (l : List UInt8) (k : Nat) : List UInt8 := l ++ (128 :: List.replicate k 0)
theorem pz_length (l : List UInt8) (k : Nat) : (pz l k).length = l.length + 1 + k := by unfold pz; simp; omega
theorem pz_succ (l : List UInt8) (k : Nat) : pz l (k + 1) = pz l k ++ [0] := by unfold pz; rw [List.replicate_succ']; simp
def pe (l : List UInt8) (k n j : Nat) : List UInt8 := pz l k ++ (be8 (8 * n)).take j
theorem pe_length (l : List UInt8) (k n j : Nat) (h : j ≤ 8) : (pe l k n j).length = l.length + 1 + k + j := by unfold pe; rw [List.length_append, pz_length, List.length_take, be8_length]; omega
theorem pe_succ (l : List UInt8) (k n j : Nat) (h : j < 8) : pe l k n (j + 1) = pe l k n j ++ [UInt8.ofNat (8 * n / 2 ^ (56 - 8 * j) % 256)] := by unfold pe; rw [be8_take (8 * n) j h, List.append_assoc]
theorem pe_zero (l : List UInt8) (k n : Nat) : pe l k n 0 = pz l k := by unfold pe; rw [List.take_zero, List.append_nil]
theorem pe_eight (l : List UInt8) (k n : Nat) : pe l k n 8 = pz l k ++ be8 (8 * n) := by unfold pe; rw [List.take_of_length_le (by rw [be8_length]; omega)]
theorem pz_zero (l : List UInt8) : l ++ [128] = pz l 0 := rfl
theorem bl_get (M : List UInt8) (q i : Nat) (hi : i < 64) : (bl M q).getD i 0 = M.getD (64 * q + i) 0 := by
  unfold bl
  rw [List.getD_eq_getElem?_getD, List.getD_eq_getElem?_getD, List.getElem?_take_of_lt hi, List.getElem?_drop]
theorem bl_length (M : List UInt8) (q : Nat) (h : 64 * q + 64 ≤ M.length) : (bl M q).length = 64 := by
  unfold bl
  simp
  omega
theorem runS_step (M : List UInt8) (q : Nat) (h : 64 * q + 64 ≤ M.length) : runS h0 (M.take (64 * (q + 1))) = stirS (runS h0 (M.take (64 * q))) (bl M q) := by
  have e : M.take (64 * (q + 1)) = M.take (64 * q) ++ bl M q := by
    unfold bl
    rw [show 64 * (q + 1) = 64 * q + 64 by omega, List.take_add]
  have hl : (M.take (64 * q)).length = 64 * q := by simp; omega
  rw [e, runS_next h0 (M.take (64 * q)) (bl M q) (by rw [List.length_append, bl_length M q h, hl]; omega), hl, show 64 * q / 64 = q by omega]
  congr 1
  rw [← e]
  unfold bl
  rw [List.drop_take, List.take_take]
  congr 1
  omega

def nx (s : St) (k : Nat) : Int := s.l.getD k 0
theorem nx_get (s : St) (k : Nat) (h : k < 5) : (wv s.l)[k]? = some (.int .u32 (nx s k)) := by
  rcases (show k = 0 ∨ k = 1 ∨ k = 2 ∨ k = 3 ∨ k = 4 by omega) with rfl | rfl | rfl | rfl | rfl <;> rfl
theorem nx_ok (s : St) (h : s.ok) (k : Nat) (hk : k < 5) : U32 (nx s k) := by
  obtain ⟨a, b, c, d, e⟩ := h
  rcases (show k = 0 ∨ k = 1 ∨ k = 2 ∨ k = 3 ∨ k = 4 by omega) with rfl | rfl | rfl | rfl | rfl
  · exact a
  · exact b
  · exact c
  · exact d
  · exact e
theorem nx_take (s : St) (k : Nat) (h : k < 5) : (sumB s).take (4 * (k + 1)) = (sumB s).take (4 * k) ++ wb (nx s k) := by
  rcases (show k = 0 ∨ k = 1 ∨ k = 2 ∨ k = 3 ∨ k = 4 by omega) with rfl | rfl | rfl | rfl | rfl <;> rfl
theorem Blk.belowAt {B : Nat} {w w' : World} {b : Nat} {cs : List Value} (h : Blk w b cs) (k : Below B w w') (hb : b < B) : Blk w' b cs := by
  obtain ⟨t, h⟩ := h
  exact ⟨t, (k.block b hb).trans h⟩

attribute [local go_sem ↓] Go.wp_at_zero Go.wp_at_succ
set_option maxRecDepth 100000 in
set_option maxHeartbeats 40000000 in
theorem rSha1_any (l : List UInt8) (hl : l.length ≤ 140737488355000) (w : World) : Calls Tryd.prog 13 #[.string (str l)] w fun e w' => e = .returned (.string (str (shaR l))) ∧ Below w.heap.size w w' := by
  have hz5 := zero5
  have hz8 := zero80
  obtain ⟨n, hn⟩ : ∃ n, n = l.length := ⟨_, rfl⟩
  obtain ⟨z, hz⟩ : ∃ z, z = (119 - n % 64) % 64 := ⟨_, rfl⟩
  have hz64 : z < 64 := by omega
  have hzm : (n + 1 + z) % 64 = 56 := by omega
  have hzk : ∀ k, k < z → ¬ (n + 1 + k) % 64 = 56 := by intro k hk; omega
  have hss : (str l).size = n := by rw [str_size, hn]
  have HM : Hid (l ++ pad n = pz l z ++ be8 (8 * n)) := (by rw [hz]; unfold pz pad; rw [List.append_assoc] : l ++ pad n = pz l z ++ be8 (8 * n))
  have HR : Hid (shaR l = sumB (runS h0 (l ++ pad n))) := (by rw [hn]; rfl : shaR l = sumB (runS h0 (l ++ pad n)))
  have HN : Hid (n = l.length) := hn
  have HRw : Hid (RowM w.heap.size _ w.heap.size _ l) := RowM.conv w l (by omega)
  have HBc : Hid (Below w.heap.size w (w.drew.alloc (.cells (bytesRow (str l) (grownCap w (str l).size 0 5)) 5 ((bytesRow (str l) (grownCap w (str l).size 0 5)).size, (bytesRow (str l) (grownCap w (str l).size 0 5)).size + 1)))) := (Below.refl _ w).drew.alloc (Nat.le_refl _) _
  have hcv := run_bytes_of_string (P := Tryd.prog) w 9 34 5 (str l) Tryd.underlying9 Tryd.underlying34 Tryd.underlying5
  have hnb : n ≤ 140737488355000 := by omega
  clear hz hn hl
  generalize hW1 : w.drew.alloc (.cells (bytesRow (str l) (grownCap w (str l).size 0 5)) 5 ((bytesRow (str l) (grownCap w (str l).size 0 5)).size, (bytesRow (str l) (grownCap w (str l).size 0 5)).size + 1)) = W1 at *
  clear hW1
  generalize grownCap w (str l).size 0 5 = cap0 at *
  rw [hss] at hcv
  have hB1 := HBc.out.size
  go_enter Tryd.func13, Tryd.ntmps13
  go_wp2_with (at_builtin; go_must (refine wp_appM rfl (.tmp 22) (.tmp 23) rfl w.heap.size w.heap.size cap0 n l 128 W1 _ rfl rfl HN.out HRw.out rfl (by have := HN.out; omega) hB1 ?_))
  intro g1 cap1 w1 HR1 HB1
  have HB1' : Hid (Below w.heap.size w w1) := HBc.out.trans HB1.out
  clear hcv HRw HBc HB1 hB1
  go_wp2
  go_loopw [3] (fun v wr => ∃ g cap k : Nat, k ≤ z ∧ v = .slice (some ⟨g, 0, none⟩) (n + 1 + k) cap ∧ Hid (RowM w.heap.size wr g cap (pz l k)) ∧ Hid (Below w.heap.size w wr)) (fun v _ => n + 1 + z - (match v with | .slice _ m _ => m | _ => 0))
  case atStart => exact ⟨g1, cap1, 0, by omega, rfl, (by rw [← pz_zero]; exact HR1.out : RowM _ _ _ _ _), HB1'.out⟩
  case round =>
    obtain ⟨g, cap, k, hk, rfl, HV, HB⟩ := hrel
    clear HR1 HB1'
    have hsz := HB.out.size
    by_cases hkz : k < z
    · have hne := hzk k hkz
      have hnei : (((n + 1 + k : Nat) : Int) % 64 != 56) = true := by simp; omega
      have HLn : Hid (n + 1 + k = (pz l k).length) := (by rw [pz_length, ← HN.out] : n + 1 + k = (pz l k).length)
      have HLb : Hid ((pz l k).length + 1 ≤ 140737488355328) := (by rw [← HLn.out]; omega : (pz l k).length + 1 ≤ 140737488355328)
      have HNx : Hid (pz l (k + 1) = pz l k ++ [0]) := pz_succ l k
      go_wp2_with (at_builtin; go_must (refine wp_appM rfl (.tmp 29) (.tmp 30) rfl w.heap.size g cap (n + 1 + k) (pz l k) 0 wr _ rfl rfl HLn.out HV.out rfl HLb.out hsz ?_))
      intro g' cap' w' ho hb
      go_wp2
      exact ⟨⟨g', cap', k + 1, by omega, rfl, (by rw [HNx.out]; exact ho.out : RowM w.heap.size w' g' cap' (pz l (k + 1))), HB.out.trans hb.out⟩, by simp; omega⟩
    · obtain rfl : k = z := by omega
      obtain ⟨L, hL⟩ : ∃ L, L = n + 1 + k := ⟨_, rfl⟩
      rw [← hL] at hzm ⊢
      have h56 : ((L : Nat) : Int) % 64 = 56 := by omega
      have hLb : L ≤ 140737488355100 := by omega
      have HL : Hid (L = n + 1 + k) := hL
      clear hzk hL hkz hk
      go_wp2
      rw [h56]
      go_loopw [3, 5] (fun v i wr => ∃ g cap j : Nat, j ≤ 8 ∧ i = .int .i64 (j : Int) ∧ v = .slice (some ⟨g, 0, none⟩) (L + j) cap ∧ Hid (RowM w.heap.size wr g cap (pe l k n j)) ∧ Hid (Below w.heap.size w wr)) (fun _ i _ => 8 - (intOf i).toNat)
      case atStart => exact ⟨g, cap, 0, by omega, rfl, rfl, (by rw [pe_zero]; exact HV.out : RowM _ _ _ _ _), HB.out⟩
      case round =>
        clear HV HB hsz
        obtain ⟨g, cap, j, hj, rfl, rfl, HV, HB⟩ := hrel
        have hsz := HB.out.size
        by_cases hj8 : j < 8
        · have HN2 : Hid (pe l k n (j + 1) = pe l k n j ++ [UInt8.ofNat (8 * n / 2 ^ (56 - 8 * j) % 256)]) := pe_succ l k n j hj8
          have HLn : Hid (L + j = (pe l k n j).length) := (by rw [pe_length l k n j hj, ← HN.out, HL.out] : L + j = (pe l k n j).length)
          have HLb : Hid ((pe l k n j).length + 1 ≤ 140737488355328) := (by rw [← HLn.out]; omega : (pe l k n j).length + 1 ≤ 140737488355328)
          rcases (show j = 0 ∨ j = 1 ∨ j = 2 ∨ j = 3 ∨ j = 4 ∨ j = 5 ∨ j = 6 ∨ j = 7 by omega) with rfl | rfl | rfl | rfl | rfl | rfl | rfl | rfl
          · have hq : ((n : Nat) : Int) * 8 / 72057594037927936 = ((UInt8.ofNat (8 * n / 2 ^ (56 - 8 * 0) % 256)).toNat : Int) := by rw [ofNat_lt (by omega)]; omega
            generalize UInt8.ofNat (8 * n / 2 ^ (56 - 8 * 0) % 256) = u at *
            go_wp2_with (at_builtin; go_must (refine wp_appM rfl (.tmp 40) (.tmp 48) rfl w.heap.size g cap (L + 0) (pe l k n 0) u wr _ (by simp [bv, hq]) rfl HLn.out HV.out rfl HLb.out hsz ?_))
            intro g' cap' w' ho hb
            go_wp2
            go_roundw
            case rel => exact ⟨g', cap', 0 + 1, by omega, by go_num, rfl, (by rw [HN2.out]; exact ho.out : RowM w.heap.size w' g' cap' (pe l k n (0 + 1))), HB.out.trans hb.out⟩
            case measure => simp [intOf]
          · have hq : ((n : Nat) : Int) * 8 / 281474976710656 = ((UInt8.ofNat (8 * n / 2 ^ (56 - 8 * 1) % 256)).toNat : Int) := by rw [ofNat_lt (by omega)]; omega
            generalize UInt8.ofNat (8 * n / 2 ^ (56 - 8 * 1) % 256) = u at *
            go_wp2_with (at_builtin; go_must (refine wp_appM rfl (.tmp 40) (.tmp 48) rfl w.heap.size g cap (L + 1) (pe l k n 1) u wr _ (by simp [bv, hq]) rfl HLn.out HV.out rfl HLb.out hsz ?_))
            intro g' cap' w' ho hb
            go_wp2
            go_roundw
            case rel => exact ⟨g', cap', 1 + 1, by omega, by go_num, rfl, (by rw [HN2.out]; exact ho.out : RowM w.heap.size w' g' cap' (pe l k n (1 + 1))), HB.out.trans hb.out⟩
            case measure => simp [intOf]
          · have hq : (((n : Nat) : Int) * 8 / 1099511627776) % 256 = ((UInt8.ofNat (8 * n / 2 ^ (56 - 8 * 2) % 256)).toNat : Int) := by rw [ofNat_lt (by omega)]; omega
            generalize UInt8.ofNat (8 * n / 2 ^ (56 - 8 * 2) % 256) = u at *
            go_wp2_with (at_builtin; go_must (refine wp_appM rfl (.tmp 40) (.tmp 48) rfl w.heap.size g cap (L + 2) (pe l k n 2) u wr _ (by simp [bv, hq]) rfl HLn.out HV.out rfl HLb.out hsz ?_))
            intro g' cap' w' ho hb
            go_wp2
            go_roundw
            case rel => exact ⟨g', cap', 2 + 1, by omega, by go_num, rfl, (by rw [HN2.out]; exact ho.out : RowM w.heap.size w' g' cap' (pe l k n (2 + 1))), HB.out.trans hb.out⟩
            case measure => simp [intOf]
          · have hq : (((n : Nat) : Int) * 8 / 4294967296) % 256 = ((UInt8.ofNat (8 * n / 2 ^ (56 - 8 * 3) % 256)).toNat : Int) := by rw [ofNat_lt (by omega)]; omega
            generalize UInt8.ofNat (8 * n / 2 ^ (56 - 8 * 3) % 256) = u at *
            go_wp2_with (at_builtin; go_must (refine wp_appM rfl (.tmp 40) (.tmp 48) rfl w.heap.size g cap (L + 3) (pe l k n 3) u wr _ (by simp [bv, hq]) rfl HLn.out HV.out rfl HLb.out hsz ?_))
            intro g' cap' w' ho hb
            go_wp2
            go_roundw
            case rel => exact ⟨g', cap', 3 + 1, by omega, by go_num, rfl, (by rw [HN2.out]; exact ho.out : RowM w.heap.size w' g' cap' (pe l k n (3 + 1))), HB.out.trans hb.out⟩
            case measure => simp [intOf]
          · have hq : (((n : Nat) : Int) * 8 / 16777216) % 256 = ((UInt8.ofNat (8 * n / 2 ^ (56 - 8 * 4) % 256)).toNat : Int) := by rw [ofNat_lt (by omega)]; omega
            generalize UInt8.ofNat (8 * n / 2 ^ (56 - 8 * 4) % 256) = u at *
            go_wp2_with (at_builtin; go_must (refine wp_appM rfl (.tmp 40) (.tmp 48) rfl w.heap.size g cap (L + 4) (pe l k n 4) u wr _ (by simp [bv, hq]) rfl HLn.out HV.out rfl HLb.out hsz ?_))
            intro g' cap' w' ho hb
            go_wp2
            go_roundw
            case rel => exact ⟨g', cap', 4 + 1, by omega, by go_num, rfl, (by rw [HN2.out]; exact ho.out : RowM w.heap.size w' g' cap' (pe l k n (4 + 1))), HB.out.trans hb.out⟩
            case measure => simp [intOf]
          · have hq : (((n : Nat) : Int) * 8 / 65536) % 256 = ((UInt8.ofNat (8 * n / 2 ^ (56 - 8 * 5) % 256)).toNat : Int) := by rw [ofNat_lt (by omega)]; omega
            generalize UInt8.ofNat (8 * n / 2 ^ (56 - 8 * 5) % 256) = u at *
            go_wp2_with (at_builtin; go_must (refine wp_appM rfl (.tmp 40) (.tmp 48) rfl w.heap.size g cap (L + 5) (pe l k n 5) u wr _ (by simp [bv, hq]) rfl HLn.out HV.out rfl HLb.out hsz ?_))
            intro g' cap' w' ho hb
            go_wp2
            go_roundw
            case rel => exact ⟨g', cap', 5 + 1, by omega, by go_num, rfl, (by rw [HN2.out]; exact ho.out : RowM w.heap.size w' g' cap' (pe l k n (5 + 1))), HB.out.trans hb.out⟩
            case measure => simp [intOf]
          · have hq : (((n : Nat) : Int) * 8 / 256) % 256 = ((UInt8.ofNat (8 * n / 2 ^ (56 - 8 * 6) % 256)).toNat : Int) := by rw [ofNat_lt (by omega)]; omega
            generalize UInt8.ofNat (8 * n / 2 ^ (56 - 8 * 6) % 256) = u at *
            go_wp2_with (at_builtin; go_must (refine wp_appM rfl (.tmp 40) (.tmp 48) rfl w.heap.size g cap (L + 6) (pe l k n 6) u wr _ (by simp [bv, hq]) rfl HLn.out HV.out rfl HLb.out hsz ?_))
            intro g' cap' w' ho hb
            go_wp2
            go_roundw
            case rel => exact ⟨g', cap', 6 + 1, by omega, by go_num, rfl, (by rw [HN2.out]; exact ho.out : RowM w.heap.size w' g' cap' (pe l k n (6 + 1))), HB.out.trans hb.out⟩
            case measure => simp [intOf]
          · have hq : (((n : Nat) : Int) * 8) % 256 = ((UInt8.ofNat (8 * n / 2 ^ (56 - 8 * 7) % 256)).toNat : Int) := by rw [ofNat_lt (by omega)]; omega
            generalize UInt8.ofNat (8 * n / 2 ^ (56 - 8 * 7) % 256) = u at *
            go_wp2_with (at_builtin; go_must (refine wp_appM rfl (.tmp 40) (.tmp 48) rfl w.heap.size g cap (L + 7) (pe l k n 7) u wr _ (by simp [bv, hq]) rfl HLn.out HV.out rfl HLb.out hsz ?_))
            intro g' cap' w' ho hb
            go_wp2
            go_roundw
            case rel => exact ⟨g', cap', 7 + 1, by omega, by go_num, rfl, (by rw [HN2.out]; exact ho.out : RowM w.heap.size w' g' cap' (pe l k n (7 + 1))), HB.out.trans hb.out⟩
            case measure => simp [intOf]
        · obtain rfl : j = 8 := by omega
          have HV2 : Hid (RowM w.heap.size wr g cap (l ++ pad n)) := (by have := HV.out; rw [pe_eight, ← HM.out] at this; exact this : RowM w.heap.size wr g cap (l ++ pad n))
          have HLN : Hid ((l ++ pad n).length = L + 8) := (by rw [HM.out, List.length_append, pz_length, ← HN.out, be8_length, HL.out] : (l ++ pad n).length = L + 8)
          have h64 : (L + 8) % 64 = 0 := by omega
          clear HV HM
          generalize l ++ pad n = M at *
          obtain ⟨N, hN⟩ : ∃ N, L + 8 = N := ⟨_, rfl⟩
          rw [hN] at h64 HLN ⊢
          have hNb : N ≤ 140737488355328 := by omega
          clear hN
          rw [show (((8 : Nat)) : Int) = (8 : Int) from rfl]
          have HA5 : Hid ((wv h0.l).toArray.all (·.oneCell') = true) := all_oneCell_toArray (wv_one _)
          have HI5 : Hid ((Tryd.prog.info? 46).map (·.size) = some (wv h0.l).toArray.size) := size5
          have HT5 : Hid (∀ t, (wr.alloc (.cells (wv (zs 5)).toArray t)).there wr.heap.size 0 (wv h0.l).toArray.size) := fun t => (Blk.new wr (wv (zs 5)) t).there _ (by decide)
          go_wp2_with (refine wpList_store_mid rfl 46 (.tmp 6) (.tmp 50) rfl wr.heap.size 0 (wv h0.l).toArray rfl rfl (HT5.out _) HI5.out HA5.out ?_)
          have HX : Hid (∀ t, ∃ W, (wr.alloc (.cells (wv (zs 5)).toArray t)).setCells wr.heap.size 0 (wv h0.l).toArray.toList = W ∧ Blk W wr.heap.size (wv h0.l) ∧ RowM w.heap.size W g cap M ∧ Below w.heap.size w W) := fun t => ⟨_, rfl, (Blk.new wr (wv (zs 5)) t).whole rfl, (HV2.out.alloc _).but (but_setCells (But.refl [wr.heap.size] _)) (by have := HV2.out.lt; simp; omega), bel_setCells (HB.out.alloc hsz _) hsz _ _⟩
          obtain ⟨W, hW, K0, HVW, HBW⟩ := HX.out 46
          rw [hW]
          have HK0 : Hid (Blk W wr.heap.size (wv (runS h0 (M.take (64 * 0))).l)) := (by rw [Nat.mul_zero, List.take_zero]; exact K0 : Blk W wr.heap.size (wv (runS h0 (M.take (64 * 0))).l))
          have HgB : Hid (g ≠ wr.heap.size) := (by have := HV2.out.lt; omega : g ≠ wr.heap.size)
          have HVW' : Hid (RowM w.heap.size W g cap M) := HVW
          have HBW' : Hid (Below w.heap.size w W) := HBW
          have hBh : w.heap.size ≤ wr.heap.size := hsz
          clear hW K0 HVW HBW HX HT5 HI5 HA5 HV2 HB hsz hj8 hj
          generalize wr.heap.size = Bh at *
          clear wr
          go_wp2
          go_loopw [7] (fun at_ wr => ∃ q a : Nat, Hid (a = 64 * q) ∧ a ≤ N ∧ at_ = .int .i64 (a : Int) ∧ Hid (Blk wr Bh (wv (runS h0 (M.take (64 * q))).l)) ∧ Hid (RowM w.heap.size wr g cap M) ∧ Hid (Below w.heap.size w wr)) (fun at_ _ => N - (intOf at_).toNat)
          case atStart => exact ⟨0, 0, rfl, by omega, rfl, HK0.out, HVW'.out, HBW'.out⟩
          case round =>
            obtain ⟨q, a, HQ, haN, rfl, K0, HV, HB⟩ := hrel
            clear HK0 HVW' HBW' HL hzm h56 hLb
            have hsz := HB.out.size
            by_cases hlt : a < N
            · have ha64 : a + 64 ≤ N := by have := HQ.out; omega
              have hlti : ((a : Nat) : Int) < (N : Int) := by omega
              have HP : Hid ((bl M q).length = 64) := bl_length M q (by rw [HLN.out]; have := HQ.out; omega)
              have HG : Hid (∀ i, i < 64 → M.getD (a + i) 0 = (bl M q).getD i 0) := fun i hi => by rw [bl_get M q i hi, HQ.out]
              have HSt : Hid (runS h0 (M.take (64 * (q + 1))) = stirS (runS h0 (M.take (64 * q))) (bl M q)) := runS_step M q (by rw [HLN.out]; have := HQ.out; omega)
              have HOk : Hid ((runS h0 (M.take (64 * q))).ok) := runS_ok h0 h0_ok _
              generalize bl M q = p at *
              generalize runS h0 (M.take (64 * q)) = s at *
              have HZ : Hid ((wv (zs 80)).length = 80) := (by rw [wv_length]; unfold zs; simp : (wv (zs 80)).length = 80)
              have HA : Hid ((wv (zs 80)).toArray.all (·.oneCell') = true) := all_oneCell_toArray (wv_one _)
              have HI : Hid ((Tryd.prog.info? 47).map (·.size) = some (wv (zs 80)).toArray.size) := (by rw [List.size_toArray, HZ.out]; exact size80 : (Tryd.prog.info? 47).map (·.size) = some (wv (zs 80)).toArray.size)
              have HT : Hid (∀ t, (wr.alloc (.cells (wv (zs 80)).toArray t)).there wr.heap.size 0 (wv (zs 80)).toArray.size) := fun t => (Blk.new wr (wv (zs 80)) t).there _ (by simp)
              have HX : Hid (∀ t, ∃ W, (wr.alloc (.cells (wv (zs 80)).toArray t)).setCells wr.heap.size 0 (wv (zs 80)).toArray.toList = W ∧ Blk W wr.heap.size (wv (zs 80)) ∧ Blk W Bh (wv s.l) ∧ RowM w.heap.size W g cap M ∧ Below w.heap.size w W) := fun t => by
                have h1 := HV.out.lt
                have h2 := K0.out.lt
                exact ⟨_, rfl, (Blk.new wr (wv (zs 80)) t).whole rfl, (K0.out.alloc _).setCellsOther (by omega), (HV.out.alloc _).but (but_setCells (But.refl [wr.heap.size] _)) (by simp; omega), bel_setCells (HB.out.alloc hsz _) hsz _ _⟩
              have hB8 : Bh < wr.heap.size := K0.out.lt
              have hg8 : g < wr.heap.size := HV.out.lt
              go_wp2_with (refine wpList_store_mid rfl 47 (.tmp 8) (.tmp 57) rfl wr.heap.size 0 (wv (zs 80)).toArray rfl rfl (HT.out _) HI.out HA.out ?_)
              obtain ⟨W2, hW2, K8, K0', HV', HB'⟩ := HX.out 47
              rw [hW2]
              have HK8 : Hid (Blk W2 wr.heap.size (wv ((List.range 80).map (wst p 0)))) := (by rw [← range_zs 80 (wst p 0) (fun j _ => by unfold wst; rw [if_neg (by omega)])]; exact K8 : Blk W2 wr.heap.size (wv ((List.range 80).map (wst p 0))))
              have HK0' : Hid (Blk W2 Bh (wv s.l)) := K0'
              have HV2' : Hid (RowM w.heap.size W2 g cap M) := HV'
              have HB2' : Hid (Below w.heap.size w W2) := HB'
              clear hW2 K8 K0' HV' HB' HX HT HI HA HZ K0 HV HB
              generalize wr.heap.size = B8 at *
              clear wr
              go_wp2
              go_loopw [9] (fun i wr => ∃ t : Nat, t ≤ 80 ∧ i = .int .i64 (t : Int) ∧ Hid (Blk wr B8 (wv ((List.range 80).map (wst p t)))) ∧ Hid (Blk wr Bh (wv s.l)) ∧ Hid (RowM w.heap.size wr g cap M) ∧ Hid (Below w.heap.size w wr)) (fun i _ => 80 - (intOf i).toNat)
              case atStart => exact ⟨0, by omega, rfl, HK8.out, HK0'.out, HV2'.out, HB2'.out⟩
              case round =>
                obtain ⟨t, ht, rfl, K8, K0, HV, HB⟩ := hrel
                clear HK8 HK0' HV2' HB2'
                by_cases ht80 : t < 80
                · have hti : ((t : Nat) : Int) < 80 := by omega
                  have c0 : wr.drew.cell? ⟨B8, t, none⟩ = some (.int .u32 0) := K8.out.cell _ _ (by rw [range_get 80 t _ (by omega)]; unfold wst; rw [if_neg (by omega)])
                  have f0 : wr.drew.frozen? ⟨B8, t, none⟩ = false := K8.out.free t
                  have HN : Hid (Blk (wr.setCell ⟨B8, t, none⟩ (.int .u32 (wsch p t))).drew B8 (wv ((List.range 80).map (wst p (t + 1))))) := by
                    have := K8.out.set t (.int .u32 (wsch p t))
                    rwa [range_set 80 t _ (wst p (t + 1)) _ (by omega) (by unfold wst; rw [if_pos (by omega)]) (fun j _ hj => by unfold wst; by_cases h : j < t; rw [if_pos (by omega), if_pos h]; rw [if_neg (by omega), if_neg h])] at this
                  have HK2 : Hid (∀ v, Blk (wr.setCell ⟨B8, t, none⟩ v).drew Bh (wv s.l)) := fun v => K0.out.setOther (by omega) _ _
                  have HV2 : Hid (∀ v, RowM w.heap.size (wr.setCell ⟨B8, t, none⟩ v).drew g cap M) := fun v => (HV.out.setOther (b := B8) (j := t) (by omega) v).block rfl
                  have HB2 : Hid (∀ v, Below w.heap.size w (wr.setCell ⟨B8, t, none⟩ v).drew) := fun v => (HB.out.setCell (by simp; omega) _).drew
                  by_cases ht16 : t < 16
                  · as_aux_lemma =>
                      have h16 : ((t : Nat) : Int) < 16 := by omega
                      have HOr : Hid (bits .or .u32 (bits .or .u32 (bits .or .u32 (((p.getD (4 * t) 0).toNat : Int) * 16777216) (((p.getD (4 * t + 1) 0).toNat : Int) * 65536)) (((p.getD (4 * t + 2) 0).toNat : Int) * 256)) ((p.getD (4 * t + 3) 0).toNat : Int) = wsch p t) := (by rw [or_four, wsch_lt p t ht16, pw_four p HP.out t ht16] : _ = wsch p t)
                      have HCl : Hid (∀ i, i < 64 → wr.cell? ⟨g, a + i, none⟩ = some (.int .u8 ((p.getD i 0).toNat : Int))) := fun i hi => by rw [← HG.out i hi]; exact HV.out.cell _ (by rw [HLN.out]; omega)
                      have d0 : wr.drew.cell? ⟨g, a + 4 * t, none⟩ = some (.int .u8 ((p.getD (4 * t) 0).toNat : Int)) := HCl.out _ (by omega)
                      have d1 : wr.drew.cell? ⟨g, a + 4 * t + 1, none⟩ = some (.int .u8 ((p.getD (4 * t + 1) 0).toNat : Int)) := (by have h := HCl.out (4 * t + 1) (by omega); rw [← Nat.add_assoc] at h; exact h)
                      have d2 : wr.drew.cell? ⟨g, a + 4 * t + 2, none⟩ = some (.int .u8 ((p.getD (4 * t + 2) 0).toNat : Int)) := (by have h := HCl.out (4 * t + 2) (by omega); rw [← Nat.add_assoc] at h; exact h)
                      have d3 : wr.drew.cell? ⟨g, a + 4 * t + 3, none⟩ = some (.int .u8 ((p.getD (4 * t + 3) 0).toNat : Int)) := (by have h := HCl.out (4 * t + 3) (by omega); rw [← Nat.add_assoc] at h; exact h)
                      have HKp : Hid (∀ v x u, wr.drew.cell? ⟨g, x, none⟩ = some u → (wr.setCell ⟨B8, t, none⟩ v).drew.cell? ⟨g, x, none⟩ = some u) := fun v x u h => (World.cell?_setCell_other wr _ _ _ (by intro e; injection e with e1 e2; omega)).trans h
                      have w4 : IntKind.i64.wrap (4 * (t : Int)) = 4 * (t : Int) := by rw [IntKind.wrap_i64]; omega
                      have e0 : (a : Int) + 4 * (t : Int) = ((a + 4 * t : Nat) : Int) := by omega
                      have w0 : IntKind.i64.wrap ((a + 4 * t : Nat) : Int) = ((a + 4 * t : Nat) : Int) := by rw [IntKind.wrap_i64]; omega
                      have z0 : (0 : Int) ≤ ((a + 4 * t : Nat) : Int) := by omega
                      have b0 : ((a + 4 * t : Nat) : Int) < (N : Int) := by omega
                      have e1 : ((a + 4 * t : Nat) : Int) + 1 = ((a + 4 * t + 1 : Nat) : Int) := by omega
                      have w1 : IntKind.i64.wrap ((a + 4 * t + 1 : Nat) : Int) = ((a + 4 * t + 1 : Nat) : Int) := by rw [IntKind.wrap_i64]; omega
                      have z1 : (0 : Int) ≤ ((a + 4 * t + 1 : Nat) : Int) := by omega
                      have b1 : ((a + 4 * t + 1 : Nat) : Int) < (N : Int) := by omega
                      have e2 : ((a + 4 * t : Nat) : Int) + 2 = ((a + 4 * t + 2 : Nat) : Int) := by omega
                      have w2 : IntKind.i64.wrap ((a + 4 * t + 2 : Nat) : Int) = ((a + 4 * t + 2 : Nat) : Int) := by rw [IntKind.wrap_i64]; omega
                      have z2 : (0 : Int) ≤ ((a + 4 * t + 2 : Nat) : Int) := by omega
                      have b2 : ((a + 4 * t + 2 : Nat) : Int) < (N : Int) := by omega
                      have e3 : ((a + 4 * t : Nat) : Int) + 3 = ((a + 4 * t + 3 : Nat) : Int) := by omega
                      have w3 : IntKind.i64.wrap ((a + 4 * t + 3 : Nat) : Int) = ((a + 4 * t + 3 : Nat) : Int) := by rw [IntKind.wrap_i64]; omega
                      have z3 : (0 : Int) ≤ ((a + 4 * t + 3 : Nat) : Int) := by omega
                      have b3 : ((a + 4 * t + 3 : Nat) : Int) < (N : Int) := by omega
                      generalize a + 4 * t + 3 = x3 at *
                      generalize a + 4 * t + 2 = x2 at *
                      generalize a + 4 * t + 1 = x1 at *
                      generalize a + 4 * t = x0 at *
                      have l0 := (p.getD (4 * t) 0).toNat_lt
                      have l1 := (p.getD (4 * t + 1) 0).toNat_lt
                      have l2 := (p.getD (4 * t + 2) 0).toNat_lt
                      have l3 := (p.getD (4 * t + 3) 0).toNat_lt
                      generalize (p.getD (4 * t) 0).toNat = u0 at *
                      generalize (p.getD (4 * t + 1) 0).toNat = u1 at *
                      generalize (p.getD (4 * t + 2) 0).toNat = u2 at *
                      generalize (p.getD (4 * t + 3) 0).toNat = u3 at *
                      have m0 : IntKind.u32.wrap ((u0 : Int) * 16777216) = (u0 : Int) * 16777216 := by rw [IntKind.wrap_u32]; omega
                      have m1 : IntKind.u32.wrap ((u1 : Int) * 65536) = (u1 : Int) * 65536 := by rw [IntKind.wrap_u32]; omega
                      have m2 : IntKind.u32.wrap ((u2 : Int) * 256) = (u2 : Int) * 256 := by rw [IntKind.wrap_u32]; omega
                      have v0 : IntKind.u32.wrap (u0 : Int) = (u0 : Int) := by rw [IntKind.wrap_u32]; omega
                      have v1 : IntKind.u32.wrap (u1 : Int) = (u1 : Int) := by rw [IntKind.wrap_u32]; omega
                      have v2 : IntKind.u32.wrap (u2 : Int) = (u2 : Int) := by rw [IntKind.wrap_u32]; omega
                      have v3 : IntKind.u32.wrap (u3 : Int) = (u3 : Int) := by rw [IntKind.wrap_u32]; omega
                      clear HCl
                      go_wp2
                      go_region_held3 (fun X => X.cell? ⟨g, x0, none⟩ = some (.int .u8 (u0 : Int)) ∧ X.cell? ⟨g, x1, none⟩ = some (.int .u8 (u1 : Int)) ∧ X.cell? ⟨g, x2, none⟩ = some (.int .u8 (u2 : Int)) ∧ X.cell? ⟨g, x3, none⟩ = some (.int .u8 (u3 : Int))) (first | exact ⟨d0, d1, d2, d3⟩ | exact ⟨HKp.out _ _ _ d0, HKp.out _ _ _ d1, HKp.out _ _ _ d2, HKp.out _ _ _ d3⟩) (fail)
                      rw [HOr.out]
                      go_wp2
                      go_roundw
                      case rel => exact ⟨t + 1, by omega, by go_num, HN.out, HK2.out _, HV2.out _, HB2.out _⟩
                      case measure => simp [intOf]; omega
                  · as_aux_lemma =>
                      have h16 : ¬ ((t : Nat) : Int) < 16 := by omega
                      have hg : ∀ j, j < t → (wv ((List.range 80).map (wst p t)))[j]? = some (.int .u32 (wsch p j)) := fun j hj => by
                        rw [range_get 80 j _ (by omega)]
                        unfold wst
                        rw [if_pos hj]
                      have c3 : wr.drew.cell? ⟨B8, t - 3, none⟩ = some (.int .u32 (wsch p (t - 3))) := K8.out.cell _ _ (hg _ (by omega))
                      have c8 : wr.drew.cell? ⟨B8, t - 8, none⟩ = some (.int .u32 (wsch p (t - 8))) := K8.out.cell _ _ (hg _ (by omega))
                      have c14 : wr.drew.cell? ⟨B8, t - 14, none⟩ = some (.int .u32 (wsch p (t - 14))) := K8.out.cell _ _ (hg _ (by omega))
                      have c16 : wr.drew.cell? ⟨B8, t - 16, none⟩ = some (.int .u32 (wsch p (t - 16))) := K8.out.cell _ _ (hg _ (by omega))
                      have HX : Hid (rl1 (bits .xor .u32 (bits .xor .u32 (bits .xor .u32 (wsch p (t - 3)) (wsch p (t - 8))) (wsch p (t - 14))) (wsch p (t - 16))) = wsch p t) := (wsch_ge p t (by omega)).symm
                      have HC : Hid (∀ w, Calls Tryd.prog 24 #[.int .u32 (bits .xor .u32 (bits .xor .u32 (bits .xor .u32 (wsch p (t - 3)) (wsch p (t - 8))) (wsch p (t - 14))) (wsch p (t - 16))), .int .u64 1] w fun e w' => e = .returned (.int .u32 (rl1 (bits .xor .u32 (bits .xor .u32 (bits .xor .u32 (wsch p (t - 3)) (wsch p (t - 8))) (wsch p (t - 14))) (wsch p (t - 16))))) ∧ w' = w) := fun w => left1_any _ (bits_u32 _ _ _) w
                      have HKp : Hid (∀ v, (wr.setCell ⟨B8, t, none⟩ v).drew.cell? ⟨B8, t - 3, none⟩ = some (.int .u32 (wsch p (t - 3))) ∧ (wr.setCell ⟨B8, t, none⟩ v).drew.cell? ⟨B8, t - 8, none⟩ = some (.int .u32 (wsch p (t - 8))) ∧ (wr.setCell ⟨B8, t, none⟩ v).drew.cell? ⟨B8, t - 14, none⟩ = some (.int .u32 (wsch p (t - 14))) ∧ (wr.setCell ⟨B8, t, none⟩ v).drew.cell? ⟨B8, t - 16, none⟩ = some (.int .u32 (wsch p (t - 16)))) := fun v => ⟨(World.cell?_setCell_other wr _ _ _ (by intro e; injection e with _ e2; omega)).trans c3, (World.cell?_setCell_other wr _ _ _ (by intro e; injection e with _ e2; omega)).trans c8, (World.cell?_setCell_other wr _ _ _ (by intro e; injection e with _ e2; omega)).trans c14, (World.cell?_setCell_other wr _ _ _ (by intro e; injection e with _ e2; omega)).trans c16⟩
                      have e3 : ((t : Nat) : Int) - 3 = ((t - 3 : Nat) : Int) := by omega
                      have w3 : IntKind.i64.wrap ((t - 3 : Nat) : Int) = ((t - 3 : Nat) : Int) := by rw [IntKind.wrap_i64]; omega
                      have b3 : ((t - 3 : Nat) : Int) < 80 := by omega
                      have z3 : (0 : Int) ≤ ((t - 3 : Nat) : Int) := by omega
                      have e8 : ((t : Nat) : Int) - 8 = ((t - 8 : Nat) : Int) := by omega
                      have w8 : IntKind.i64.wrap ((t - 8 : Nat) : Int) = ((t - 8 : Nat) : Int) := by rw [IntKind.wrap_i64]; omega
                      have b8 : ((t - 8 : Nat) : Int) < 80 := by omega
                      have z8 : (0 : Int) ≤ ((t - 8 : Nat) : Int) := by omega
                      have e14 : ((t : Nat) : Int) - 14 = ((t - 14 : Nat) : Int) := by omega
                      have w14 : IntKind.i64.wrap ((t - 14 : Nat) : Int) = ((t - 14 : Nat) : Int) := by rw [IntKind.wrap_i64]; omega
                      have b14 : ((t - 14 : Nat) : Int) < 80 := by omega
                      have z14 : (0 : Int) ≤ ((t - 14 : Nat) : Int) := by omega
                      have e16 : ((t : Nat) : Int) - 16 = ((t - 16 : Nat) : Int) := by omega
                      have w16 : IntKind.i64.wrap ((t - 16 : Nat) : Int) = ((t - 16 : Nat) : Int) := by rw [IntKind.wrap_i64]; omega
                      have b16 : ((t - 16 : Nat) : Int) < 80 := by omega
                      have z16 : (0 : Int) ≤ ((t - 16 : Nat) : Int) := by omega
                      clear hg
                      generalize wsch p (t - 3) = x3 at *
                      generalize wsch p (t - 8) = x8 at *
                      generalize wsch p (t - 14) = x14 at *
                      generalize wsch p (t - 16) = x16 at *
                      generalize t - 3 = t3 at *
                      generalize t - 8 = t8 at *
                      generalize t - 14 = t14 at *
                      generalize t - 16 = t16 at *
                      go_wp2
                      go_region_held3 (fun W => W.cell? ⟨B8, t3, none⟩ = some (.int .u32 x3) ∧ W.cell? ⟨B8, t8, none⟩ = some (.int .u32 x8) ∧ W.cell? ⟨B8, t14, none⟩ = some (.int .u32 x14) ∧ W.cell? ⟨B8, t16, none⟩ = some (.int .u32 x16)) (first | exact ⟨c3, c8, c14, c16⟩ | exact HKp.out _) (first | (go_at_call 24; refine (HC.out _).mono ?_; rintro e w' ⟨rfl, rfl⟩))
                      rw [HX.out]
                      go_wp2
                      go_roundw
                      case rel => exact ⟨t + 1, by omega, by go_num, HN.out, HK2.out _, HV2.out _, HB2.out _⟩
                      case measure => simp [intOf]; omega
                · obtain rfl : t = 80 := by omega
                  have HG8 : Hid (∀ t, t < 80 → (wv ((List.range 80).map (wst p 80)))[t]? = some (.int .u32 (wsch p t))) := fun t ht => by rw [range_get 80 t _ ht]; unfold wst; rw [if_pos ht]
                  generalize wv ((List.range 80).map (wst p 80)) = cs at *
                  rw [show (((80 : Nat)) : Int) = (80 : Int) from rfl]
                  have ca : wr.drew.cell? ⟨Bh, 0, none⟩ = some (.int .u32 s.a) := K0.out.cell 0 _ rfl
                  have cb : wr.drew.cell? ⟨Bh, 1, none⟩ = some (.int .u32 s.b) := K0.out.cell 1 _ rfl
                  have cc : wr.drew.cell? ⟨Bh, 2, none⟩ = some (.int .u32 s.c) := K0.out.cell 2 _ rfl
                  have cd : wr.drew.cell? ⟨Bh, 3, none⟩ = some (.int .u32 s.d) := K0.out.cell 3 _ rfl
                  have ce : wr.drew.cell? ⟨Bh, 4, none⟩ = some (.int .u32 s.e) := K0.out.cell 4 _ rfl
                  go_wp2
                  go_region_held3 (fun X => X.cell? ⟨Bh, 0, none⟩ = some (.int .u32 s.a) ∧ X.cell? ⟨Bh, 1, none⟩ = some (.int .u32 s.b) ∧ X.cell? ⟨Bh, 2, none⟩ = some (.int .u32 s.c) ∧ X.cell? ⟨Bh, 3, none⟩ = some (.int .u32 s.d) ∧ X.cell? ⟨Bh, 4, none⟩ = some (.int .u32 s.e)) (exact ⟨ca, cb, cc, cd, ce⟩) (fail)
                  go_wp2
                  go_loopw [10, 11, 12, 13, 14, 15] (fun a b c d e i wr => ∃ t : Nat, t ≤ 80 ∧ i = .int .i64 (t : Int) ∧ a = .int .u32 (rnds (wsch p) t s).a ∧ b = .int .u32 (rnds (wsch p) t s).b ∧ c = .int .u32 (rnds (wsch p) t s).c ∧ d = .int .u32 (rnds (wsch p) t s).d ∧ e = .int .u32 (rnds (wsch p) t s).e ∧ Hid (Blk wr B8 cs) ∧ Hid (Blk wr Bh (wv s.l)) ∧ Hid (RowM w.heap.size wr g cap M) ∧ Hid (Below w.heap.size w wr)) (fun _ _ _ _ _ i _ => 80 - (intOf i).toNat)
                  case atStart => exact ⟨0, by omega, rfl, rfl, rfl, rfl, rfl, rfl, K8.out, K0.out, HV.out.block rfl, HB.out.drew⟩
                  case round =>
                    clear K8 K0 HV HB ca cb cc cd ce ht80 ht
                    obtain ⟨t, ht, rfl, rfl, rfl, rfl, rfl, rfl, K8, K0, HV, HB⟩ := hrel
                    obtain ⟨uA, uB, uC, uD, uE⟩ := rnds_ok (wsch p) s HOk.out t
                    by_cases hlt2 : t < 80
                    · have hti : ((t : Nat) : Int) < 80 := by omega
                      have hcw : wr.drew.cell? ⟨B8, t, none⟩ = some (.int .u32 (wsch p t)) := K8.out.cell t _ (HG8.out t hlt2)
                      have HS1 : Hid (rnds (wsch p) (t + 1) s = ⟨tt (wsch p) t (rnds (wsch p) t s).a (rnds (wsch p) t s).b (rnds (wsch p) t s).c (rnds (wsch p) t s).d (rnds (wsch p) t s).e, (rnds (wsch p) t s).a, rl30 (rnds (wsch p) t s).b, (rnds (wsch p) t s).c, (rnds (wsch p) t s).d⟩) := rfl
                      have uW := wsch_u p t
                      generalize (rnds (wsch p) t s).a = A at *
                      generalize (rnds (wsch p) t s).b = B at *
                      generalize (rnds (wsch p) t s).c = C at *
                      generalize (rnds (wsch p) t s).d = D at *
                      generalize (rnds (wsch p) t s).e = E at *
                      have u5 := rl5_u A
                      obtain ⟨a0, a1⟩ := uA
                      have uA : U32 A := ⟨a0, a1⟩
                      obtain ⟨b0, b1⟩ := uB
                      have uB : U32 B := ⟨b0, b1⟩
                      obtain ⟨e0, e1⟩ := uE
                      rcases (show t < 20 ∨ (20 ≤ t ∧ t < 40) ∨ (40 ≤ t ∧ t < 60) ∨ 60 ≤ t by omega) with h | ⟨h, h'⟩ | ⟨h, h'⟩ | h
                      · as_aux_lemma =>
                          have HF : Hid (ff t B C D = bits .or .u32 (bits .and .u32 B C) (bits .and .u32 (bits .xor .u32 IntKind.u32.max B) D)) := (by unfold ff; rw [if_pos (by omega)] : ff t B C D = bits .or .u32 (bits .and .u32 B C) (bits .and .u32 (bits .xor .u32 IntKind.u32.max B) D))
                          have HKK : Hid (kk t = 1518500249) := (by unfold kk; rw [if_pos (by omega)] : kk t = 1518500249)
                          have HT : Hid (IntKind.u32.wrap (IntKind.u32.wrap (IntKind.u32.wrap (IntKind.u32.wrap (rl5 A + bits .or .u32 (bits .and .u32 B C) (bits .and .u32 (bits .xor .u32 IntKind.u32.max B) D)) + E) + 1518500249) + wsch p t) = tt (wsch p) t A B C D E) := (by unfold tt; rw [HF.out, HKK.out] : _ = tt (wsch p) t A B C D E)
                          have fu : U32 (bits .or .u32 (bits .and .u32 B C) (bits .and .u32 (bits .xor .u32 IntKind.u32.max B) D)) := bits_u32 _ _ _
                          have q0 : ¬ (60 : Int) ≤ (t : Int) := by omega
                          have q1 : ¬ (40 : Int) ≤ (t : Int) := by omega
                          have q2 : ¬ (20 : Int) ≤ (t : Int) := by omega
                          clear HF HKK
                          go_wp2
                          go_region_held3 (fun X => X.cell? ⟨B8, t, none⟩ = some (.int .u32 (wsch p t))) (exact hcw) (first | (go_at_call 24; refine (left5_any A uA _).mono ?_; rintro e w' ⟨rfl, rfl⟩))
                          go_wp2_with fail
                          refine (left30_any B uB _).mono ?_
                          rintro e w' ⟨rfl, hw'⟩
                          rw [hw']
                          clear hw' w'
                          go_wp2
                          exact ⟨⟨t + 1, by omega, by go_num, by rw [HS1.out, HT.out], by rw [HS1.out], by rw [HS1.out], by rw [HS1.out], by rw [HS1.out], K8.out, K0.out, HV.out.block rfl, HB.out.drew⟩, by simp [intOf]; omega⟩
                      · as_aux_lemma =>
                          have HF : Hid (ff t B C D = bits .xor .u32 (bits .xor .u32 B C) D) := (by unfold ff; rw [if_neg (by omega)]; rw [if_pos (by omega)] : ff t B C D = bits .xor .u32 (bits .xor .u32 B C) D)
                          have HKK : Hid (kk t = 1859775393) := (by unfold kk; rw [if_neg (by omega)]; rw [if_pos (by omega)] : kk t = 1859775393)
                          have HT : Hid (IntKind.u32.wrap (IntKind.u32.wrap (IntKind.u32.wrap (IntKind.u32.wrap (rl5 A + bits .xor .u32 (bits .xor .u32 B C) D) + E) + 1859775393) + wsch p t) = tt (wsch p) t A B C D E) := (by unfold tt; rw [HF.out, HKK.out] : _ = tt (wsch p) t A B C D E)
                          have fu : U32 (bits .xor .u32 (bits .xor .u32 B C) D) := bits_u32 _ _ _
                          have q0 : ¬ (60 : Int) ≤ (t : Int) := by omega
                          have q1 : ¬ (40 : Int) ≤ (t : Int) := by omega
                          have q2 : (20 : Int) ≤ (t : Int) := by omega
                          clear HF HKK
                          go_wp2
                          go_region_held3 (fun X => X.cell? ⟨B8, t, none⟩ = some (.int .u32 (wsch p t))) (exact hcw) (first | (go_at_call 24; refine (left5_any A uA _).mono ?_; rintro e w' ⟨rfl, rfl⟩))
                          go_wp2_with fail
                          refine (left30_any B uB _).mono ?_
                          rintro e w' ⟨rfl, hw'⟩
                          rw [hw']
                          clear hw' w'
                          go_wp2
                          exact ⟨⟨t + 1, by omega, by go_num, by rw [HS1.out, HT.out], by rw [HS1.out], by rw [HS1.out], by rw [HS1.out], by rw [HS1.out], K8.out, K0.out, HV.out.block rfl, HB.out.drew⟩, by simp [intOf]; omega⟩
                      · as_aux_lemma =>
                          have HF : Hid (ff t B C D = bits .or .u32 (bits .or .u32 (bits .and .u32 B C) (bits .and .u32 B D)) (bits .and .u32 C D)) := (by unfold ff; rw [if_neg (by omega)]; rw [if_neg (by omega)]; rw [if_pos (by omega)] : ff t B C D = bits .or .u32 (bits .or .u32 (bits .and .u32 B C) (bits .and .u32 B D)) (bits .and .u32 C D))
                          have HKK : Hid (kk t = 2400959708) := (by unfold kk; rw [if_neg (by omega)]; rw [if_neg (by omega)]; rw [if_pos (by omega)] : kk t = 2400959708)
                          have HT : Hid (IntKind.u32.wrap (IntKind.u32.wrap (IntKind.u32.wrap (IntKind.u32.wrap (rl5 A + bits .or .u32 (bits .or .u32 (bits .and .u32 B C) (bits .and .u32 B D)) (bits .and .u32 C D)) + E) + 2400959708) + wsch p t) = tt (wsch p) t A B C D E) := (by unfold tt; rw [HF.out, HKK.out] : _ = tt (wsch p) t A B C D E)
                          have fu : U32 (bits .or .u32 (bits .or .u32 (bits .and .u32 B C) (bits .and .u32 B D)) (bits .and .u32 C D)) := bits_u32 _ _ _
                          have q0 : ¬ (60 : Int) ≤ (t : Int) := by omega
                          have q1 : (40 : Int) ≤ (t : Int) := by omega
                          clear HF HKK
                          go_wp2
                          go_region_held3 (fun X => X.cell? ⟨B8, t, none⟩ = some (.int .u32 (wsch p t))) (exact hcw) (first | (go_at_call 24; refine (left5_any A uA _).mono ?_; rintro e w' ⟨rfl, rfl⟩))
                          go_wp2_with fail
                          refine (left30_any B uB _).mono ?_
                          rintro e w' ⟨rfl, hw'⟩
                          rw [hw']
                          clear hw' w'
                          go_wp2
                          exact ⟨⟨t + 1, by omega, by go_num, by rw [HS1.out, HT.out], by rw [HS1.out], by rw [HS1.out], by rw [HS1.out], by rw [HS1.out], K8.out, K0.out, HV.out.block rfl, HB.out.drew⟩, by simp [intOf]; omega⟩
                      · as_aux_lemma =>
                          have HF : Hid (ff t B C D = bits .xor .u32 (bits .xor .u32 B C) D) := (by unfold ff; rw [if_neg (by omega)]; rw [if_neg (by omega)]; rw [if_neg (by omega)]; skip : ff t B C D = bits .xor .u32 (bits .xor .u32 B C) D)
                          have HKK : Hid (kk t = 3395469782) := (by unfold kk; rw [if_neg (by omega)]; rw [if_neg (by omega)]; rw [if_neg (by omega)]; skip : kk t = 3395469782)
                          have HT : Hid (IntKind.u32.wrap (IntKind.u32.wrap (IntKind.u32.wrap (IntKind.u32.wrap (rl5 A + bits .xor .u32 (bits .xor .u32 B C) D) + E) + 3395469782) + wsch p t) = tt (wsch p) t A B C D E) := (by unfold tt; rw [HF.out, HKK.out] : _ = tt (wsch p) t A B C D E)
                          have fu : U32 (bits .xor .u32 (bits .xor .u32 B C) D) := bits_u32 _ _ _
                          have q0 : (60 : Int) ≤ (t : Int) := by omega
                          clear HF HKK
                          go_wp2
                          go_region_held3 (fun X => X.cell? ⟨B8, t, none⟩ = some (.int .u32 (wsch p t))) (exact hcw) (first | (go_at_call 24; refine (left5_any A uA _).mono ?_; rintro e w' ⟨rfl, rfl⟩))
                          go_wp2_with fail
                          refine (left30_any B uB _).mono ?_
                          rintro e w' ⟨rfl, hw'⟩
                          rw [hw']
                          clear hw' w'
                          go_wp2
                          exact ⟨⟨t + 1, by omega, by go_num, by rw [HS1.out, HT.out], by rw [HS1.out], by rw [HS1.out], by rw [HS1.out], by rw [HS1.out], K8.out, K0.out, HV.out.block rfl, HB.out.drew⟩, by simp [intOf]; omega⟩
                    · as_aux_lemma =>
                        obtain rfl : t = 80 := by omega
                        rw [show (((80 : Nat)) : Int) = (80 : Int) from rfl]
                        have HEa : Hid ((s.a + (rnds (wsch p) 80 s).a) % 4294967296 = (stirS s p).a) := (by rw [← IntKind.wrap_u32]; rfl : (s.a + (rnds (wsch p) 80 s).a) % 4294967296 = (stirS s p).a)
                        have HEb : Hid ((s.b + (rnds (wsch p) 80 s).b) % 4294967296 = (stirS s p).b) := (by rw [← IntKind.wrap_u32]; rfl : (s.b + (rnds (wsch p) 80 s).b) % 4294967296 = (stirS s p).b)
                        have HEc : Hid ((s.c + (rnds (wsch p) 80 s).c) % 4294967296 = (stirS s p).c) := (by rw [← IntKind.wrap_u32]; rfl : (s.c + (rnds (wsch p) 80 s).c) % 4294967296 = (stirS s p).c)
                        have HEd : Hid ((s.d + (rnds (wsch p) 80 s).d) % 4294967296 = (stirS s p).d) := (by rw [← IntKind.wrap_u32]; rfl : (s.d + (rnds (wsch p) 80 s).d) % 4294967296 = (stirS s p).d)
                        have HEe : Hid ((s.e + (rnds (wsch p) 80 s).e) % 4294967296 = (stirS s p).e) := (by rw [← IntKind.wrap_u32]; rfl : (s.e + (rnds (wsch p) 80 s).e) % 4294967296 = (stirS s p).e)
                        generalize (rnds (wsch p) 80 s).a = A at *
                        generalize (rnds (wsch p) 80 s).b = B at *
                        generalize (rnds (wsch p) 80 s).c = C at *
                        generalize (rnds (wsch p) 80 s).d = D at *
                        generalize (rnds (wsch p) 80 s).e = E at *
                        have ca : wr.cell? ⟨Bh, 0, none⟩ = some (.int .u32 s.a) := K0.out.cell 0 _ rfl
                        have cb : ∀ v, (wr.setCell ⟨Bh, 0, none⟩ v).cell? ⟨Bh, 1, none⟩ = some (.int .u32 s.b) := fun v => (K0.out.set 0 v).cell 1 _ rfl
                        have cc : ∀ v v2, ((wr.setCell ⟨Bh, 0, none⟩ v).setCell ⟨Bh, 1, none⟩ v2).cell? ⟨Bh, 2, none⟩ = some (.int .u32 s.c) := fun v v2 => ((K0.out.set 0 v).set 1 v2).cell 2 _ rfl
                        have cd : ∀ v v2 v3, (((wr.setCell ⟨Bh, 0, none⟩ v).setCell ⟨Bh, 1, none⟩ v2).setCell ⟨Bh, 2, none⟩ v3).cell? ⟨Bh, 3, none⟩ = some (.int .u32 s.d) := fun v v2 v3 => (((K0.out.set 0 v).set 1 v2).set 2 v3).cell 3 _ rfl
                        have ce : ∀ v v2 v3 v4, ((((wr.setCell ⟨Bh, 0, none⟩ v).setCell ⟨Bh, 1, none⟩ v2).setCell ⟨Bh, 2, none⟩ v3).setCell ⟨Bh, 3, none⟩ v4).cell? ⟨Bh, 4, none⟩ = some (.int .u32 s.e) := fun v v2 v3 v4 => ((((K0.out.set 0 v).set 1 v2).set 2 v3).set 3 v4).cell 4 _ rfl
                        have fa : wr.frozen? ⟨Bh, 0, none⟩ = false := K0.out.free 0
                        have fb : ∀ v, (wr.setCell ⟨Bh, 0, none⟩ v).frozen? ⟨Bh, 1, none⟩ = false := fun v => (K0.out.set 0 v).free 1
                        have fc : ∀ v v2, ((wr.setCell ⟨Bh, 0, none⟩ v).setCell ⟨Bh, 1, none⟩ v2).frozen? ⟨Bh, 2, none⟩ = false := fun v v2 => ((K0.out.set 0 v).set 1 v2).free 2
                        have fd : ∀ v v2 v3, (((wr.setCell ⟨Bh, 0, none⟩ v).setCell ⟨Bh, 1, none⟩ v2).setCell ⟨Bh, 2, none⟩ v3).frozen? ⟨Bh, 3, none⟩ = false := fun v v2 v3 => (((K0.out.set 0 v).set 1 v2).set 2 v3).free 3
                        have fe : ∀ v v2 v3 v4, ((((wr.setCell ⟨Bh, 0, none⟩ v).setCell ⟨Bh, 1, none⟩ v2).setCell ⟨Bh, 2, none⟩ v3).setCell ⟨Bh, 3, none⟩ v4).frozen? ⟨Bh, 4, none⟩ = false := fun v v2 v3 v4 => ((((K0.out.set 0 v).set 1 v2).set 2 v3).set 3 v4).free 4
                        have HF5 : Hid (∀ v v2 v3 v4 v5, Blk (((((wr.setCell ⟨Bh, 0, none⟩ v).setCell ⟨Bh, 1, none⟩ v2).setCell ⟨Bh, 2, none⟩ v3).setCell ⟨Bh, 3, none⟩ v4).setCell ⟨Bh, 4, none⟩ v5) Bh [v, v2, v3, v4, v5] ∧ RowM w.heap.size (((((wr.setCell ⟨Bh, 0, none⟩ v).setCell ⟨Bh, 1, none⟩ v2).setCell ⟨Bh, 2, none⟩ v3).setCell ⟨Bh, 3, none⟩ v4).setCell ⟨Bh, 4, none⟩ v5) g cap M ∧ Below w.heap.size w (((((wr.setCell ⟨Bh, 0, none⟩ v).setCell ⟨Bh, 1, none⟩ v2).setCell ⟨Bh, 2, none⟩ v3).setCell ⟨Bh, 3, none⟩ v4).setCell ⟨Bh, 4, none⟩ v5)) := fun v v2 v3 v4 v5 => ⟨((((K0.out.set 0 v).set 1 v2).set 2 v3).set 3 v4).set 4 v5, (((((HV.out.setOther HgB.out v).setOther HgB.out v2).setOther HgB.out v3).setOther HgB.out v4).setOther HgB.out v5), (((((HB.out.setCell hBh v).setCell hBh v2).setCell hBh v3).setCell hBh v4).setCell hBh v5)⟩
                        have HLs : Hid (wv (stirS s p).l = [.int .u32 (stirS s p).a, .int .u32 (stirS s p).b, .int .u32 (stirS s p).c, .int .u32 (stirS s p).d, .int .u32 (stirS s p).e]) := rfl
                        go_wp2
                        rw [HEa.out, HEb.out, HEc.out, HEd.out, HEe.out]
                        exact ⟨⟨q + 1, a + 64, (by rw [HQ.out]; omega : a + 64 = 64 * (q + 1)), by omega, by go_num, (by rw [HSt.out, HLs.out]; exact (HF5.out _ _ _ _ _).1 : Blk _ Bh _), (HF5.out _ _ _ _ _).2.1, (HF5.out _ _ _ _ _).2.2⟩, by simp [intOf]; omega⟩
            · obtain rfl : a = N := by omega
              have hlti : ¬ ((a : Nat) : Int) < (a : Int) := by omega
              have HF : Hid (M.take (64 * q) = M) := (by rw [← HQ.out]; exact List.take_of_length_le (Nat.le_of_eq HLN.out) : M.take (64 * q) = M)
              have HK : Hid (Blk wr Bh (wv (runS h0 M).l)) := (by have := K0.out; rwa [HF.out] at this : Blk wr Bh (wv (runS h0 M).l))
              clear K0 HV HF HQ HgB
              obtain ⟨oka, okb, okc, okd, oke⟩ := runS_ok h0 h0_ok M
              generalize runS h0 M = s1 at *
              have HOw : Hid (Own (Bh + 1) (.slice (some ⟨wr.heap.size, 0, none⟩) 0 0) [] (wr.alloc (.cells #[] 5))) := by
                have h1 : Own wr.heap.size (.slice (some ⟨wr.heap.size, 0, none⟩) 0 0) [] (wr.alloc (.cells #[] 5)) := own_made wr 0 (by omega) #[] rfl
                have h2 := HK.out.lt
                exact ⟨h1.1, by
                  rcases h1.2 with h | ⟨g, cap, cur, e, hb, r⟩
                  · exact .inl h
                  · exact .inr ⟨g, cap, cur, e, by omega, r⟩⟩
              have HKA : Hid (Blk (wr.alloc (.cells #[] 5)) Bh (wv s1.l)) := HK.out.alloc _
              have HBA : Hid (Below w.heap.size w (wr.alloc (.cells #[] 5))) := HB.out.alloc hsz _
              go_wp2
              go_loopw [19, 20] (fun v i wr => ∃ k : Nat, k ≤ 5 ∧ i = .int .i64 k ∧ Hid (Own (Bh + 1) v ((sumB s1).take (4 * k)) wr) ∧ Hid (Blk wr Bh (wv s1.l)) ∧ Hid (Below w.heap.size w wr)) (fun _ i _ => 5 - (intOf i).toNat)
              case atStart => exact ⟨0, by omega, rfl, HOw.out, HKA.out, HBA.out⟩
              case round =>
                clear HOw HKA HBA HK HB hsz
                obtain ⟨k, hk5, rfl, HO, HK, HB⟩ := hrel
                have hsz : Bh + 1 ≤ wr.heap.size := HK.out.lt
                by_cases hk9 : k < 5
                · as_aux_lemma =>
                    have hki : ((k : Nat) : Int) < 5 := by omega
                    have HGk : Hid ((wv s1.l)[k]? = some (.int .u32 (nx s1 k))) := nx_get s1 k hk9
                    have okk := nx_ok s1 ⟨oka, okb, okc, okd, oke⟩ k hk9
                    have HNx : Hid ((sumB s1).take (4 * (k + 1)) = (sumB s1).take (4 * k) ++ wb (nx s1 k)) := nx_take s1 k hk9
                    generalize nx s1 k = xk at *
                    have HWk : Hid (∀ u0 u1 u2 u3 : UInt8, xk / 16777216 = (u0.toNat : Int) → xk / 65536 % 256 = (u1.toNat : Int) → xk / 256 % 256 = (u2.toNat : Int) → xk % 256 = (u3.toNat : Int) → wb xk = [u0, u1, u2, u3]) := fun u0 u1 u2 u3 h0 h1 h2 h3 => wb_eq _ okk u0 u1 u2 u3 h0 h1 h2 h3
                    obtain ⟨e0, e1⟩ := okk
                    obtain ⟨u0, hu0⟩ : ∃ u : UInt8, xk / 16777216 = (u.toNat : Int) := ⟨UInt8.ofNat (xk / 16777216).toNat, by rw [ofNat_lt (by omega)]; omega⟩
                    obtain ⟨u1, hu1⟩ : ∃ u : UInt8, xk / 65536 % 256 = (u.toNat : Int) := ⟨UInt8.ofNat (xk / 65536 % 256).toNat, by rw [ofNat_lt (by omega)]; omega⟩
                    obtain ⟨u2, hu2⟩ : ∃ u : UInt8, xk / 256 % 256 = (u.toNat : Int) := ⟨UInt8.ofNat (xk / 256 % 256).toNat, by rw [ofNat_lt (by omega)]; omega⟩
                    obtain ⟨u3, hu3⟩ : ∃ u : UInt8, xk % 256 = (u.toNat : Int) := ⟨UInt8.ofNat (xk % 256).toNat, by rw [ofNat_lt (by omega)]; omega⟩
                    have HWw : Hid (wb xk = [u0, u1, u2, u3]) := HWk.out u0 u1 u2 u3 hu0 hu1 hu2 hu3
                    clear HWk
                    have l0 := u0.toNat_lt
                    have y0 : IntKind.u8.wrap ((u0.toNat : Nat) : Int) = (u0.toNat : Int) := by rw [IntKind.wrap_u8]; omega
                    have y1 : IntKind.u8.wrap (xk / 65536) = (u1.toNat : Int) := by rw [IntKind.wrap_u8]; omega
                    have y2 : IntKind.u8.wrap (xk / 256) = (u2.toNat : Int) := by rw [IntKind.wrap_u8]; omega
                    have y3 : IntKind.u8.wrap xk = (u3.toNat : Int) := by rw [IntKind.wrap_u8]; omega
                    have cK : wr.drew.cell? ⟨Bh, k, none⟩ = some (.int .u32 xk) := HK.out.cell k _ HGk.out
                    have HKd : Hid (Blk wr.drew Bh (wv s1.l)) := HK.out
                    have HOd : Hid (Own (Bh + 1) u19 ((sumB s1).take (4 * k)) wr.drew) := HO.out
                    have HLb : Hid (((sumB s1).take (4 * k)).length + 4 ≤ 140737488355328) := (by rw [List.length_take]; omega : ((sumB s1).take (4 * k)).length + 4 ≤ 140737488355328)
                    have HCS : Hid ((#[Value.int .u8 (u0.toNat : Int), Value.int .u8 (u1.toNat : Int), Value.int .u8 (u2.toNat : Int), Value.int .u8 (u3.toNat : Int)] : Array Value).toList = bv [u0, u1, u2, u3]) := (rfl : (#[Value.int .u8 (u0.toNat : Int), Value.int .u8 (u1.toNat : Int), Value.int .u8 (u2.toNat : Int), Value.int .u8 (u3.toNat : Int)] : Array Value).toList = bv [u0, u1, u2, u3])
                    generalize (sumB s1).take (4 * k) = tk at *
                    go_wp2
                    go_region_held_law (fun Y => Y.cell? ⟨Bh, k, none⟩ = some (.int .u32 xk)) (first | exact cK | exact (HKd.out.alloc _).cell k _ HGk.out | exact (HKd.out.belowAt HB2.out (Nat.lt_succ_self _)).cell k _ HGk.out) (first | (refine step_app rfl (.tmp 226) (.tmp 246) rfl (Bh + 1) u19 tk [u0, u1, u2, u3] 4 rfl wr.drew _ HCS.out (by simp [Act.eval, Act.put]) HOd.out (by simp [Act.eval, Act.put]) HLb.out hsz ?_; intro v2 w2 HO2 HB2))
                    all_goals go_wp2
                    all_goals exact ⟨⟨k + 1, by omega, by go_num, (by rw [HNx.out, HWw.out]; exact HO2.out : Own (Bh + 1) _ ((sumB s1).take (4 * (k + 1))) _), HKd.out.belowAt HB2.out (Nat.lt_succ_self _), HB.out.drew.trans (HB2.out.mono (by omega))⟩, by simp [intOf]; omega⟩
                · obtain rfl : k = 5 := by omega
                  have hbk := back wr _ _ HO.out.rd
                  rw [show (sumB s1).take (4 * 5) = sumB s1 from rfl, ← HR.out] at hbk
                  go_wp2
                  go_ret
                  exact ⟨rfl, HB.out⟩

end Bs
end Go.Proofs.YtcnjnlmjgbmjnabDoor
