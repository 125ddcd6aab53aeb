/-
  The document's read.
-/
import Derived.Test.YtjngpafokkjkdaaGreatDoorTFr
set_option linter.unusedVariables false
set_option linter.unusedSimpArgs false
namespace Go.Proofs.YtjngpafokkjkdaaGreatDoor
open Go.RowKit
namespace Tt
open Oc

theorem front_nil (l : List UInt8) (a : Nat) (h : l.length ≤ a) : frontR (l.drop a) = ((false, []), 0, false) := by rw [List.drop_eq_nil_of_le h]; rfl
theorem drop_at (l : List UInt8) (a : Nat) (h : a < l.length) : l.drop a = l.getD a 0 :: l.drop (a + 1) := by
  rw [List.drop_eq_getElem_cons h, List.getD_eq_getElem?_getD, List.getElem?_eq_getElem h]
  rfl
theorem two_tags (w : World) (T : Nat) (x : Bool) : TB T ((w.alloc (.cells #[.bool false, .string ⟨#[]⟩] T)).alloc (.cells #[.bool x, .string ⟨#[]⟩] T)) w.heap.size (false, []) ∧ TB T ((w.alloc (.cells #[.bool false, .string ⟨#[]⟩] T)).alloc (.cells #[.bool x, .string ⟨#[]⟩] T)) (w.heap.size + 1) (x, []) ∧ Below w.heap.size w ((w.alloc (.cells #[.bool false, .string ⟨#[]⟩] T)).alloc (.cells #[.bool x, .string ⟨#[]⟩] T)) := by
  refine ⟨?_, ?_, ((Below.refl _ w).alloc (Nat.le_refl _) _).alloc (by simp) _⟩
  · have h1 : TB T (w.alloc (.cells #[.bool false, .string ⟨#[]⟩] T)) w.heap.size (false, []) := heap_alloc_new w _
    exact h1.alloc _
  · have z1 : (w.alloc (.cells #[.bool false, .string ⟨#[]⟩] T)).heap.size = w.heap.size + 1 := by simp
    rw [← z1]
    exact heap_alloc_new _ _

set_option maxRecDepth 100000 in
set_option maxHeartbeats 4000000 in
theorem rread_any (s : ByteArray) (hs : s.size ≤ 4000000000) (a : Nat) (haS : a ≤ s.size) (w : World) :
    Calls Tryz.prog 40 #[.string s, .int .i64 a] w fun e w' => e = .returned (.tuple #[.agg #[.bool (frontR (s.data.toList.drop a)).1.1, .string (str (frontR (s.data.toList.drop a)).1.2)], .int .i64 (a + (frontR (s.data.toList.drop a)).2.1 : Nat), .bool (frontR (s.data.toList.drop a)).2.2]) ∧ Below w.heap.size w w' := by
  have hE : w.heap.size + 1 ≠ w.heap.size := by omega
  have hE2 : w.heap.size ≠ w.heap.size + 1 := by omega
  have hlen : s.data.toList.length = s.size := size_list s
  have HTT : Hid (∀ x, _) := fun x => two_tags w 36 x
  have HX : Hid (∀ b k, s.extract b k = str ((s.data.toList.drop b).take (k - b))) := fun b k => str_ext s b k
  have HAT : Hid (∀ k (h : k < s.size), ((s[k].toNat : Nat) : Int) = ((s.data.toList.getD k 0).toNat : Int)) := fun k h => byt_at s k h
  generalize s.data.toList = L at *
  by_cases h0 : a < s.size
  · have hdr0 := drop_at L a (by rw [hlen]; exact h0)
    have e0 : ((a : Int) == (s.size : Int)) = false := by rw [beq_eq_false_iff_ne]; omega
    have hby0 := HAT.out (a) h0
    have hcb0 := (L.getD (a) 0).toNat_lt
    generalize hc0 : L.getD a 0 = b0 at *
    generalize hci0 : (b0.toNat : Int) = d0 at hby0
    have HCI0 : Hid ((b0.toNat : Int) = d0) := hci0
    clear hci0 hcb0 hc0
    by_cases h87 : d0 = 87
    · subst h87
      have v0 : b0 = 87 := byte_eq (n := 87) (by omega) HCI0.out
      subst v0
      by_cases h1 : a + 1 < s.size
      · have hdr1 := drop_at L (a + 1) (by rw [hlen]; exact h1)
        have e1 : ((a : Int) + 1 == (s.size : Int)) = false := by rw [beq_eq_false_iff_ne]; omega
        have hby1 := HAT.out (a + 1) h1
        have hcb1 := (L.getD (a + 1) 0).toNat_lt
        generalize hc1 : L.getD (a + 1) 0 = b1 at *
        generalize hci1 : (b1.toNat : Int) = d1 at hby1
        have HCI1 : Hid ((b1.toNat : Int) = d1) := hci1
        clear hci1 hcb1 hc1
        by_cases h47 : d1 = 47
        · subst h47
          have v1 : b1 = 47 := byte_eq (n := 47) (by omega) HCI1.out
          subst v1
          by_cases h2 : a + 1 + 1 < s.size
          · have hdr2 := drop_at L (a + 1 + 1) (by rw [hlen]; exact h2)
            have e2 : ((a : Int) + 1 + 1 == (s.size : Int)) = false := by rw [beq_eq_false_iff_ne]; omega
            have hby2 := HAT.out (a + 1 + 1) h2
            have hcb2 := (L.getD (a + 1 + 1) 0).toNat_lt
            generalize hc2 : L.getD (a + 1 + 1) 0 = b2 at *
            generalize hci2 : (b2.toNat : Int) = d2 at hby2
            have HCI2 : Hid ((b2.toNat : Int) = d2) := hci2
            clear hci2 hcb2 hc2
            by_cases h34 : d2 = 34
            · subst h34
              have v2 : b2 = 34 := byte_eq (n := 34) (by omega) HCI2.out
              subst v2
              have HFR : Hid (frontR (L.drop a) = restR true 3 (L.drop (a + 3))) := by
                show _ = _
                rw [hdr0, hdr1, hdr2]
                simp [frontR]
              clear hdr0 hdr1 hdr2
              go_enter Tryz.func40, Tryz.ntmps40
              go_wp2
              go_loopw [1] (fun i wr => ∃ k : Nat, a + 3 + k ≤ s.size ∧ i = .int .i64 (a + 3 + k : Nat) ∧ Hid (bodyR (L.drop (a + 3)) 0 = bodyR (L.drop (a + 3 + k)) k) ∧ Hid (k ≤ 256) ∧ Hid (TB 36 wr w.heap.size (false, [])) ∧ Hid (TB 36 wr (w.heap.size + 1) (true, [])) ∧ Hid (Below w.heap.size w wr)) (fun i _ => s.size - (intOf i).toNat)
              case atStart => exact ⟨0, by omega, rfl, (rfl : _ = _), (by omega : 0 ≤ 256), (HTT.out true).1, (HTT.out true).2.1, (HTT.out true).2.2⟩
              case round =>
                obtain ⟨k, hk, rfl, hst, h256, ha, hc, hb⟩ := hrel
                clear HTT
                have c0 := hc.out.c0
                have c1 := hc.out.c1
                have f0 := hc.out.f 0
                have f1 := hc.out.f 1
                have a0 := ha.out.c0
                have a1 := ha.out.c1
                have g0 := ha.out.f 0
                have g1 := ha.out.f 1
                dsimp only at c0 c1 a0 a1
                have h256' := h256.out
                by_cases hlt : a + 3 + k < s.size
                · have hdr := drop_at L (a + 3 + k) (by rw [hlen]; exact hlt)
                  have hby0 := HAT.out (a + 3 + k) hlt
                  rw [hdr] at hst
                  have hcb := (L.getD (a + 3 + k) 0).toNat_lt
                  have hex : Hid (s.extract (a + 3) (a + 3 + k) = str ((L.drop (a + 3)).take k)) := (by rw [HX.out (a + 3) (a + 3 + k), show a + 3 + k - (a + 3) = k by omega] : _ = _)
                  clear hdr HAT HX
                  generalize L.getD (a + 3 + k) 0 = c at hst hby0 hcb
                  generalize hci : (c.toNat : Int) = ci at hby0
                  have HCI : Hid ((c.toNat : Int) = ci) := hci
                  have hci0 : 0 ≤ ci := by omega
                  have hci1 : ci ≤ 255 := by omega
                  clear hci hcb
                  by_cases h34 : ci = 34
                  · subst h34
                    have hcv : c = 34 := byte_eq (n := 34) (by omega) HCI.out
                    have HE : Hid (frontR (L.drop a) = ((true, (L.drop (a + 3)).take k), 3 + k + 1, true)) := by
                      show _ = _
                      have hb2 : bodyR (L.drop (a + 3)) 0 = (k, true) := by rw [hst.out]; simp [bodyR, hcv]
                      rw [HFR.out]
                      unfold restR
                      rw [hb2]
                      rfl
                    clear hst
                    go_wp2
                    rw [hex.out]
                    refine bodyPost_ret (v := .tuple #[.agg #[.bool true, .string (str ((L.drop (a + 3)).take k))], .int .i64 (a + (3 + k + 1) : Nat), .bool true]) (by rw [show ((a + (3 + k + 1) : Nat) : Int) = ((a + 3 : Nat) : Int) + (k : Int) + 1 by omega]; simp [results, Tryz.results40, go_sem, c0, c1, a0, a1] <;> omega) rfl ?_
                    rw [HE.out]
                    refine ⟨rfl, ?_⟩
                    repeat (first | exact hb.out | refine Below.setCell ?_ (by simp) _)
                  · have n34 : ¬ c = 34 := byte_ne (n := 34) (by omega) (by rw [HCI.out]; omega)
                    have q34 : (ci != 34) = true := by simp; omega
                    have HIT : Hid (inT c = inI ci) := (by rw [inT_int, HCI.out] : inT c = inI ci)
                    cases hin : inI ci with
                    | true =>
                      have hin2 : inT c = true := HIT.out.trans hin
                      by_cases hm : k = 256
                      · subst hm
                        have HE : Hid (frontR (L.drop a) = ((false, []), 3 + 256, false)) := by
                          show _ = _
                          have hb2 : bodyR (L.drop (a + 3)) 0 = (256, false) := by rw [hst.out]; simp [bodyR, n34, hin2]
                          rw [HFR.out]
                          unfold restR
                          rw [hb2]
                          rfl
                        have hq : (((a : Int) + 3 + 256 - ((a : Int) + 1 + 1 + 1)) == 256) = true := by rw [beq_iff_eq]; omega
                        clear hst
                        go_wp2_with (go_at_call 66; refine (rinside_any _ (by omega) (by omega) _).mono ?_; rintro e w' ⟨rfl, rfl⟩)
                        refine bodyPost_ret (v := .tuple #[.agg #[.bool false, .string ⟨#[]⟩], .int .i64 (a + (3 + 256) : Nat), .bool false]) (by simp [results, Tryz.results40, go_sem, c0, c1, a0, a1] <;> omega) rfl ?_
                        rw [HE.out]
                        refine ⟨rfl, ?_⟩
                        repeat (first | exact hb.out | refine Below.setCell ?_ (by simp) _)
                      · have hstn : Hid (bodyR (L.drop (a + 3)) 0 = bodyR (L.drop (a + 3 + (k + 1))) (k + 1)) := by
                          show _ = _
                          rw [hst.out, ← Nat.add_assoc]
                          have hk2 : k < 256 := by omega
                          simp [bodyR, n34, hin2, hk2]
                        have hq : (((a : Int) + 3 + (k : Int) - ((a : Int) + 1 + 1 + 1)) == 256) = false := by rw [beq_eq_false_iff_ne]; omega
                        clear hst
                        go_wp2_with (go_at_call 66; refine (rinside_any _ (by omega) (by omega) _).mono ?_; rintro e w' ⟨rfl, rfl⟩)
                        go_roundw
                        case rel => exact ⟨k + 1, by omega, by go_num, hstn, (by omega : k + 1 ≤ 256), ha, hc, hb⟩
                        case measure => simp [intOf]; omega
                    | false =>
                      have hin2 : inT c = false := HIT.out.trans hin
                      have HE : Hid (frontR (L.drop a) = ((false, []), 3 + k, false)) := by
                        show _ = _
                        have hb2 : bodyR (L.drop (a + 3)) 0 = (k, false) := by rw [hst.out]; simp [bodyR, n34, hin2]
                        rw [HFR.out]
                        unfold restR
                        rw [hb2]
                        rfl
                      clear hst
                      go_wp2_with (go_at_call 66; refine (rinside_any _ (by omega) (by omega) _).mono ?_; rintro e w' ⟨rfl, rfl⟩)
                      refine bodyPost_ret (v := .tuple #[.agg #[.bool false, .string ⟨#[]⟩], .int .i64 (a + (3 + k) : Nat), .bool false]) (by simp [results, Tryz.results40, go_sem, c0, c1, a0, a1] <;> omega) rfl ?_
                      rw [HE.out]
                      refine ⟨rfl, ?_⟩
                      repeat (first | exact hb.out | refine Below.setCell ?_ (by simp) _)
                · have hkk : a + 3 + k = s.size := by omega
                  have HE : Hid (frontR (L.drop a) = ((false, []), 3 + k, false)) := by
                    show _ = _
                    have hb2 : bodyR (L.drop (a + 3)) 0 = (k, false) := by rw [hst.out, List.drop_eq_nil_of_le (by omega)]; rfl
                    rw [HFR.out]
                    unfold restR
                    rw [hb2]
                    rfl
                  clear hst HAT HX
                  go_wp2
                  refine bodyPost_ret (v := .tuple #[.agg #[.bool false, .string ⟨#[]⟩], .int .i64 (a + (3 + k) : Nat), .bool false]) (by simp [results, Tryz.results40, go_sem, c0, c1, a0, a1] <;> omega) rfl ?_
                  rw [HE.out]
                  refine ⟨rfl, ?_⟩
                  repeat (first | exact hb.out | refine Below.setCell ?_ (by simp) _)
            · have m2 : ¬ b2 = 34 := byte_ne (n := 34) (by omega) (by rw [HCI2.out]; omega)
              have q2 : (d2 != 34) = true := by simp; omega
              have HE : Hid (frontR (L.drop a) = ((false, []), 2, false)) := by
                show _ = _
                rw [hdr0, hdr1, hdr2]; simp [frontR, m2]
              clear HTT HX HAT
              go_enter Tryz.func40, Tryz.ntmps40
              go_wp2
              refine bodyPost_ret (v := .tuple #[.agg #[.bool false, .string ⟨#[]⟩], .int .i64 (a + 2 : Nat), .bool false]) (by simp [results, Tryz.results40, go_sem] <;> omega) rfl ?_
              rw [HE.out]
              refine ⟨rfl, ?_⟩
              repeat (first | exact Below.refl _ _ | refine Below.setCell ?_ (by simp) _ | refine Below.alloc ?_ (by simp) _)
          · have hz : a + 2 = s.size := by omega
            have hn2 : L.drop (a + 1 + 1) = [] := List.drop_eq_nil_of_le (by omega)
            have HE : Hid (frontR (L.drop a) = ((false, []), 2, false)) := by
              show _ = _
              rw [hdr0, hdr1, hn2]; simp [frontR]
            clear HTT HX HAT
            go_enter Tryz.func40, Tryz.ntmps40
            go_wp2
            refine bodyPost_ret (v := .tuple #[.agg #[.bool false, .string ⟨#[]⟩], .int .i64 (a + 2 : Nat), .bool false]) (by simp [results, Tryz.results40, go_sem] <;> omega) rfl ?_
            rw [HE.out]
            refine ⟨rfl, ?_⟩
            repeat (first | exact Below.refl _ _ | refine Below.setCell ?_ (by simp) _ | refine Below.alloc ?_ (by simp) _)
        · have m1 : ¬ b1 = 47 := byte_ne (n := 47) (by omega) (by rw [HCI1.out]; omega)
          have q1 : (d1 != 47) = true := by simp; omega
          have HE : Hid (frontR (L.drop a) = ((false, []), 1, false)) := by
            show _ = _
            rw [hdr0, hdr1]; simp [frontR, m1]
          clear HTT HX HAT
          go_enter Tryz.func40, Tryz.ntmps40
          go_wp2
          refine bodyPost_ret (v := .tuple #[.agg #[.bool false, .string ⟨#[]⟩], .int .i64 (a + 1 : Nat), .bool false]) (by simp [results, Tryz.results40, go_sem] <;> omega) rfl ?_
          rw [HE.out]
          refine ⟨rfl, ?_⟩
          repeat (first | exact Below.refl _ _ | refine Below.setCell ?_ (by simp) _ | refine Below.alloc ?_ (by simp) _)
      · have hz : a + 1 = s.size := by omega
        have hn1 : L.drop (a + 1) = [] := List.drop_eq_nil_of_le (by omega)
        have HE : Hid (frontR (L.drop a) = ((false, []), 1, false)) := by
          show _ = _
          rw [hdr0, hn1]; simp [frontR]
        clear HTT HX HAT
        go_enter Tryz.func40, Tryz.ntmps40
        go_wp2
        refine bodyPost_ret (v := .tuple #[.agg #[.bool false, .string ⟨#[]⟩], .int .i64 (a + 1 : Nat), .bool false]) (by simp [results, Tryz.results40, go_sem] <;> omega) rfl ?_
        rw [HE.out]
        refine ⟨rfl, ?_⟩
        repeat (first | exact Below.refl _ _ | refine Below.setCell ?_ (by simp) _ | refine Below.alloc ?_ (by simp) _)
    · have m0 : ¬ b0 = 87 := byte_ne (n := 87) (by omega) (by rw [HCI0.out]; omega)
      have p0 : (d0 == 87) = false := by simp; omega
      by_cases h34 : d0 = 34
      · subst h34
        have v0 : b0 = 34 := byte_eq (n := 34) (by omega) HCI0.out
        subst v0
        have HFR : Hid (frontR (L.drop a) = restR false 1 (L.drop (a + 1))) := by
          show _ = _
          rw [hdr0]
          simp [frontR]
        clear hdr0
        go_enter Tryz.func40, Tryz.ntmps40
        go_wp2
        go_loopw [1] (fun i wr => ∃ k : Nat, a + 1 + k ≤ s.size ∧ i = .int .i64 (a + 1 + k : Nat) ∧ Hid (bodyR (L.drop (a + 1)) 0 = bodyR (L.drop (a + 1 + k)) k) ∧ Hid (k ≤ 256) ∧ Hid (TB 36 wr w.heap.size (false, [])) ∧ Hid (TB 36 wr (w.heap.size + 1) (false, [])) ∧ Hid (Below w.heap.size w wr)) (fun i _ => s.size - (intOf i).toNat)
        case atStart => exact ⟨0, by omega, rfl, (rfl : _ = _), (by omega : 0 ≤ 256), (HTT.out false).1, (HTT.out false).2.1, (HTT.out false).2.2⟩
        case round =>
          obtain ⟨k, hk, rfl, hst, h256, ha, hc, hb⟩ := hrel
          clear HTT
          have c0 := hc.out.c0
          have c1 := hc.out.c1
          have f0 := hc.out.f 0
          have f1 := hc.out.f 1
          have a0 := ha.out.c0
          have a1 := ha.out.c1
          have g0 := ha.out.f 0
          have g1 := ha.out.f 1
          dsimp only at c0 c1 a0 a1
          have h256' := h256.out
          by_cases hlt : a + 1 + k < s.size
          · have hdr := drop_at L (a + 1 + k) (by rw [hlen]; exact hlt)
            have hby0 := HAT.out (a + 1 + k) hlt
            rw [hdr] at hst
            have hcb := (L.getD (a + 1 + k) 0).toNat_lt
            have hex : Hid (s.extract (a + 1) (a + 1 + k) = str ((L.drop (a + 1)).take k)) := (by rw [HX.out (a + 1) (a + 1 + k), show a + 1 + k - (a + 1) = k by omega] : _ = _)
            clear hdr HAT HX
            generalize L.getD (a + 1 + k) 0 = c at hst hby0 hcb
            generalize hci : (c.toNat : Int) = ci at hby0
            have HCI : Hid ((c.toNat : Int) = ci) := hci
            have hci0 : 0 ≤ ci := by omega
            have hci1 : ci ≤ 255 := by omega
            clear hci hcb
            by_cases h34 : ci = 34
            · subst h34
              have hcv : c = 34 := byte_eq (n := 34) (by omega) HCI.out
              have HE : Hid (frontR (L.drop a) = ((false, (L.drop (a + 1)).take k), 1 + k + 1, true)) := by
                show _ = _
                have hb2 : bodyR (L.drop (a + 1)) 0 = (k, true) := by rw [hst.out]; simp [bodyR, hcv]
                rw [HFR.out]
                unfold restR
                rw [hb2]
                rfl
              clear hst
              go_wp2
              rw [hex.out]
              refine bodyPost_ret (v := .tuple #[.agg #[.bool false, .string (str ((L.drop (a + 1)).take k))], .int .i64 (a + (1 + k + 1) : Nat), .bool true]) (by rw [show ((a + (1 + k + 1) : Nat) : Int) = ((a + 1 : Nat) : Int) + (k : Int) + 1 by omega]; simp [results, Tryz.results40, go_sem, c0, c1, a0, a1] <;> omega) rfl ?_
              rw [HE.out]
              refine ⟨rfl, ?_⟩
              repeat (first | exact hb.out | refine Below.setCell ?_ (by simp) _)
            · have n34 : ¬ c = 34 := byte_ne (n := 34) (by omega) (by rw [HCI.out]; omega)
              have q34 : (ci != 34) = true := by simp; omega
              have HIT : Hid (inT c = inI ci) := (by rw [inT_int, HCI.out] : inT c = inI ci)
              cases hin : inI ci with
              | true =>
                have hin2 : inT c = true := HIT.out.trans hin
                by_cases hm : k = 256
                · subst hm
                  have HE : Hid (frontR (L.drop a) = ((false, []), 1 + 256, false)) := by
                    show _ = _
                    have hb2 : bodyR (L.drop (a + 1)) 0 = (256, false) := by rw [hst.out]; simp [bodyR, n34, hin2]
                    rw [HFR.out]
                    unfold restR
                    rw [hb2]
                    rfl
                  have hq : (((a : Int) + 1 + 256 - ((a : Int) + 1)) == 256) = true := by rw [beq_iff_eq]; omega
                  clear hst
                  go_wp2_with (go_at_call 66; refine (rinside_any _ (by omega) (by omega) _).mono ?_; rintro e w' ⟨rfl, rfl⟩)
                  refine bodyPost_ret (v := .tuple #[.agg #[.bool false, .string ⟨#[]⟩], .int .i64 (a + (1 + 256) : Nat), .bool false]) (by simp [results, Tryz.results40, go_sem, c0, c1, a0, a1] <;> omega) rfl ?_
                  rw [HE.out]
                  refine ⟨rfl, ?_⟩
                  repeat (first | exact hb.out | refine Below.setCell ?_ (by simp) _)
                · have hstn : Hid (bodyR (L.drop (a + 1)) 0 = bodyR (L.drop (a + 1 + (k + 1))) (k + 1)) := by
                    show _ = _
                    rw [hst.out, ← Nat.add_assoc]
                    have hk2 : k < 256 := by omega
                    simp [bodyR, n34, hin2, hk2]
                  have hq : (((a : Int) + 1 + (k : Int) - ((a : Int) + 1)) == 256) = false := by rw [beq_eq_false_iff_ne]; omega
                  clear hst
                  go_wp2_with (go_at_call 66; refine (rinside_any _ (by omega) (by omega) _).mono ?_; rintro e w' ⟨rfl, rfl⟩)
                  go_roundw
                  case rel => exact ⟨k + 1, by omega, by go_num, hstn, (by omega : k + 1 ≤ 256), ha, hc, hb⟩
                  case measure => simp [intOf]; omega
              | false =>
                have hin2 : inT c = false := HIT.out.trans hin
                have HE : Hid (frontR (L.drop a) = ((false, []), 1 + k, false)) := by
                  show _ = _
                  have hb2 : bodyR (L.drop (a + 1)) 0 = (k, false) := by rw [hst.out]; simp [bodyR, n34, hin2]
                  rw [HFR.out]
                  unfold restR
                  rw [hb2]
                  rfl
                clear hst
                go_wp2_with (go_at_call 66; refine (rinside_any _ (by omega) (by omega) _).mono ?_; rintro e w' ⟨rfl, rfl⟩)
                refine bodyPost_ret (v := .tuple #[.agg #[.bool false, .string ⟨#[]⟩], .int .i64 (a + (1 + k) : Nat), .bool false]) (by simp [results, Tryz.results40, go_sem, c0, c1, a0, a1] <;> omega) rfl ?_
                rw [HE.out]
                refine ⟨rfl, ?_⟩
                repeat (first | exact hb.out | refine Below.setCell ?_ (by simp) _)
          · have hkk : a + 1 + k = s.size := by omega
            have HE : Hid (frontR (L.drop a) = ((false, []), 1 + k, false)) := by
              show _ = _
              have hb2 : bodyR (L.drop (a + 1)) 0 = (k, false) := by rw [hst.out, List.drop_eq_nil_of_le (by omega)]; rfl
              rw [HFR.out]
              unfold restR
              rw [hb2]
              rfl
            clear hst HAT HX
            go_wp2
            refine bodyPost_ret (v := .tuple #[.agg #[.bool false, .string ⟨#[]⟩], .int .i64 (a + (1 + k) : Nat), .bool false]) (by simp [results, Tryz.results40, go_sem, c0, c1, a0, a1] <;> omega) rfl ?_
            rw [HE.out]
            refine ⟨rfl, ?_⟩
            repeat (first | exact hb.out | refine Below.setCell ?_ (by simp) _)
      · have m1 : ¬ b0 = 34 := byte_ne (n := 34) (by omega) (by rw [HCI0.out]; omega)
        have q1 : (d0 != 34) = true := by simp; omega
        have HE : Hid (frontR (L.drop a) = ((false, []), 0, false)) := by
          show _ = _
          rw [hdr0]; simp [frontR, m0, m1]
        clear HTT HX HAT
        go_enter Tryz.func40, Tryz.ntmps40
        go_wp2
        refine bodyPost_ret (v := .tuple #[.agg #[.bool false, .string ⟨#[]⟩], .int .i64 (a : Nat), .bool false]) (by simp [results, Tryz.results40, go_sem] <;> omega) rfl ?_
        rw [HE.out]
        refine ⟨rfl, ?_⟩
        repeat (first | exact Below.refl _ _ | refine Below.setCell ?_ (by simp) _ | refine Below.alloc ?_ (by simp) _)
  · have hz : a = s.size := by omega
    have HE : Hid (frontR (L.drop a) = ((false, []), 0, false)) := by
      show _ = _
      exact front_nil L a (by omega)
    clear HTT HX HAT
    go_enter Tryz.func40, Tryz.ntmps40
    go_wp2
    refine bodyPost_ret (v := .tuple #[.agg #[.bool false, .string ⟨#[]⟩], .int .i64 (a : Nat), .bool false]) (by simp [results, Tryz.results40, go_sem] <;> omega) rfl ?_
    rw [HE.out]
    refine ⟨rfl, ?_⟩
    repeat (first | exact Below.refl _ _ | refine Below.setCell ?_ (by simp) _ | refine Below.alloc ?_ (by simp) _)

end Tt
end Go.Proofs.YtjngpafokkjkdaaGreatDoor
