/-
  chunk: Decode; the law's awake.
-/
import Derived.Test.YtifhbjkgdnemjaaGreatDoorCkK
import Derived.Test.YtifhbjkgdnemjaaGreatDoorCkL
set_option linter.unusedVariables false
set_option linter.unusedSimpArgs false
set_option maxRecDepth 100000
namespace Go.Proofs.YtifhbjkgdnemjaaGreatDoor
open Go.RowKit Go.Shelf
namespace Ck
open Oc Tg _root_.Go.Proofs.YtifhbjkgdnemjaaGreatDoor.Fd

/-- What Decode answers: body, trailers, bytes or place, error. -/
def decR (most room fields : Int) (l : List UInt8) : List UInt8 × List Fl × Int × Int :=
  if most < 0 ∨ room < 0 ∨ fields < 0 then ([], [], 0, 1)
  else if (eat (new most room fields) l).2.err ≠ 0 then ([], [], (eat (new most room fields) l).1 - 1, (eat (new most room fields) l).2.err)
  else if (eat (new most room fields) l).2.done = false then ([], [], (eat (new most room fields) l).1, 105)
  else ((eat (new most room fields) l).2.body, (eat (new most room fields) l).2.tr, (eat (new most room fields) l).1, 0)

set_option maxHeartbeats 4000000 in
theorem Decode_any (t : ByteArray) (most room fields : Int) (h1 : most ≤ 9223372036854775807) (h2 : room ≤ 9223372036854775807) (h3 : fields ≤ 9223372036854775807) (ht : t.size ≤ 2147483647) (w : World) (he : Env w) :
    Calls Tryz.prog 20 #[.string t, .int .i64 most, .int .i64 room, .int .i64 fields] w fun e w' => ∃ v, e = .returned (.tuple #[.string (str (decR most room fields t.data.toList).1), v, .int .i64 (decR most room fields t.data.toList).2.2.1, .int .i64 (decR most room fields t.data.toList).2.2.2]) ∧ OwnF 39 w.heap.size v (decR most room fields t.data.toList).2.1 w' ∧ Below w.heap.size w w' := by
  by_cases hneg : most < 0 ∨ room < 0 ∨ fields < 0
  · have HN : Hid (Calls Tryz.prog 22 #[.int .i64 most, .int .i64 room, .int .i64 fields] w fun e w' => e = .returned (.tuple #[.pointer none, .int .i64 1]) ∧ Below w.heap.size w w') := New_no most room fields hneg w
    have e : decR most room fields t.data.toList = ([], [], 0, 1) := by unfold decR; rw [if_pos hneg]
    rw [e]
    clear hneg e he
    go_enter Tryz.func20, Tryz.ntmps20
    go_wp2_with fail
    refine HN.out.mono ?_
    rintro e w1 ⟨rfl, hb⟩
    go_wp2
    refine bodyPost_ret (v := .tuple #[.string ⟨#[]⟩, .slice none 0 0, .int .i64 0, .int .i64 1]) (by simp [results, Tryz.results20, go_sem]) rfl ?_
    exact ⟨.slice none 0 0, rfl, ownF_nil _ _ _, hb⟩
  · have hok := Ok.new most room fields ⟨by omega, h1⟩ ⟨by omega, h2⟩ ⟨by omega, h3⟩
    have HN : Hid (Calls Tryz.prog 22 #[.int .i64 most, .int .i64 room, .int .i64 fields] w fun e w' => e = .returned (.tuple #[.pointer (some ⟨w.heap.size, 0, none⟩), .int .i64 0]) ∧ Dec w' w.heap.size (new most room fields) [w.heap.size] ∧ Below w.heap.size w w') := New_ok most room fields (by omega) (by omega) (by omega) w
    have HOK : Hid (Ok (new most room fields) 0) := hok
    have HEn : Hid (Env w) := he
    have hoke := eat_ok t.data.toList _ 0 hok
    have hel := eat_le t.data.toList (new most room fields)
    rw [size_list] at hel
    have HR : Hid (decR most room fields t.data.toList = if (eat (new most room fields) t.data.toList).2.err ≠ 0 then ([], [], ((eat (new most room fields) t.data.toList).1 : Int) - 1, (eat (new most room fields) t.data.toList).2.err)
      else if (eat (new most room fields) t.data.toList).2.done = false then ([], [], ((eat (new most room fields) t.data.toList).1 : Int), 105) else ((eat (new most room fields) t.data.toList).2.body, (eat (new most room fields) t.data.toList).2.tr, ((eat (new most room fields) t.data.toList).1 : Int), 0)) := by
      show decR _ _ _ _ = _
      unfold decR
      rw [if_neg hneg]
    have hfn : feedN (new most room fields) t.data.toList = ((eat (new most room fields) t.data.toList).1 : Int) := by unfold feedN; rw [if_neg (by show ¬ (0 : Nat) = 5; decide)]
    have hfe : feedE (new most room fields) t.data.toList = (eat (new most room fields) t.data.toList).2.err := by unfold feedE; rw [if_neg (by show ¬ (0 : Nat) = 5; decide)]
    have hfs : feedS (new most room fields) t.data.toList = { (eat (new most room fields) t.data.toList).2 with total := (eat (new most room fields) t.data.toList).2.total + (eat (new most room fields) t.data.toList).1 } := by unfold feedS; rw [if_neg (by show ¬ (0 : Nat) = 5; decide)]
    have HFd : Hid (∀ w1, Dec w1 w.heap.size (new most room fields) [w.heap.size] → Below w.heap.size w w1 → Calls Tryz.prog 23 #[.pointer (some ⟨w.heap.size, 0, none⟩), .string t] w1 fun ex w' => ex = .returned (.tuple #[.int .i64 ((eat (new most room fields) t.data.toList).1 : Int), .int .i64 (eat (new most room fields) t.data.toList).2.err]) ∧ ∃ bs', Dec w' w.heap.size { (eat (new most room fields) t.data.toList).2 with total := (eat (new most room fields) t.data.toList).2.total + (eat (new most room fields) t.data.toList).1 } bs' ∧ Goes [w.heap.size] w1 bs' w') := fun w1 hd hb => by
      have h := Feed_any (w0 := w) (k := 0) ⟨HEn.out, hb, fun x hx => by simp at hx; omega⟩ hd HOK.out t (by omega)
      rw [hfn, hfe, hfs] at h
      exact h
    have htl : (eat (new most room fields) t.data.toList).2.tr.length ≤ 2147483648 := by have := hoke.len; omega
    clear hfn hfe hfs hok he hneg hoke
    generalize eat (new most room fields) t.data.toList = r at *
    obtain ⟨n, st⟩ := r
    simp only at HR HFd htl hel
    go_enter Tryz.func20, Tryz.ntmps20
    go_wp2_with fail
    refine HN.out.mono ?_
    rintro e w1 ⟨rfl, hd1, hb1⟩
    have HD1 : Hid (Dec w1 w.heap.size (new most room fields) [w.heap.size]) := hd1
    have HB1 : Hid (Below w.heap.size w w1) := hb1
    clear hd1 hb1 HN
    go_wp2_with fail
    refine (HFd.out _ HD1.out HB1.out).mono ?_
    rintro e w2 ⟨rfl, bs2, hd2, hg2⟩
    have HD2 : Hid (Dec w2 w.heap.size { st with total := st.total + n } bs2) := hd2
    have HB2 : Hid (Below w.heap.size w w2) := hg2.bel (fun x hx => by simp at hx; omega) HB1.out
    clear hd2 hg2 HFd HD1 HB1
    by_cases hE : st.err = 0
    · rw [hE] at HR ⊢
      obtain ⟨vl, vb, vt, c0, c1, c2, c3, c4, c5, c6, c7, c8, c9, c10, cf⟩ := HD2.out.cells
      clear c0 c2 c3 c4 c5 c6 c7 c8 c9 c10
      change w2.cell? ⟨w.heap.size, 1, none⟩ = some (.bool st.done) at c1
      generalize hdn : st.done = dn at *
      cases dn with
      | false =>
        go_wp2
        refine bodyPost_ret (v := .tuple #[.string ⟨#[]⟩, .slice none 0 0, .int .i64 (n : Int), .int .i64 105]) (by simp [results, Tryz.results20, go_sem]) rfl ?_
        rw [HR.out, if_neg (by simp), if_pos (by simp)]
        exact ⟨.slice none 0 0, rfl, ownF_nil _ _ _, HB2.out⟩
      | true =>
        have HBd : Hid (Calls Tryz.prog 38 #[.pointer (some ⟨w.heap.size, 0, none⟩)] w2 fun e w' => e = .returned (.string (str st.body)) ∧ w' = w2) := by
          have h := Body_any HD2.out
          exact h
        have HTr : Hid (Calls Tryz.prog 24 #[.pointer (some ⟨w.heap.size, 0, none⟩)] w2 fun e w' => ∃ v, e = .returned v ∧ OwnF 39 w2.heap.size v st.tr w' ∧ Below w2.heap.size w2 w') := by
          have h := Trailers_any HD2.out htl
          exact h
        have HST : Hid (str st.body = str st.body) := rfl
        obtain ⟨B, hB⟩ : ∃ B, B = str st.body := ⟨_, rfl⟩
        rw [← hB] at HBd
        have HBq : Hid (B = str st.body) := hB
        clear hB HST
        go_wp2_with fail
        refine HBd.out.mono ?_
        rintro e w3 ⟨rfl, hw3⟩
        rw [hw3]
        clear hw3
        go_wp2_with fail
        refine HTr.out.mono ?_
        rintro e w4 ⟨v, rfl, ho4, hb4⟩
        have HO4 : Hid (OwnF 39 w2.heap.size v st.tr w4) := ho4
        have HB4 : Hid (Below w.heap.size w w4) := bel_trans HB2.out hb4
        clear ho4 hb4
        go_wp2
        refine bodyPost_ret (v := .tuple #[.string B, v, .int .i64 (n : Int), .int .i64 0]) (by simp [results, Tryz.results20, go_sem]) rfl ?_
        rw [HR.out, if_neg (by simp), if_neg (by simp), HBq.out]
        refine ⟨v, rfl, ⟨HO4.out.1, ?_⟩, HB4.out⟩
        rcases HO4.out.2 with h | ⟨g, cap, cur, e, hb, r⟩
        · exact .inl h
        · exact .inr ⟨g, cap, cur, e, Nat.le_trans HB2.out.size hb, r⟩
    · have hE1 : (st.err != 0) = true := by simp [hE]
      have HE : Hid (st.err ≠ 0) := hE
      clear hE
      generalize hz : st.err = z at *
      go_wp2
      refine bodyPost_ret (v := .tuple #[.string ⟨#[]⟩, .slice none 0 0, .int .i64 ((n : Int) - 1), .int .i64 z]) (by simp [results, Tryz.results20, go_sem]) rfl ?_
      rw [HR.out, if_pos HE.out]
      exact ⟨.slice none 0 0, rfl, ownF_nil _ _ _, HB2.out⟩

theorem awakeR : decR 2 8 1 [50, 13, 10, 97, 98, 13, 10, 48, 13, 10, 65, 58, 32, 49, 13, 10, 13, 10, 120] = ([97, 98], [([65], [49])], 18, 0) := by decide +kernel

set_option maxHeartbeats 1000000 in
theorem awake_any (w : World) (he : Env w) : Calls Tryz.prog 9 #[] w fun e w' => e = .returned (.bool true) ∧ Below w.heap.size w w' := by
  have HD : Hid (Calls Tryz.prog 20 #[.string ⟨#[50, 13, 10, 97, 98, 13, 10, 48, 13, 10, 65, 58, 32, 49, 13, 10, 13, 10, 120]⟩, .int .i64 2, .int .i64 8, .int .i64 1] w fun e w' => ∃ v, e = .returned (.tuple #[.string ⟨#[97, 98]⟩, v, .int .i64 18, .int .i64 0]) ∧ OwnF 39 w.heap.size v [([65], [49])] w' ∧ Below w.heap.size w w') := by
    have h := Decode_any ⟨#[50, 13, 10, 97, 98, 13, 10, 48, 13, 10, 65, 58, 32, 49, 13, 10, 13, 10, 120]⟩ 2 8 1 (by decide) (by decide) (by decide) (by decide) w he
    rw [show (⟨#[50, 13, 10, 97, 98, 13, 10, 48, 13, 10, 65, 58, 32, 49, 13, 10, 13, 10, 120]⟩ : ByteArray).data.toList = [50, 13, 10, 97, 98, 13, 10, 48, 13, 10, 65, 58, 32, 49, 13, 10, 13, 10, 120] from rfl, awakeR] at h
    exact h
  clear he
  go_enter Tryz.func9, Tryz.ntmps9
  go_wp2_with fail
  refine HD.out.mono ?_
  rintro e w1 ⟨v, rfl, ho, hb⟩
  obtain ⟨a, c, rfl⟩ := ownF_form ho
  have HB : Hid (Below w.heap.size w w1) := hb
  clear hb ho
  go_wp2
  go_ret
  exact ⟨rfl, HB.out⟩

end Ck
end Go.Proofs.YtifhbjkgdnemjaaGreatDoor
