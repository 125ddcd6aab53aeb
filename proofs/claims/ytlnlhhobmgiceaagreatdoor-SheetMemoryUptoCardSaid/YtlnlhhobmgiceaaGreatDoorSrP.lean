/-
  sheet: part, over what fields answers.
-/
import Derived.Test.YtlnlhhobmgiceaaGreatDoorMgO
set_option linter.unusedVariables false
set_option linter.unusedSimpArgs false
namespace Go.Proofs.YtlnlhhobmgiceaaGreatDoor
open Go.RowKit Go.Shelf
namespace Sr
open Oc Tg Mf

def aggP (x : Pt.P5) : Value := .agg #[.string (str x.n), .string (str x.f), .string (str x.m), .string (str x.b), .bool x.h]
def fdsA (l : List UInt8) (a : Nat) : Nat := if (fdsP l a).2.1 = none then (fdsP l a).2.2 else a

theorem Chg.fresh {g : Nat} {w w' : World} (a : Chg g w w') {k : Nat} (hk : w.heap.size ≤ k) (j : Nat) (v : Value) : Chg g w (w'.setCell ⟨k, j, none⟩ v) :=
  ⟨a.os, a.tape, a.out, by simpa [World.setCell] using a.size, fun i h1 h2 => (by simp [World.setCell, Array.getElem?_modify, show k ≠ i by omega] : (w'.setCell ⟨k, j, none⟩ v).heap[i]? = w'.heap[i]?).trans (a.block i h1 h2)⟩
theorem SR.chgo {w : World} {g a : Nat} {s m : ByteArray} (h : SR w g s m a) {p : Addr} (hp : p.block ≠ g) (v : Value) : SR (w.setCell p v) g s m a := by
  unfold SR at *
  simp [World.setCell, Array.getElem?_modify, hp, h]
theorem SR.alloc {w : World} {g a : Nat} {s m : ByteArray} (h : SR w g s m a) (o : Obj) : SR (w.alloc o) g s m a := h.below ((Below.refl _ _).alloc (Nat.le_refl _) _)
theorem Chg.alloc {g : Nat} {w w' : World} (a : Chg g w w') (o : Obj) : Chg g w (w'.alloc o) := a.bel ((Below.refl _ _).alloc (Nat.le_refl _) _)

/-- A part lies in a block. -/
def PB (w : World) (b : Nat) (x : Pt.P5) : Prop := w.heap[b]? = some (.cells #[.string (str x.n), .string (str x.f), .string (str x.m), .string (str x.b), .bool x.h] 49 (0, 0))
theorem PB.chg {w w' : World} {g b : Nat} {x : Pt.P5} (h : PB w b x) (c : Chg g w w') (hb : b ≠ g) : PB w' b x := by
  unfold PB at *
  rw [c.block b (Array.getElem?_eq_some_iff.1 h).1 hb]
  exact h
theorem PB.cells {w : World} {b : Nat} {x : Pt.P5} (h : PB w b x) : w.cell? ⟨b, 0, none⟩ = some (.string (str x.n)) ∧ w.cell? ⟨b, 1, none⟩ = some (.string (str x.f)) ∧ w.cell? ⟨b, 2, none⟩ = some (.string (str x.m)) ∧ w.cell? ⟨b, 3, none⟩ = some (.string (str x.b)) ∧ w.cell? ⟨b, 4, none⟩ = some (.bool x.h) := by
  have : ∀ k : Nat, w.cell? ⟨b, k, none⟩ = #[Value.string (str x.n), .string (str x.f), .string (str x.m), .string (str x.b), .bool x.h][k]? := fun k => by unfold PB at h; simp [World.cell?, h]
  exact ⟨by simpa using this 0, by simpa using this 1, by simpa using this 2, by simpa using this 3, by simpa using this 4⟩
theorem PB.fz {w : World} {b : Nat} {x : Pt.P5} (h : PB w b x) (k : Nat) : w.frozen? ⟨b, k, none⟩ = false := Lib.frozen_of_heap h k

set_option maxRecDepth 100000 in
set_option maxHeartbeats 2000000 in
theorem part_any (g a : Nat) (s : ByteArray) (mk : List UInt8) (ha : a ≤ s.size) (hs : s.size ≤ 4000000000) (hm : mk.length ≤ 4000000) (w : World) (hR : SR w g s (str mk) a) (hw : ∀ W, Chg g w W → ML W)
    (hF : ∀ W, Below w.heap.size w W → Calls Tryz.prog 99 #[.pointer (some ⟨g, 0, none⟩)] W fun e w' => e = .returned (.tuple #[aggP (fdsP s.data.toList a).1, errV (fdsP s.data.toList a).2.1]) ∧ SR w' g s (str mk) (fdsA s.data.toList a) ∧ Chg g W w') :
    Calls Tryz.prog 69 #[.pointer (some ⟨g, 0, none⟩)] w fun e w' => e = .returned (.tuple #[aggP (prtP s.data.toList mk a).1, errV (prtP s.data.toList mk a).2.1]) ∧ SR w' g s (str mk) (prtP s.data.toList mk a).2.2 ∧ Chg g w w' := by
  have hgl := hR.lt
  have hsl : s.data.toList.length = s.size := size_list s
  have HF : Hid (∀ W, Below w.heap.size w W → Calls _ _ _ W _) := hF
  have HRd : Hid (prtP s.data.toList mk a = _) := (by unfold prtP; exact rfl)
  have hfi := fdsP_in s.data.toList a (by omega)
  unfold fdsA at HF
  generalize hFd : fdsP s.data.toList a = F at *
  obtain ⟨x, er, p⟩ := F
  dsimp only at HF HRd hfi
  obtain ⟨w0, hw0⟩ : ∃ w0, w0 = w.alloc (.cells #[.string ⟨#[]⟩, .string ⟨#[]⟩, .string ⟨#[]⟩, .string ⟨#[]⟩, .bool false] 49) := ⟨_, rfl⟩
  have HB0 : Hid (Below w.heap.size w w0) := (by rw [hw0]; exact (Below.refl _ _).alloc (Nat.le_refl _) _ : Below _ _ _)
  cases er with
  | some q =>
    obtain ⟨q1, q2⟩ := q
    unfold aggP at HF
    unfold errV at HF
    dsimp only at HF
    go_enter Tryz.func69, Tryz.ntmps69
    go_wp2_with fail
    rw [← hw0]
    refine (HF.out _ HB0.out).mono ?_
    rintro e w1 ⟨rfl, hr1, hc1⟩
    have HZ : Hid (w1.heap[w.heap.size]? = some (.cells #[.string ⟨#[]⟩, .string ⟨#[]⟩, .string ⟨#[]⟩, .string ⟨#[]⟩, .bool false] 49 (0, 0))) := ((hc1.block w.heap.size (by rw [hw0]; simp) (by omega)).trans (by rw [hw0]; exact heap_alloc_new _ _) : _ = _)
    have hn1 : w.heap.size < w1.heap.size := (Array.getElem?_eq_some_iff.1 HZ.out).1
    have HC1 : Hid (Chg g w w1) := (Chg.of g HB0.out).trans hc1
    have HR1 : Hid (SR w1 g s (str mk) a) := hr1
    clear hr1 hc1 hw0 HB0 HF hF hR hw hfi
    have r : ∀ k : Nat, w1.cell? ⟨w.heap.size, k, none⟩ = #[Value.string ⟨#[]⟩, .string ⟨#[]⟩, .string ⟨#[]⟩, .string ⟨#[]⟩, .bool false][k]? := fun k => by simp [World.cell?, HZ.out]
    have r0 : w1.cell? ⟨w.heap.size, 0, none⟩ = some (.string ⟨#[]⟩) := by simpa using r 0
    have f0 : w1.frozen? ⟨w.heap.size, 0, none⟩ = false := Lib.frozen_of_heap HZ.out 0
    have r1 : w1.cell? ⟨w.heap.size, 1, none⟩ = some (.string ⟨#[]⟩) := by simpa using r 1
    have f1 : w1.frozen? ⟨w.heap.size, 1, none⟩ = false := Lib.frozen_of_heap HZ.out 1
    have r2 : w1.cell? ⟨w.heap.size, 2, none⟩ = some (.string ⟨#[]⟩) := by simpa using r 2
    have f2 : w1.frozen? ⟨w.heap.size, 2, none⟩ = false := Lib.frozen_of_heap HZ.out 2
    have r3 : w1.cell? ⟨w.heap.size, 3, none⟩ = some (.string ⟨#[]⟩) := by simpa using r 3
    have f3 : w1.frozen? ⟨w.heap.size, 3, none⟩ = false := Lib.frozen_of_heap HZ.out 3
    have r4 : w1.cell? ⟨w.heap.size, 4, none⟩ = some (.bool false) := by simpa using r 4
    have f4 : w1.frozen? ⟨w.heap.size, 4, none⟩ = false := Lib.frozen_of_heap HZ.out 4
    clear r
    have hgB : w.heap.size ≠ g := by omega
    have HRf : Hid (prtP s.data.toList mk a = (Pt.p0, some (q1, q2), a)) := (by rw [HRd.out, if_pos (by simp)] : _ = _)
    go_wp2
    refine bodyPost_ret (v := .tuple #[.agg #[.string ⟨#[]⟩, .string ⟨#[]⟩, .string ⟨#[]⟩, .string ⟨#[]⟩, .bool false], .iface 120 (.agg #[.int .i64 q1, .iface 35 (.int .i64 q2)])]) (by simp [results, Tryz.results69, go_sem, r0, r1, r2, r3, r4, hn1]; try rfl) rfl ?_
    rw [HRf.out]
    exact ⟨rfl, (((((HR1.out.chgo hgB _).chgo hgB _).chgo hgB _).chgo hgB _).chgo hgB _).alloc _, ((((((HC1.out.fresh (Nat.le_refl _) _ _).fresh (Nat.le_refl _) _ _).fresh (Nat.le_refl _) _ _).fresh (Nat.le_refl _) _ _).fresh (Nat.le_refl _) _ _).alloc _)⟩
  | none =>
    unfold aggP at HF
    unfold errV at HF
    dsimp only at HF
    simp only [if_true] at HF
    obtain ⟨hp1, hp2⟩ := hfi rfl
    rw [hsl] at hp2
    go_enter Tryz.func69, Tryz.ntmps69
    go_wp2_with fail
    rw [← hw0]
    refine (HF.out _ HB0.out).mono ?_
    rintro e w1 ⟨rfl, hr1, hc1⟩
    have HZ : Hid (w1.heap[w.heap.size]? = some (.cells #[.string ⟨#[]⟩, .string ⟨#[]⟩, .string ⟨#[]⟩, .string ⟨#[]⟩, .bool false] 49 (0, 0))) := ((hc1.block w.heap.size (by rw [hw0]; simp) (by omega)).trans (by rw [hw0]; exact heap_alloc_new _ _) : _ = _)
    have hn1 : w.heap.size < w1.heap.size := (Array.getElem?_eq_some_iff.1 HZ.out).1
    have HC1 : Hid (Chg g w w1) := (Chg.of g HB0.out).trans hc1
    have HR1 : Hid (SR w1 g s (str mk) p) := hr1
    have HML : Hid (∀ W, Chg g w W → ML W) := hw
    clear hr1 hc1 hw0 HB0 HF hF hR hw hfi
    obtain ⟨wA, hwA⟩ : ∃ wA, wA = w1.alloc (.cells #[.string (str x.n), .string (str x.f), .string (str x.m), .string (str x.b), .bool x.h] 49) := ⟨_, rfl⟩
    obtain ⟨w2, hw2⟩ : ∃ w2, w2 = wA.drew := ⟨_, rfl⟩
    have hb2 : Below w1.heap.size w1 w2 := by rw [hw2, hwA]; exact ((Below.refl _ w1).alloc (Nat.le_refl _) _).drew
    have HR2 : Hid (SR w2 g s (str mk) p) := HR1.out.below hb2
    have HC2 : Hid (Chg g w w2) := HC1.out.bel hb2
    have HP2 : Hid (PB w2 w.heap.size Pt.p0) := ((hb2.block _ hn1).trans HZ.out : _ = _)
    have HX2 : Hid (PB w2 w1.heap.size x) := (by rw [hw2, hwA]; exact heap_alloc_new w1 _ : PB _ _ _)
    clear hb2 HR1 HC1 HZ
    have hgB : w.heap.size ≠ g := by omega
    have hgX : w1.heap.size ≠ g := by omega
    have hBX : w1.heap.size ≠ w.heap.size := by omega
    have hex := ext_drop s p
    have HHp : Hid (∀ W, Calls Tryz.prog 96 #[.string (str (s.data.toList.drop p)), .string (str mk)] W fun e w' => e = .returned (.bool (Lib.hasPrefix (s.data.toList.drop p) mk)) ∧ w' = W) := fun W => by
      have := Tryz.strings_HasPrefix (str (s.data.toList.drop p)) (str mk) W
      rw [str_list, str_list] at this
      exact this
    have HBy : Hid (∀ W, SR W g s (str mk) p → ML W → Calls _ _ _ W _) := fun W h1 h2 => bytes_any g p s mk hp2 hs hm W h1 h2
    have HRe : Hid (prtP s.data.toList mk a = _) := HRd.out.trans (by rw [if_neg (by simp), hsl])
    clear HRd hFd
    have hq0 : (0 : Int) ≤ (p : Int) := by omega
    have hq1 : (p : Int) ≤ (s.size : Int) := by omega
    generalize hRR : prtP s.data.toList mk a = R at *
    have HRR : Hid (prtP s.data.toList mk a = R) := hRR
    clear hRR
    generalize bytP (s.data.toList.drop p) mk s.size = Q at *
    obtain ⟨y1, y2, y3⟩ := Q
    dsimp only at HRe HBy
    generalize Lib.hasPrefix (s.data.toList.drop p) mk = b at *
    generalize str (s.data.toList.drop p) = RR at *
    generalize hSM : str mk = SM at *
    have HSM : Hid (str mk = SM) := hSM
    clear hSM
    have HS : Hid (w2.cell? ⟨g, 0, none⟩ = some (.string s) ∧ w2.cell? ⟨g, 1, none⟩ = some (.string SM) ∧ w2.cell? ⟨g, 2, none⟩ = some (.int .i64 (p : Int))) := HR2.out.cells
    clear hsl
    go_wp2_with fail
    rw [← hwA]
    clear hwA
    subst hw2
    go_region_held3 (fun W => W.cell? ⟨g, 0, none⟩ = some (.string s) ∧ W.cell? ⟨g, 1, none⟩ = some (.string SM) ∧ W.cell? ⟨g, 2, none⟩ = some (.int .i64 (p : Int))) (first | with_reducible exact HS.out | go_keep) (first
      | (go_at_call 96; refine (HHp.out _).mono ?_; rintro e w3 ⟨rfl, hw3⟩; rw [hw3]; clear hw3))
    all_goals
      obtain ⟨c0, c1, c2⟩ := HR2.out.cells
      have HPA : Hid (PB wA w.heap.size Pt.p0) := HP2.out
      have HRA : Hid (SR wA g s SM p) := HR2.out
      have HCA : Hid (Chg g w wA) := ⟨HC2.out.os, HC2.out.tape, HC2.out.out, HC2.out.size, HC2.out.block⟩
      obtain ⟨e0, e1, e2⟩ := HRA.out.cells
      have hgB' : g ≠ w.heap.size := hgB.symm
      obtain ⟨d0, d1, d2, d3, d4⟩ := HPA.out.cells
      have z0 := HPA.out.fz 0
      have z1 := HPA.out.fz 1
      have z2 := HPA.out.fz 2
      have z3 := HPA.out.fz 3
      have z4 := HPA.out.fz 4
      cases b with
      | true =>
        have HQ : Hid (R = (Pt.p0, some ((p : Int), 152), p)) := (by rw [HRe.out]; simp : R = _)
        go_wp2_with fail
        go_region_law (fail)
        all_goals go_wp2
        all_goals refine bodyPost_ret (v := .tuple #[.agg #[.string ⟨#[]⟩, .string ⟨#[]⟩, .string ⟨#[]⟩, .string ⟨#[]⟩, .bool false], .iface 120 (.agg #[.int .i64 p, .iface 35 (.int .i64 152)])]) (by simp [results, Tryz.results69, go_sem, d0, d1, d2, d3, d4]; try rfl) rfl ?_
        all_goals rw [HRR.out, HSM.out, HQ.out]
        all_goals exact ⟨rfl, (((((HRA.out.chgo hgB _).chgo hgB _).chgo hgB _).chgo hgB _).chgo hgB _).below (Below.refl _ _).drew.drew, (((((HCA.out.fresh (Nat.le_refl _) _ _).fresh (Nat.le_refl _) _ _).fresh (Nat.le_refl _) _ _).fresh (Nat.le_refl _) _ _).fresh (Nat.le_refl _) _ _).bel (Below.refl _ _).drew.drew⟩
      | false =>
        have HQ : Hid (R = ({ x with b := y1 }, y2, p + y3)) := (by rw [HRe.out]; simp : R = _)
        clear c0 c1 c2 e0 e1 e2 d0 d1 d2 d3 d4 z0 z1 z2 z3 z4
        go_wp2_with fail
        refine (HBy.out _ HR2.out (HML.out _ HC2.out)).mono ?_
        rintro e w5 ⟨rfl, hr5, hc5⟩
        have HR5 : Hid (SR w5 g s SM (p + y3)) := hr5
        have HC5 : Hid (Chg g w w5) := HC2.out.trans hc5
        have HP5 : Hid (PB w5 w.heap.size Pt.p0) := HP2.out.chg hc5 hgB
        have HX5 : Hid (PB w5 w1.heap.size x) := HX2.out.chg hc5 hgX
        clear hr5 hc5 HR2 HC2 HP2 HX2 HBy HML
        obtain ⟨d0, d1, d2, d3, d4⟩ := HP5.out.cells
        obtain ⟨u0, u1, u2, u3, u4⟩ := HX5.out.cells
        have z0 := HP5.out.fz 0
        have z1 := HP5.out.fz 1
        have z2 := HP5.out.fz 2
        have z3 := HP5.out.fz 3
        have z4 := HP5.out.fz 4
        have v0 := HX5.out.fz 3
        obtain ⟨EV, hEV⟩ : ∃ EV, EV = errV y2 := ⟨_, rfl⟩
        rw [← hEV]
        have HEV : Hid (errV y2 = EV) := hEV.symm
        clear hEV
        have hYn : w1.heap.size ≠ w.heap.size := hBX
        have hYm : w.heap.size ≠ w1.heap.size := hBX.symm
        go_wp2
        refine bodyPost_ret (v := .tuple #[.agg #[.string (str x.n), .string (str x.f), .string (str x.m), .string (str y1), .bool x.h], EV]) (by simp [results, Tryz.results69, go_sem, d0, d1, d2, d3, d4, u0, u1, u2, u3, u4, hYn, hYm]; try rfl) rfl ?_
        rw [HRR.out, HSM.out, HQ.out]
        dsimp only
        rw [HEV.out]
        exact ⟨rfl, (((((((HR5.out.chgo hgX _).chgo hgB _).chgo hgB _).chgo hgB _).chgo hgB _).chgo hgB _)), ((((((HC5.out.fresh (Nat.le_of_lt hn1) _ _).fresh (Nat.le_refl _) _ _).fresh (Nat.le_refl _) _ _).fresh (Nat.le_refl _) _ _).fresh (Nat.le_refl _) _ _).fresh (Nat.le_refl _) _ _)⟩

end Sr
end Go.Proofs.YtlnlhhobmgiceaaGreatDoor
