/-
  HandleRefers.
-/
import Derived.Test.YtlfobdjbnpgchaaGreatDoorMgJ
import Derived.Test.YtlfobdjbnpgchaaGreatDoorMgK
import Derived.Test.YtlfobdjbnpgchaaGreatDoorMgL
import Derived.Deep.QuietTactic
set_option linter.unusedVariables false
set_option linter.unusedSimpArgs false
set_option maxRecDepth 100000
namespace Go.Proofs.YtlfobdjbnpgchaaGreatDoor
open Go.RowKit Go.Shelf
namespace Hn
open Oc _root_.Go.Proofs.YtlfobdjbnpgchaaGreatDoor.Ck

def spA : PrA := ([115, 112, 97, 114, 101], [], false)
theorem szA_of {t : List PrA} {p : PrA} (h : p ∈ t) : szA p ≤ sumA t := by
  unfold sumA
  induction t with
  | nil => cases h
  | cons q t ih =>
    rw [List.map_cons, List.sum_cons]
    rcases List.mem_cons.1 h with rfl | h
    · omega
    · have := ih h
      omega
theorem nthA_app {t u : List PrA} {k : Nat} (hk : k < t.length) : nthA (t ++ u) k = nthA t k := by
  unfold nthA
  rw [List.getD_eq_getElem?_getD, List.getD_eq_getElem?_getD, List.getElem?_append_left hk]
theorem nthA_last (t : List PrA) (p : PrA) : nthA (t ++ [p]) t.length = p := by
  unfold nthA
  rw [List.getD_eq_getElem?_getD, List.getElem?_append_right (Nat.le_refl _), Nat.sub_self]
  rfl

theorem RdA.cap {a : Option Addr} {n c : Nat} {t : List PrA} {w : World} (h : RdA (.slice a n c) t w) (ht : t ≠ []) : t.length ≤ c := by
  obtain ⟨a', c', e', h⟩ := h
  injection e' with _ _ e2
  subst e2
  rcases h with h | ⟨_, _, _, h, _⟩
  · exact absurd h ht
  · exact h

theorem capA {a : Option Addr} {n c : Nat} {t : List PrA} {w : World} (h : RdA (.slice a n c) (t ++ [spA]) w) : t.length ≤ c := by
  have := RdA.cap h (by simp)
  rw [List.length_append] at this
  omega

set_option maxHeartbeats 8000000 in
theorem walk_HandleRefers (s : ByteArray) (hs : s.size ≤ 1048576) (v : Value) (t : List PrA) (hb : bulkA t ≤ 1048576) (w : World) (hrd : RdA v t w) (hnil : NilA v t) :
    Calls Tryz.prog 3 #[.string s, v] w fun e w' => e = .returned (.bool true) ∧ Below w.heap.size w w' := by
  unfold bulkA at hb
  have hM : ∀ p ∈ t, p.2.1.length ≤ 1048576 := fun p hp => by
    have h := szA_of hp
    unfold szA at h
    omega
  have htl : t.length ≤ 1048576 := by omega
  have HA : Hid (∀ W, Calls Tryz.prog 6 #[] W fun e w' => e = .returned (.bool true) ∧ Below W.heap.size W w') := fun W => awake_any W
  have HRd : Hid (RdA v t w) := hrd
  obtain ⟨X, E, hXE⟩ : ∃ X E, X = str (refR t s.data.toList).1 ∧ E = (refR t s.data.toList).2 := ⟨_, _, rfl, rfl⟩
  have HRf : Hid (∀ u W, RdA u t W → Calls Tryz.prog 7 #[.string s, u] W fun e w' => e = .returned (.tuple #[.string X, .int .i64 E]) ∧ Below W.heap.size W w') := fun u W h => by
    rw [hXE.1, hXE.2]
    exact Refer_any s hs u t hM (by omega) W h
  have HRr : Hid (∀ u W, RdA u t W → Calls Tryz.prog 8 #[.string s, u] W fun e w' => e = .returned (.tuple #[.string X, .int .i64 E]) ∧ Below W.heap.size W w') := fun u W h => by
    rw [hXE.1, hXE.2]
    exact rRefer_any s hs u t hM (by omega) W h
  have HPm : Hid (∀ W, RdA v t W → Calls Tryz.prog 9 #[v] W fun e w' => ∃ u, e = .returned u ∧ OwnA 77 W.heap.size u t w' ∧ Below W.heap.size W w') := fun W h => params18_any v t W h (by omega)
  have HNl : Hid (NilA v t) := hnil
  obtain ⟨av, cv, rfl, _⟩ := id hrd
  clear hrd hM hb hXE hnil
  go_enter Tryz.func3, Tryz.ntmps3
  go_wp2_with fail
  refine (HA.out _).mono ?_
  rintro e w1 ⟨rfl, hb1⟩
  have hbe : Below w1.heap.size w1 (w1.alloc (.cells #[] 25)) := (Below.refl _ w1).alloc (Nat.le_refl _) _
  have HOe : Hid (OwnA 25 w.heap.size (.slice (some ⟨w1.heap.size, 0, none⟩) 0 0) [] (w1.alloc (.cells #[] 25))) := (ownA_empty 25 w1 hb1.size : OwnA _ _ _ _ _)
  have HBe : Hid (Below w.heap.size w (w1.alloc (.cells #[] 25))) := bel_tr hb1 hbe hb1.size
  have HRe : Hid (RdA (.slice av t.length cv) t (w1.alloc (.cells #[] 25))) := HRd.out.below HBe.out
  have HSe : Hid (w.heap.size ≤ (w1.alloc (.cells #[] 25)).heap.size) := HBe.out.size
  have HSp : Hid ((⟨#[115, 112, 97, 114, 101]⟩ : ByteArray) = str spA.1) := rfl
  have HSq : Hid ((⟨#[]⟩ : ByteArray) = str spA.2.1) := rfl
  clear hb1 hbe HA
  go_wp2_with (at_builtin; first
    | (refine wp_appAs 25 22 infoA Tryz.underlying22 rfl (.tmp 14) (.tmp 15) rfl w.heap.size _ _ [] t rfl HOe.out rfl HRe.out HNl.out (by simp; omega) HSe.out ?_; intro v3 w3 o3 b3; obtain ⟨fa, fc, e3⟩ := ownA_form o3; subst e3; rw [List.nil_append] at o3 ⊢; have HO3 : Hid (OwnA 25 w.heap.size (.slice fa t.length fc) t w3) := (o3 : OwnA _ _ _ _ _); have HB3 : Hid (Below w.heap.size w w3) := HBe.out.trans b3; have HS3 : Hid (w.heap.size ≤ w3.heap.size) := HB3.out.size; clear o3 b3)
    | (refine wp_appA 25 22 infoA Tryz.underlying22 rfl (.tmp 16) (.tmp 18) rfl w.heap.size _ t _ spA _ _ HSp.out HSq.out _ rfl rfl HO3.out _ rfl (by simp) (by omega) HS3.out ?_; intro v5 w5 o5 b5; obtain ⟨ga, gc, e5⟩ := ownA_form o5; subst e5; have HO5 : Hid (OwnA 25 w.heap.size (.slice ga (t ++ [spA]).length gc) (t ++ [spA]) w5) := o5; have HB5 : Hid (Below w.heap.size w w5) := HB3.out.trans b5; have hcap : t.length ≤ gc := (capA o5.rd); have hcap2 : (t.length : Int) ≤ (gc : Int) := (by omega); clear o5 b5))
  have hl1 : (t ++ [spA]).length = t.length + 1 := by rw [List.length_append]; rfl
  have F_5 : Hid (RdA (.slice ga (t.length + 1) gc) (t ++ [spA]) w5) := (by have := HO5.out.rd; rw [hl1] at this; exact this : RdA _ _ _)
  have U_5 : Hid (RdA (.slice ga t.length gc) t w5) := (rdA_front F_5.out : RdA _ _ _)
  clear HO3 HB3 HS3 HO5 HOe HBe HRe HSe HSp HSq
  refine (HRf.out _ w5 U_5.out).mono ?_
  rintro e w6 ⟨rfl, hb6⟩
  have HB6 : Hid (Below w.heap.size w w6) := bel_tr HB5.out hb6 HB5.out.size
  have F_6 : Hid (RdA (.slice ga (t.length + 1) gc) (t ++ [spA]) w6) := F_5.out.below hb6
  clear hb6 HB5 F_5 U_5 HRf
  go_wp2_with fail
  refine (HPm.out w6 (HRd.out.below HB6.out)).mono ?_
  rintro e w7 ⟨u7, rfl, ho7, hb7⟩
  have HB7 : Hid (Below w.heap.size w w7) := bel_tr HB6.out hb7 HB6.out.size
  have F_7 : Hid (RdA (.slice ga (t.length + 1) gc) (t ++ [spA]) w7) := F_6.out.below hb7
  have M_7 : Hid (RdA u7 t w7) := ho7.rd
  clear hb7 ho7 HB6 F_6 HPm
  go_wp2_with fail
  refine (HRr.out u7 w7 M_7.out).mono ?_
  rintro e w8 ⟨rfl, hb8⟩
  have HB8 : Hid (Below w.heap.size w w8) := bel_tr HB7.out hb8 HB7.out.size
  have F_8 : Hid (RdA (.slice ga (t.length + 1) gc) (t ++ [spA]) w8) := F_7.out.below hb8
  clear hb8 HB7 F_7 HRr M_7
  go_wp2
  go_loopw [38] (fun i wr => ∃ k : Nat, k ≤ t.length ∧ i = .int .i64 k ∧ Hid (Below w.heap.size w wr) ∧ Hid (RdA (.slice ga (t.length + 1) gc) (t ++ [spA]) wr)) (fun i _ => t.length - (intOf i).toNat)
  case atStart => exact ⟨0, Nat.zero_le _, rfl, HB8, F_8⟩
  case round =>
    obtain ⟨k, hk, rfl, hbl, hf⟩ := hrel
    obtain ⟨g2, o2, rfl, hgc, q0, q1, q2⟩ := rdA_get (k := k) hf.out (by rw [hl1]; omega)
    by_cases hlt : k < t.length
    · obtain ⟨g, o, rfl, hlc, p0, p1, p2⟩ := rdA_get (k := k) (HRd.out.below hbl.out) hlt
      rw [nthA_app hlt] at q0 q1 q2
      generalize nthA t k = p at *
      obtain ⟨pn, pv, pb⟩ := p
      dsimp only at p0 p1 p2 q0 q1 q2
      generalize str pn = N at *
      generalize str pv = V at *
      obtain ⟨w9, hw9⟩ : ∃ w9, w9 = wr.alloc (.cells #[.string N, .string V, .bool pb] 25) := ⟨_, rfl⟩
      have hb1 : Below wr.heap.size wr w9 := by rw [hw9]; exact (Below.refl _ wr).alloc (Nat.le_refl _) _
      have R1 : w9.heap[wr.heap.size]? = some (.cells #[.string N, .string V, .bool pb] 25 (0, 0)) := by rw [hw9]; exact heap_alloc_new wr _
      have HW9 : Hid (wr.alloc (.cells #[.string N, .string V, .bool pb] 25) = w9) := hw9.symm
      have HB1 : Hid (Below w.heap.size w w9) := bel_trans hbl.out hb1
      have HF1 : Hid (RdA (.slice (some ⟨g2, o2, none⟩) (t.length + 1) gc) (t ++ [spA]) w9) := hf.out.below hb1
      have r0 := Lib.cell_of_heap R1 0
      have r1 := Lib.cell_of_heap R1 1
      have r2 := Lib.cell_of_heap R1 2
      simp at r0 r1 r2
      have s0 : w9.cell? ⟨g2, o2 + k * 3, none⟩ = some (.string N) := by rw [hb1.cell (World.block_lt_of_cell? wr _ q0)]; exact q0
      have s1 : w9.cell? ⟨g2, o2 + k * 3 + 1, none⟩ = some (.string V) := by rw [hb1.cell (World.block_lt_of_cell? wr _ q1)]; exact q1
      have s2 : w9.cell? ⟨g2, o2 + k * 3 + 2, none⟩ = some (.bool pb) := by rw [hb1.cell (World.block_lt_of_cell? wr _ q2)]; exact q2
      clear q0 q1 q2 R1 hb1 hf hbl hw9
      go_wp2_with fail
      rw [HW9.out]
      go_quiet (fail)
      go_wp2_with fail
      exact ⟨⟨k + 1, by omega, by go_num, bel_drewN HB1.out _, HF1.out.below (bel_drewN (Below.refl _ _) _)⟩, by simp [intOf]; omega⟩
    · obtain rfl : k = t.length := by omega
      rw [nthA_last] at q0
      have q0' : wr.cell? ⟨g2, o2 + t.length * 3, none⟩ = some (.string ⟨#[115, 112, 97, 114, 101]⟩) := q0
      have HBf : Hid (Below w.heap.size w wr) := hbl
      clear q0 q1 q2 hf hbl
      go_wp2
      refine bodyPost_ret (v := .bool true) (by simp [results, Tryz.results3, go_sem]) rfl ⟨rfl, HBf.out⟩

end Hn
end Go.Proofs.YtlfobdjbnpgchaaGreatDoor
