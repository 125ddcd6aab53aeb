/-
  The walk of BaseTurns.
-/
import Derived.Test.YtcnjnlmjgbmjnabBFnv
import Derived.Deep.RegionHeld3
set_option linter.unusedVariables false
set_option linter.unusedSimpArgs false
namespace Go.Proofs.Ytcnjnlmjgbmjnab
open Go.RowKit
namespace Bs

theorem below_bytes (w : World) (e : TypeId) (s : ByteArray) : Below w.heap.size w (Lib.bytesWorld w e s) :=
  ⟨by simp [Lib.bytesWorld, World.freeze, World.alloc, World.drew, -World.alloc_eq, -World.drew_eq], by simp [Lib.bytesWorld, World.freeze, World.alloc, World.drew, -World.alloc_eq, -World.drew_eq], by simp [Lib.bytesWorld, World.freeze, World.alloc, World.drew, -World.alloc_eq, -World.drew_eq], by rw [Lib.bytesWorld_size]; omega, fun k hk => Lib.bytesWorld_at_old w e s k hk⟩
theorem bytes_cell (w : World) (e : TypeId) (s : ByteArray) (j : Nat) (hj : j < s.size) : (Lib.bytesWorld w e s).cell? ⟨w.heap.size, j, none⟩ = some (.int .u8 (byt s j)) := Lib.bytesWorld_cell w e s j hj
theorem bytes_free (w : World) (e : TypeId) (s : ByteArray) (j : Nat) (hj : j < s.size) : (Lib.bytesWorld w e s).frozen? ⟨w.heap.size, j, none⟩ = false := by
  unfold World.frozen?
  rw [show (Lib.bytesWorld w e s).heap[w.heap.size]? = _ from Lib.bytesWorld_at_new w e s]
  have hl : s.size ≤ (Lib.bytesCells w e s).size := by simp [Lib.bytesCells]
  simp
  omega

theorem byt_str (l : List UInt8) (j : Nat) : byt (str l) j = ((l.getD j 0).toNat : Int) := by unfold byt; rw [str_list]

set_option maxRecDepth 100000 in
set_option maxHeartbeats 1000000 in
theorem walk_BaseTurns (l : List UInt8) (a : Int) (b : Int) (w : World) (hl : l.length ≤ 140737488351232) (hb0 : 0 ≤ b) (hb1 : b ≤ 255) :
    Calls Try.prog 4 #[.string (str l), .int .i64 a, .int .u8 b] w fun e w' => e = .returned (.bool true) ∧ Below w.heap.size w w' := by
  have hs : (str l).size = l.length := str_size l
  have f0 : ((fnvR [] : Nat) : Int) = 14695981039346656037 := rfl
  have hby : ∀ (k : Nat) (h : k < (str l).size), ((str l)[k]'h) = l.getD k 0 := fun k h => by rw [← at_lt _ k h, str_list]
  rcases (show a < 0 ∨ (l.length : Int) ≤ a ∨ (0 ≤ a ∧ a < (l.length : Int)) by omega) with h | h | ⟨h, h'⟩
  · clear hby
    go_enter Try.func4, Try.ntmps4
    go_wp2_with fail
    refine (awake_any w).mono ?_
    rintro e w2 ⟨rfl, hb2⟩
    go_wp2_with fail
    refine (Fnv_any [] (by simp) w2).mono ?_
    rintro e w3 ⟨rfl, rfl⟩
    rw [f0]
    go_wp2
    go_ret
    exact ⟨rfl, hb2⟩
  · clear hby
    have hn : ¬ a < 0 := by omega
    go_enter Try.func4, Try.ntmps4
    go_wp2_with fail
    refine (awake_any w).mono ?_
    rintro e w2 ⟨rfl, hb2⟩
    go_wp2_with fail
    refine (Fnv_any [] (by simp) w2).mono ?_
    rintro e w3 ⟨rfl, rfl⟩
    rw [f0]
    go_wp2
    go_ret
    exact ⟨rfl, hb2⟩
  · obtain ⟨k, rfl⟩ := Int.eq_ofNat_of_zero_le h
    have hk : k < l.length := by omega
    have hbk := hby k
    clear hby
    have HT : Hid (∀ c : UInt8, l.getD k 0 ≠ c → fnvR l ≠ fnvR (l.set k c)) := fun c hc => fnvR_turns l k hk c hc
    by_cases he : ((l.getD k 0).toNat : Int) = b
    · subst he
      clear HT
      generalize l.getD k 0 = u at *
      go_enter Try.func4, Try.ntmps4
      go_wp2_with fail
      refine (awake_any w).mono ?_
      rintro e w2 ⟨rfl, hb2⟩
      go_wp2_with fail
      refine (Fnv_any [] (by simp) w2).mono ?_
      rintro e w3 ⟨rfl, rfl⟩
      rw [f0]
      go_wp2
      go_ret
      exact ⟨rfl, hb2⟩
    · obtain ⟨c, rfl⟩ : ∃ c : UInt8, b = (c.toNat : Int) := ⟨UInt8.ofNat b.toNat, by rw [ofNat_lt (by omega)]; omega⟩
      have HN : Hid (fnvR l ≠ fnvR (l.set k c)) := HT.out c (fun e => he (by rw [e]))
      clear HT
      have hcv := fun w => Lib.run_convert_string_bytes (P := Try.prog) w 9 27 5 (str l) Try.underlying9 Try.underlying27 Try.underlying5
      have hfz := bytes_free w 5 (str l) k (by omega)
      have hcl := bytes_cell w 5 (str l) k (by omega)
      have HB : Hid (Below w.heap.size w (Lib.bytesWorld w 5 (str l))) := below_bytes w _ _
      have HC : Hid (∀ j, j < l.length → (Lib.bytesWorld w 5 (str l)).cell? ⟨w.heap.size, j, none⟩ = some (.int .u8 ((l.getD j 0).toNat : Int))) := fun j hj => by rw [bytes_cell w _ (str l) j (by omega), byt_str]
      rw [byt_str] at hcl
      have heb : (((l.getD k 0).toNat : Int) == (c.toNat : Int)) = false := by simpa using he
      have HR : RdB ((Lib.bytesWorld w 5 (str l)).setCell ⟨w.heap.size, k, none⟩ (.int .u8 (c.toNat : Int))).drew (.slice (some ⟨w.heap.size, 0, none⟩) l.length (grownCap w l.length 0 5)) (l.set k c) := by
        refine ⟨_, _, by rw [List.length_set], by rw [List.length_set]; exact grownCap_ge w _ _ _, (fun e => by cases e), .inr ⟨_, 0, rfl, fun j x hj => ?_⟩⟩
        rw [Nat.zero_add]
        rw [List.getElem?_set] at hj
        show World.cell? ((Lib.bytesWorld w 5 (str l)).setCell ⟨w.heap.size, k, none⟩ (.int .u8 (c.toNat : Int))) _ = _
        by_cases hjk : k = j
        · subst hjk
          rw [if_pos rfl, if_pos hk] at hj
          cases hj
          exact World.cell?_setCell_same _ _ _ hcl
        · rw [if_neg hjk] at hj
          have hj' := (List.getElem?_eq_some_iff.1 hj).1
          rw [World.cell?_setCell_other _ _ _ _ (by intro e; injection e with _ e2; omega), HC.out j hj', List.getD_eq_getElem?_getD, hj]
          rfl
      have hbk2 := back _ _ _ HR
      have hsl : (l.set k c).length ≤ 140737488355328 := by rw [List.length_set]; omega
      clear HR
      have HB2 : Hid (Below w.heap.size w ((Lib.bytesWorld w 5 (str l)).setCell ⟨w.heap.size, k, none⟩ (.int .u8 (c.toNat : Int))).drew) := (HB.out.setCell (Nat.le_refl _) _).drew
      have hne : (((fnvR l : Nat) : Int) != ((fnvR (l.set k c) : Nat) : Int)) = true := by
        have := HN.out
        simp only [bne_iff_ne, ne_eq]
        omega
      clear HN HC f0
      have hl1 : l.length ≤ 140737488355328 := by omega
      have CF : Hid (∀ (l : List UInt8) (hl : l.length ≤ 140737488355328) (w : World), Calls Try.prog 7 #[.string (str l)] w fun e w' => e = .returned (.int .u64 ((fnvR l : Nat) : Int)) ∧ w' = w) := Fnv_any
      generalize l.set k c = m at *
      generalize l.getD k 0 = u at hbk heb he hcl
      go_enter Try.func4, Try.ntmps4
      go_wp2
      go_region_with (go_at_call 7; refine (CF.out _ (by first | exact hl1 | exact hsl) _).mono ?_; rintro e w3 ⟨rfl, rfl⟩)
      all_goals go_wp2
      all_goals go_ret
      all_goals exact ⟨rfl, HB2.out⟩

end Bs
end Go.Proofs.Ytcnjnlmjgbmjnab
